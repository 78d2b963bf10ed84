/-
  No cell of these rows narrows 'for every input' (looked for: loops, veiled, ifaces, maps, wideKeys, modest, calm, conditions, laid).
  DERIVED. THE GIVEN ROWS OF THIS SEAT. 7 by the template 'for every input the law returns true; each argument reads behind the call as it read before'; 0 by the template 'total and deterministic' (their statements: YtjecphfjkpinlaaTotals.lean).
  GIVEN WITH THE SEED: the statements are not yours to turn. If you find one false, say at which input.
  Laid BY PROGRAM, IN A SANDBOX (cutbox-rows.mjs): the forced cells as the released guide's own fill.sh prints them over the translation 06750396e82029a6… (all of the seat's roots in one cut). By AI agents, Wed Nov 11 2026. No macro, syntax, notation, axiom, sorry.
-/
import Derived.Test.YtjecphfjkpinlaaChecked
import GoSem.Claim
import GoSem.ClaimJoined
import GoSem.ClaimMapViews
import Derived.JoinedTies
import Derived.KernelRfl
namespace Go.Proofs.Ytjecphfjkpinlaa
/- THE CELL 'sum', in the pinned program and in every row, IS THE sha256 OF THE DUMP (.gsa) THAT YtjecphfjkpinlaaProg.lean LOADS. Nothing in Lean hashes anything: it is a label: what it is worth is what the hold of that sum in a sandbox is worth. -/
noncomputable def Try.pinned : Pinned := { name := "ytjecphfjkpinlaa", sum := "06750396e82029a662f02d2404683c5db934a6153d7e21e66ee6e898184271cd", checked := Try.checked }
namespace Rows
def none {H : Type} : Left H := { results := [], args := [] }

/-- 'stilewardlaw2.SmallMeans': WHATEVER THE INPUT: true; the input reads as it did. -/
def smallMeansSpec : ChangeSpec := { name := "smallMeans", fn := fun _ => fun
  | [d1, d2] => { results := [.lit (.bool true)], args := [d1, d2] }
  | _ => none }
def smallMeansRow : OpenClaim := { program := "ytjecphfjkpinlaa", sum := "06750396e82029a662f02d2404683c5db934a6153d7e21e66ee6e898184271cd", func := "stileward/stilewardlaw2.SmallMeans", spec := "smallMeans", plainKeys := false, apart := false }
def SmallMeansSaid : Prop := smallMeansRow.holds Try.pinned (OpenSpec.ofChange smallMeansSpec)

/-- ITS FALSE NEIGHBOUR: 'it returns false'. Refute it at one input. -/
def smallMeansWrong : ChangeSpec := { name := "smallMeans", fn := fun _ => fun
  | [d1, d2] => { results := [.lit (.bool false)], args := [d1, d2] }
  | _ => none }
def SmallMeansWrongFalsely : Prop := smallMeansRow.holds Try.pinned (OpenSpec.ofChange smallMeansWrong)

/-- 'stilewardlaw2.SmallApart': WHATEVER THE INPUT: true; the input reads as it did. -/
def smallApartSpec : ChangeSpec := { name := "smallApart", fn := fun _ => fun
  | [d] => { results := [.lit (.bool true)], args := [d] }
  | _ => none }
def smallApartRow : OpenClaim := { program := "ytjecphfjkpinlaa", sum := "06750396e82029a662f02d2404683c5db934a6153d7e21e66ee6e898184271cd", func := "stileward/stilewardlaw2.SmallApart", spec := "smallApart", recurses := true, plainKeys := false, apart := false }
def SmallApartSaid : Prop := smallApartRow.holds Try.pinned (OpenSpec.ofChange smallApartSpec)

/-- ITS FALSE NEIGHBOUR: 'it returns false'. Refute it at one input. -/
def smallApartWrong : ChangeSpec := { name := "smallApart", fn := fun _ => fun
  | [d] => { results := [.lit (.bool false)], args := [d] }
  | _ => none }
def SmallApartWrongFalsely : Prop := smallApartRow.holds Try.pinned (OpenSpec.ofChange smallApartWrong)

/-- 'stilewardlaw2.SmallWord': WHATEVER THE INPUT: true; the input reads as it did. -/
def smallWordSpec : ChangeSpec := { name := "smallWord", fn := fun _ => fun
  | [d1, d2, d3] => { results := [.lit (.bool true)], args := [d1, d2, d3] }
  | _ => none }
def smallWordRow : OpenClaim := { program := "ytjecphfjkpinlaa", sum := "06750396e82029a662f02d2404683c5db934a6153d7e21e66ee6e898184271cd", func := "stileward/stilewardlaw2.SmallWord", spec := "smallWord", plainKeys := false, apart := false }
def SmallWordSaid : Prop := smallWordRow.holds Try.pinned (OpenSpec.ofChange smallWordSpec)

/-- ITS FALSE NEIGHBOUR: 'it returns false'. Refute it at one input. -/
def smallWordWrong : ChangeSpec := { name := "smallWord", fn := fun _ => fun
  | [d1, d2, d3] => { results := [.lit (.bool false)], args := [d1, d2, d3] }
  | _ => none }
def SmallWordWrongFalsely : Prop := smallWordRow.holds Try.pinned (OpenSpec.ofChange smallWordWrong)

/-- 'stilewardlaw2.DfaMeans': WHATEVER THE INPUT: true; the input reads as it did. -/
def dfaMeansSpec : ChangeSpec := { name := "dfaMeans", fn := fun _ => fun
  | [d1, d2, d3] => { results := [.lit (.bool true)], args := [d1, d2, d3] }
  | _ => none }
def dfaMeansRow : OpenClaim := { program := "ytjecphfjkpinlaa", sum := "06750396e82029a662f02d2404683c5db934a6153d7e21e66ee6e898184271cd", func := "stileward/stilewardlaw2.DfaMeans", spec := "dfaMeans", unfollowed := true, recurses := true, plainKeys := false, apart := false }
def DfaMeansSaid : Prop := dfaMeansRow.holds Try.pinned (OpenSpec.ofChange dfaMeansSpec)

/-- ITS FALSE NEIGHBOUR: 'it returns false'. Refute it at one input. -/
def dfaMeansWrong : ChangeSpec := { name := "dfaMeans", fn := fun _ => fun
  | [d1, d2, d3] => { results := [.lit (.bool false)], args := [d1, d2, d3] }
  | _ => none }
def DfaMeansWrongFalsely : Prop := dfaMeansRow.holds Try.pinned (OpenSpec.ofChange dfaMeansWrong)

/-- 'stilewardlaw2.DfaMorgan': WHATEVER THE INPUT: true; the input reads as it did. -/
def dfaMorganSpec : ChangeSpec := { name := "dfaMorgan", fn := fun _ => fun
  | [d1, d2] => { results := [.lit (.bool true)], args := [d1, d2] }
  | _ => none }
def dfaMorganRow : OpenClaim := { program := "ytjecphfjkpinlaa", sum := "06750396e82029a662f02d2404683c5db934a6153d7e21e66ee6e898184271cd", func := "stileward/stilewardlaw2.DfaMorgan", spec := "dfaMorgan", unfollowed := true, recurses := true, plainKeys := false, apart := false }
def DfaMorganSaid : Prop := dfaMorganRow.holds Try.pinned (OpenSpec.ofChange dfaMorganSpec)

/-- ITS FALSE NEIGHBOUR: 'it returns false'. Refute it at one input. -/
def dfaMorganWrong : ChangeSpec := { name := "dfaMorgan", fn := fun _ => fun
  | [d1, d2] => { results := [.lit (.bool false)], args := [d1, d2] }
  | _ => none }
def DfaMorganWrongFalsely : Prop := dfaMorganRow.holds Try.pinned (OpenSpec.ofChange dfaMorganWrong)

/-- 'stilewardlaw2.DfaLattice': WHATEVER THE INPUT: true; the input reads as it did. -/
def dfaLatticeSpec : ChangeSpec := { name := "dfaLattice", fn := fun _ => fun
  | [d1, d2, d3] => { results := [.lit (.bool true)], args := [d1, d2, d3] }
  | _ => none }
def dfaLatticeRow : OpenClaim := { program := "ytjecphfjkpinlaa", sum := "06750396e82029a662f02d2404683c5db934a6153d7e21e66ee6e898184271cd", func := "stileward/stilewardlaw2.DfaLattice", spec := "dfaLattice", unfollowed := true, recurses := true, plainKeys := false, apart := false }
def DfaLatticeSaid : Prop := dfaLatticeRow.holds Try.pinned (OpenSpec.ofChange dfaLatticeSpec)

/-- ITS FALSE NEIGHBOUR: 'it returns false'. Refute it at one input. -/
def dfaLatticeWrong : ChangeSpec := { name := "dfaLattice", fn := fun _ => fun
  | [d1, d2, d3] => { results := [.lit (.bool false)], args := [d1, d2, d3] }
  | _ => none }
def DfaLatticeWrongFalsely : Prop := dfaLatticeRow.holds Try.pinned (OpenSpec.ofChange dfaLatticeWrong)

/-- 'stilewardlaw2.ReachAdds': WHATEVER THE INPUT: true; the input reads as it did. -/
def reachAddsSpec : ChangeSpec := { name := "reachAdds", fn := fun _ => fun
  | [d1, d2, d3] => { results := [.lit (.bool true)], args := [d1, d2, d3] }
  | _ => none }
def reachAddsRow : OpenClaim := { program := "ytjecphfjkpinlaa", sum := "06750396e82029a662f02d2404683c5db934a6153d7e21e66ee6e898184271cd", func := "stileward/stilewardlaw2.ReachAdds", spec := "reachAdds", unfollowed := true, recurses := true, plainKeys := false, apart := false }
def ReachAddsSaid : Prop := reachAddsRow.holds Try.pinned (OpenSpec.ofChange reachAddsSpec)

/-- ITS FALSE NEIGHBOUR: 'it returns false'. Refute it at one input. -/
def reachAddsWrong : ChangeSpec := { name := "reachAdds", fn := fun _ => fun
  | [d1, d2, d3] => { results := [.lit (.bool false)], args := [d1, d2, d3] }
  | _ => none }
def ReachAddsWrongFalsely : Prop := reachAddsRow.holds Try.pinned (OpenSpec.ofChange reachAddsWrong)

/- THE SECOND FORM. 'bulk': how many values and letters a reading holds, each counted each time it is reached (what is shared counts as often as it is met; a slice's spare places count too). A statement '..UptoSaid' is the law's where the arguments, and the package variables that the reading takes, are together of bulk at most 1048576: NARROWER than '..Said'. Prove '..Said' where nothing that the law and all that it calls make is longer than what came in: it says more and counts as full. Else prove '..UptoSaid'. A law counts once. -/
mutual
def uptoBulk {H : Type} : DataW H → Nat
  | .lit (.string bytes) => bytes.length + 1
  | .lit _ => 1
  | .nil => 1
  | .ptr d => uptoBulk d + 1
  | .slice elems spare => uptoBulkAll elems + uptoBulkAll spare + 1
  | .agg parts => uptoBulkAll parts + 1
  | .iface _ d => uptoBulk d + 1
  | .map entries => uptoBulkEntries entries + 1
  | .held _ => 1
def uptoBulkAll {H : Type} : List (DataW H) → Nat
  | [] => 0
  | d :: r => uptoBulk d + uptoBulkAll r
def uptoBulkEntries {H : Type} : List (Lit × DataW H) → Nat
  | [] => 0
  | x :: r => uptoBulkEntry x + uptoBulkEntries r
def uptoBulkEntry {H : Type} : Lit × DataW H → Nat
  | (.string bytes, d) => bytes.length + uptoBulk d + 1
  | (_, d) => uptoBulk d + 1
 end
def uptoSmall : (H : Type) → List (DataW H) → Bool := fun _ ds => decide (uptoBulkAll ds ≤ 1048576)
def OpenSpec.upto (s : _root_.Go.ChangeSpec) : _root_.Go.OpenSpec := { _root_.Go.OpenSpec.ofChange s with cond := some uptoSmall }

/-- 'stilewardlaw2.SmallMeans', WHERE WHAT IT READS IS OF BULK AT MOST 1048576: true; the input reads as it did. -/
def smallMeansUptoRow : OpenClaim := { program := "ytjecphfjkpinlaa", sum := "06750396e82029a662f02d2404683c5db934a6153d7e21e66ee6e898184271cd", func := "stileward/stilewardlaw2.SmallMeans", spec := "smallMeans", plainKeys := false, apart := false, narrowed := true }
def SmallMeansUptoSaid : Prop := smallMeansUptoRow.holds Try.pinned (OpenSpec.upto smallMeansSpec)

/-- 'stilewardlaw2.SmallApart', WHERE WHAT IT READS IS OF BULK AT MOST 1048576: true; the input reads as it did. -/
def smallApartUptoRow : OpenClaim := { program := "ytjecphfjkpinlaa", sum := "06750396e82029a662f02d2404683c5db934a6153d7e21e66ee6e898184271cd", func := "stileward/stilewardlaw2.SmallApart", spec := "smallApart", recurses := true, plainKeys := false, apart := false, narrowed := true }
def SmallApartUptoSaid : Prop := smallApartUptoRow.holds Try.pinned (OpenSpec.upto smallApartSpec)

/-- 'stilewardlaw2.SmallWord', WHERE WHAT IT READS IS OF BULK AT MOST 1048576: true; the input reads as it did. -/
def smallWordUptoRow : OpenClaim := { program := "ytjecphfjkpinlaa", sum := "06750396e82029a662f02d2404683c5db934a6153d7e21e66ee6e898184271cd", func := "stileward/stilewardlaw2.SmallWord", spec := "smallWord", plainKeys := false, apart := false, narrowed := true }
def SmallWordUptoSaid : Prop := smallWordUptoRow.holds Try.pinned (OpenSpec.upto smallWordSpec)

/-- 'stilewardlaw2.DfaMeans', WHERE WHAT IT READS IS OF BULK AT MOST 1048576: true; the input reads as it did. -/
def dfaMeansUptoRow : OpenClaim := { program := "ytjecphfjkpinlaa", sum := "06750396e82029a662f02d2404683c5db934a6153d7e21e66ee6e898184271cd", func := "stileward/stilewardlaw2.DfaMeans", spec := "dfaMeans", unfollowed := true, recurses := true, plainKeys := false, apart := false, narrowed := true }
def DfaMeansUptoSaid : Prop := dfaMeansUptoRow.holds Try.pinned (OpenSpec.upto dfaMeansSpec)

/-- 'stilewardlaw2.DfaMorgan', WHERE WHAT IT READS IS OF BULK AT MOST 1048576: true; the input reads as it did. -/
def dfaMorganUptoRow : OpenClaim := { program := "ytjecphfjkpinlaa", sum := "06750396e82029a662f02d2404683c5db934a6153d7e21e66ee6e898184271cd", func := "stileward/stilewardlaw2.DfaMorgan", spec := "dfaMorgan", unfollowed := true, recurses := true, plainKeys := false, apart := false, narrowed := true }
def DfaMorganUptoSaid : Prop := dfaMorganUptoRow.holds Try.pinned (OpenSpec.upto dfaMorganSpec)

/-- 'stilewardlaw2.DfaLattice', WHERE WHAT IT READS IS OF BULK AT MOST 1048576: true; the input reads as it did. -/
def dfaLatticeUptoRow : OpenClaim := { program := "ytjecphfjkpinlaa", sum := "06750396e82029a662f02d2404683c5db934a6153d7e21e66ee6e898184271cd", func := "stileward/stilewardlaw2.DfaLattice", spec := "dfaLattice", unfollowed := true, recurses := true, plainKeys := false, apart := false, narrowed := true }
def DfaLatticeUptoSaid : Prop := dfaLatticeUptoRow.holds Try.pinned (OpenSpec.upto dfaLatticeSpec)

/-- 'stilewardlaw2.ReachAdds', WHERE WHAT IT READS IS OF BULK AT MOST 1048576: true; the input reads as it did. -/
def reachAddsUptoRow : OpenClaim := { program := "ytjecphfjkpinlaa", sum := "06750396e82029a662f02d2404683c5db934a6153d7e21e66ee6e898184271cd", func := "stileward/stilewardlaw2.ReachAdds", spec := "reachAdds", unfollowed := true, recurses := true, plainKeys := false, apart := false, narrowed := true }
def ReachAddsUptoSaid : Prop := reachAddsUptoRow.holds Try.pinned (OpenSpec.upto reachAddsSpec)

end Rows
end Go.Proofs.Ytjecphfjkpinlaa
