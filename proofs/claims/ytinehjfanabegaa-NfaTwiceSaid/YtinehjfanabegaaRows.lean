/-
  No cell of these rows narrows 'for every input' (looked for: loops, veiled, ifaces, maps, wideKeys, modest, calm, conditions, laid).
  DERIVED. THE GIVEN ROWS OF THIS SEAT. 12 by the template 'for every input the law returns true; each argument reads behind the call as it read before'; 0 by the template 'total and deterministic' (their statements: YtinehjfanabegaaTotals.lean).
  GIVEN WITH THE SEED: the statements are not yours to turn. If you find one false, say at which input.
  Laid BY PROGRAM, IN A SANDBOX (cutbox-rows.mjs): the forced cells as the released guide's own fill.sh prints them over the translation f3091071bb63e610… (all of the seat's roots in one cut). By AI agents, Wed Nov 11 2026. No macro, syntax, notation, axiom, sorry.
-/
import Derived.Test.YtinehjfanabegaaChecked
import GoSem.Claim
import GoSem.ClaimJoined
import GoSem.ClaimMapViews
import Derived.JoinedTies
import Derived.KernelRfl
namespace Go.Proofs.Ytinehjfanabegaa
/- THE CELL 'sum', in the pinned program and in every row, IS THE sha256 OF THE DUMP (.gsa) THAT YtinehjfanabegaaProg.lean LOADS. Nothing in Lean hashes anything: it is a label: what it is worth is what the hold of that sum in a sandbox is worth. -/
noncomputable def Try.pinned : Pinned := { name := "ytinehjfanabegaa", sum := "f3091071bb63e6104cacb1fde63ee8c2ec6715efed82160f0679127b52edf4ca", checked := Try.checked }
namespace Rows
def none {H : Type} : Left H := { results := [], args := [] }

/-- 'stilewardlaw2.DfaRuns': WHATEVER THE INPUT: true; the input reads as it did. -/
def dfaRunsSpec : ChangeSpec := { name := "dfaRuns", fn := fun _ => fun
  | [d1, d2, d3, d4] => { results := [.lit (.bool true)], args := [d1, d2, d3, d4] }
  | _ => none }
def dfaRunsRow : OpenClaim := { program := "ytinehjfanabegaa", sum := "f3091071bb63e6104cacb1fde63ee8c2ec6715efed82160f0679127b52edf4ca", func := "stileward/stilewardlaw2.DfaRuns", spec := "dfaRuns", plainKeys := false, apart := false }
def DfaRunsSaid : Prop := dfaRunsRow.holds Try.pinned (OpenSpec.ofChange dfaRunsSpec)

/-- ITS FALSE NEIGHBOUR: 'it returns false'. Refute it at one input. -/
def dfaRunsWrong : ChangeSpec := { name := "dfaRuns", fn := fun _ => fun
  | [d1, d2, d3, d4] => { results := [.lit (.bool false)], args := [d1, d2, d3, d4] }
  | _ => none }
def DfaRunsWrongFalsely : Prop := dfaRunsRow.holds Try.pinned (OpenSpec.ofChange dfaRunsWrong)

/-- 'stilewardlaw2.DfaMeans': WHATEVER THE INPUT: true; the input reads as it did. -/
def dfaMeansSpec : ChangeSpec := { name := "dfaMeans", fn := fun _ => fun
  | [d1, d2, d3] => { results := [.lit (.bool true)], args := [d1, d2, d3] }
  | _ => none }
def dfaMeansRow : OpenClaim := { program := "ytinehjfanabegaa", sum := "f3091071bb63e6104cacb1fde63ee8c2ec6715efed82160f0679127b52edf4ca", func := "stileward/stilewardlaw2.DfaMeans", spec := "dfaMeans", unfollowed := true, recurses := true, plainKeys := false, apart := false }
def DfaMeansSaid : Prop := dfaMeansRow.holds Try.pinned (OpenSpec.ofChange dfaMeansSpec)

/-- ITS FALSE NEIGHBOUR: 'it returns false'. Refute it at one input. -/
def dfaMeansWrong : ChangeSpec := { name := "dfaMeans", fn := fun _ => fun
  | [d1, d2, d3] => { results := [.lit (.bool false)], args := [d1, d2, d3] }
  | _ => none }
def DfaMeansWrongFalsely : Prop := dfaMeansRow.holds Try.pinned (OpenSpec.ofChange dfaMeansWrong)

/-- 'stilewardlaw2.DfaMorgan': WHATEVER THE INPUT: true; the input reads as it did. -/
def dfaMorganSpec : ChangeSpec := { name := "dfaMorgan", fn := fun _ => fun
  | [d1, d2] => { results := [.lit (.bool true)], args := [d1, d2] }
  | _ => none }
def dfaMorganRow : OpenClaim := { program := "ytinehjfanabegaa", sum := "f3091071bb63e6104cacb1fde63ee8c2ec6715efed82160f0679127b52edf4ca", func := "stileward/stilewardlaw2.DfaMorgan", spec := "dfaMorgan", unfollowed := true, recurses := true, plainKeys := false, apart := false }
def DfaMorganSaid : Prop := dfaMorganRow.holds Try.pinned (OpenSpec.ofChange dfaMorganSpec)

/-- ITS FALSE NEIGHBOUR: 'it returns false'. Refute it at one input. -/
def dfaMorganWrong : ChangeSpec := { name := "dfaMorgan", fn := fun _ => fun
  | [d1, d2] => { results := [.lit (.bool false)], args := [d1, d2] }
  | _ => none }
def DfaMorganWrongFalsely : Prop := dfaMorganRow.holds Try.pinned (OpenSpec.ofChange dfaMorganWrong)

/-- 'stilewardlaw2.DfaLattice': WHATEVER THE INPUT: true; the input reads as it did. -/
def dfaLatticeSpec : ChangeSpec := { name := "dfaLattice", fn := fun _ => fun
  | [d1, d2, d3] => { results := [.lit (.bool true)], args := [d1, d2, d3] }
  | _ => none }
def dfaLatticeRow : OpenClaim := { program := "ytinehjfanabegaa", sum := "f3091071bb63e6104cacb1fde63ee8c2ec6715efed82160f0679127b52edf4ca", func := "stileward/stilewardlaw2.DfaLattice", spec := "dfaLattice", unfollowed := true, recurses := true, plainKeys := false, apart := false }
def DfaLatticeSaid : Prop := dfaLatticeRow.holds Try.pinned (OpenSpec.ofChange dfaLatticeSpec)

/-- ITS FALSE NEIGHBOUR: 'it returns false'. Refute it at one input. -/
def dfaLatticeWrong : ChangeSpec := { name := "dfaLattice", fn := fun _ => fun
  | [d1, d2, d3] => { results := [.lit (.bool false)], args := [d1, d2, d3] }
  | _ => none }
def DfaLatticeWrongFalsely : Prop := dfaLatticeRow.holds Try.pinned (OpenSpec.ofChange dfaLatticeWrong)

/-- 'stilewardlaw2.ReachAdds': WHATEVER THE INPUT: true; the input reads as it did. -/
def reachAddsSpec : ChangeSpec := { name := "reachAdds", fn := fun _ => fun
  | [d1, d2, d3] => { results := [.lit (.bool true)], args := [d1, d2, d3] }
  | _ => none }
def reachAddsRow : OpenClaim := { program := "ytinehjfanabegaa", sum := "f3091071bb63e6104cacb1fde63ee8c2ec6715efed82160f0679127b52edf4ca", func := "stileward/stilewardlaw2.ReachAdds", spec := "reachAdds", unfollowed := true, recurses := true, plainKeys := false, apart := false }
def ReachAddsSaid : Prop := reachAddsRow.holds Try.pinned (OpenSpec.ofChange reachAddsSpec)

/-- ITS FALSE NEIGHBOUR: 'it returns false'. Refute it at one input. -/
def reachAddsWrong : ChangeSpec := { name := "reachAdds", fn := fun _ => fun
  | [d1, d2, d3] => { results := [.lit (.bool false)], args := [d1, d2, d3] }
  | _ => none }
def ReachAddsWrongFalsely : Prop := reachAddsRow.holds Try.pinned (OpenSpec.ofChange reachAddsWrong)

/-- 'stilewardlaw2.ReachSame': WHATEVER THE INPUT: true; the input reads as it did. -/
def reachSameSpec : ChangeSpec := { name := "reachSame", fn := fun _ => fun
  | [d1, d2] => { results := [.lit (.bool true)], args := [d1, d2] }
  | _ => none }
def reachSameRow : OpenClaim := { program := "ytinehjfanabegaa", sum := "f3091071bb63e6104cacb1fde63ee8c2ec6715efed82160f0679127b52edf4ca", func := "stileward/stilewardlaw2.ReachSame", spec := "reachSame", recurses := true, plainKeys := false, apart := false }
def ReachSameSaid : Prop := reachSameRow.holds Try.pinned (OpenSpec.ofChange reachSameSpec)

/-- ITS FALSE NEIGHBOUR: 'it returns false'. Refute it at one input. -/
def reachSameWrong : ChangeSpec := { name := "reachSame", fn := fun _ => fun
  | [d1, d2] => { results := [.lit (.bool false)], args := [d1, d2] }
  | _ => none }
def ReachSameWrongFalsely : Prop := reachSameRow.holds Try.pinned (OpenSpec.ofChange reachSameWrong)

/-- 'stilewardlaw2.ReachSplits': WHATEVER THE INPUT: true; the input reads as it did. -/
def reachSplitsSpec : ChangeSpec := { name := "reachSplits", fn := fun _ => fun
  | [d1, d2] => { results := [.lit (.bool true)], args := [d1, d2] }
  | _ => none }
def reachSplitsRow : OpenClaim := { program := "ytinehjfanabegaa", sum := "f3091071bb63e6104cacb1fde63ee8c2ec6715efed82160f0679127b52edf4ca", func := "stileward/stilewardlaw2.ReachSplits", spec := "reachSplits", plainKeys := false, apart := false }
def ReachSplitsSaid : Prop := reachSplitsRow.holds Try.pinned (OpenSpec.ofChange reachSplitsSpec)

/-- ITS FALSE NEIGHBOUR: 'it returns false'. Refute it at one input. -/
def reachSplitsWrong : ChangeSpec := { name := "reachSplits", fn := fun _ => fun
  | [d1, d2] => { results := [.lit (.bool false)], args := [d1, d2] }
  | _ => none }
def ReachSplitsWrongFalsely : Prop := reachSplitsRow.holds Try.pinned (OpenSpec.ofChange reachSplitsWrong)

/-- 'stilewardlaw2.SmallMeans': WHATEVER THE INPUT: true; the input reads as it did. -/
def smallMeansSpec : ChangeSpec := { name := "smallMeans", fn := fun _ => fun
  | [d1, d2] => { results := [.lit (.bool true)], args := [d1, d2] }
  | _ => none }
def smallMeansRow : OpenClaim := { program := "ytinehjfanabegaa", sum := "f3091071bb63e6104cacb1fde63ee8c2ec6715efed82160f0679127b52edf4ca", func := "stileward/stilewardlaw2.SmallMeans", spec := "smallMeans", plainKeys := false, apart := false }
def SmallMeansSaid : Prop := smallMeansRow.holds Try.pinned (OpenSpec.ofChange smallMeansSpec)

/-- ITS FALSE NEIGHBOUR: 'it returns false'. Refute it at one input. -/
def smallMeansWrong : ChangeSpec := { name := "smallMeans", fn := fun _ => fun
  | [d1, d2] => { results := [.lit (.bool false)], args := [d1, d2] }
  | _ => none }
def SmallMeansWrongFalsely : Prop := smallMeansRow.holds Try.pinned (OpenSpec.ofChange smallMeansWrong)

/-- 'stilewardlaw2.SmallApart': WHATEVER THE INPUT: true; the input reads as it did. -/
def smallApartSpec : ChangeSpec := { name := "smallApart", fn := fun _ => fun
  | [d] => { results := [.lit (.bool true)], args := [d] }
  | _ => none }
def smallApartRow : OpenClaim := { program := "ytinehjfanabegaa", sum := "f3091071bb63e6104cacb1fde63ee8c2ec6715efed82160f0679127b52edf4ca", func := "stileward/stilewardlaw2.SmallApart", spec := "smallApart", recurses := true, plainKeys := false, apart := false }
def SmallApartSaid : Prop := smallApartRow.holds Try.pinned (OpenSpec.ofChange smallApartSpec)

/-- ITS FALSE NEIGHBOUR: 'it returns false'. Refute it at one input. -/
def smallApartWrong : ChangeSpec := { name := "smallApart", fn := fun _ => fun
  | [d] => { results := [.lit (.bool false)], args := [d] }
  | _ => none }
def SmallApartWrongFalsely : Prop := smallApartRow.holds Try.pinned (OpenSpec.ofChange smallApartWrong)

/-- 'stilewardlaw2.SmallWord': WHATEVER THE INPUT: true; the input reads as it did. -/
def smallWordSpec : ChangeSpec := { name := "smallWord", fn := fun _ => fun
  | [d1, d2, d3] => { results := [.lit (.bool true)], args := [d1, d2, d3] }
  | _ => none }
def smallWordRow : OpenClaim := { program := "ytinehjfanabegaa", sum := "f3091071bb63e6104cacb1fde63ee8c2ec6715efed82160f0679127b52edf4ca", func := "stileward/stilewardlaw2.SmallWord", spec := "smallWord", plainKeys := false, apart := false }
def SmallWordSaid : Prop := smallWordRow.holds Try.pinned (OpenSpec.ofChange smallWordSpec)

/-- ITS FALSE NEIGHBOUR: 'it returns false'. Refute it at one input. -/
def smallWordWrong : ChangeSpec := { name := "smallWord", fn := fun _ => fun
  | [d1, d2, d3] => { results := [.lit (.bool false)], args := [d1, d2, d3] }
  | _ => none }
def SmallWordWrongFalsely : Prop := smallWordRow.holds Try.pinned (OpenSpec.ofChange smallWordWrong)

/-- 'stilewardlaw2.NfaMirrors': WHATEVER THE INPUT: true; the input reads as it did. -/
def nfaMirrorsSpec : ChangeSpec := { name := "nfaMirrors", fn := fun _ => fun
  | [d1, d2, d3] => { results := [.lit (.bool true)], args := [d1, d2, d3] }
  | _ => none }
def nfaMirrorsRow : OpenClaim := { program := "ytinehjfanabegaa", sum := "f3091071bb63e6104cacb1fde63ee8c2ec6715efed82160f0679127b52edf4ca", func := "stileward/stilewardlaw2.NfaMirrors", spec := "nfaMirrors", unfollowed := true, recurses := true, plainKeys := false, apart := false }
def NfaMirrorsSaid : Prop := nfaMirrorsRow.holds Try.pinned (OpenSpec.ofChange nfaMirrorsSpec)

/-- ITS FALSE NEIGHBOUR: 'it returns false'. Refute it at one input. -/
def nfaMirrorsWrong : ChangeSpec := { name := "nfaMirrors", fn := fun _ => fun
  | [d1, d2, d3] => { results := [.lit (.bool false)], args := [d1, d2, d3] }
  | _ => none }
def NfaMirrorsWrongFalsely : Prop := nfaMirrorsRow.holds Try.pinned (OpenSpec.ofChange nfaMirrorsWrong)

/-- 'stilewardlaw2.NfaTwice': WHATEVER THE INPUT: true; the input reads as it did. -/
def nfaTwiceSpec : ChangeSpec := { name := "nfaTwice", fn := fun _ => fun
  | [d] => { results := [.lit (.bool true)], args := [d] }
  | _ => none }
def nfaTwiceRow : OpenClaim := { program := "ytinehjfanabegaa", sum := "f3091071bb63e6104cacb1fde63ee8c2ec6715efed82160f0679127b52edf4ca", func := "stileward/stilewardlaw2.NfaTwice", spec := "nfaTwice", unfollowed := true, recurses := true, plainKeys := false, apart := false }
def NfaTwiceSaid : Prop := nfaTwiceRow.holds Try.pinned (OpenSpec.ofChange nfaTwiceSpec)

/-- ITS FALSE NEIGHBOUR: 'it returns false'. Refute it at one input. -/
def nfaTwiceWrong : ChangeSpec := { name := "nfaTwice", fn := fun _ => fun
  | [d] => { results := [.lit (.bool false)], args := [d] }
  | _ => none }
def NfaTwiceWrongFalsely : Prop := nfaTwiceRow.holds Try.pinned (OpenSpec.ofChange nfaTwiceWrong)

/- THE SECOND FORM. 'bulk': how many values and letters a reading holds, each counted each time it is reached (what is shared counts as often as it is met; a slice's spare places count too). A statement '..UptoSaid' is the law's where the arguments, and the package variables that the reading takes, are together of bulk at most 1048576: NARROWER than '..Said'. Prove '..Said' where nothing that the law and all that it calls make is longer than what came in: it says more and counts as full. Else prove '..UptoSaid'. A law counts once. -/
mutual
def uptoBulk {H : Type} : DataW H → Nat
  | .lit (.string bytes) => bytes.length + 1
  | .lit _ => 1
  | .nil => 1
  | .ptr d => uptoBulk d + 1
  | .slice elems spare => uptoBulkAll elems + uptoBulkAll spare + 1
  | .agg parts => uptoBulkAll parts + 1
  | .iface _ d => uptoBulk d + 1
  | .map entries => uptoBulkEntries entries + 1
  | .held _ => 1
def uptoBulkAll {H : Type} : List (DataW H) → Nat
  | [] => 0
  | d :: r => uptoBulk d + uptoBulkAll r
def uptoBulkEntries {H : Type} : List (Lit × DataW H) → Nat
  | [] => 0
  | x :: r => uptoBulkEntry x + uptoBulkEntries r
def uptoBulkEntry {H : Type} : Lit × DataW H → Nat
  | (.string bytes, d) => bytes.length + uptoBulk d + 1
  | (_, d) => uptoBulk d + 1
 end
def uptoSmall : (H : Type) → List (DataW H) → Bool := fun _ ds => decide (uptoBulkAll ds ≤ 1048576)
def OpenSpec.upto (s : _root_.Go.ChangeSpec) : _root_.Go.OpenSpec := { _root_.Go.OpenSpec.ofChange s with cond := some uptoSmall }

/-- 'stilewardlaw2.DfaRuns', WHERE WHAT IT READS IS OF BULK AT MOST 1048576: true; the input reads as it did. -/
def dfaRunsUptoRow : OpenClaim := { program := "ytinehjfanabegaa", sum := "f3091071bb63e6104cacb1fde63ee8c2ec6715efed82160f0679127b52edf4ca", func := "stileward/stilewardlaw2.DfaRuns", spec := "dfaRuns", plainKeys := false, apart := false, narrowed := true }
def DfaRunsUptoSaid : Prop := dfaRunsUptoRow.holds Try.pinned (OpenSpec.upto dfaRunsSpec)

/-- 'stilewardlaw2.DfaMeans', WHERE WHAT IT READS IS OF BULK AT MOST 1048576: true; the input reads as it did. -/
def dfaMeansUptoRow : OpenClaim := { program := "ytinehjfanabegaa", sum := "f3091071bb63e6104cacb1fde63ee8c2ec6715efed82160f0679127b52edf4ca", func := "stileward/stilewardlaw2.DfaMeans", spec := "dfaMeans", unfollowed := true, recurses := true, plainKeys := false, apart := false, narrowed := true }
def DfaMeansUptoSaid : Prop := dfaMeansUptoRow.holds Try.pinned (OpenSpec.upto dfaMeansSpec)

/-- 'stilewardlaw2.DfaMorgan', WHERE WHAT IT READS IS OF BULK AT MOST 1048576: true; the input reads as it did. -/
def dfaMorganUptoRow : OpenClaim := { program := "ytinehjfanabegaa", sum := "f3091071bb63e6104cacb1fde63ee8c2ec6715efed82160f0679127b52edf4ca", func := "stileward/stilewardlaw2.DfaMorgan", spec := "dfaMorgan", unfollowed := true, recurses := true, plainKeys := false, apart := false, narrowed := true }
def DfaMorganUptoSaid : Prop := dfaMorganUptoRow.holds Try.pinned (OpenSpec.upto dfaMorganSpec)

/-- 'stilewardlaw2.DfaLattice', WHERE WHAT IT READS IS OF BULK AT MOST 1048576: true; the input reads as it did. -/
def dfaLatticeUptoRow : OpenClaim := { program := "ytinehjfanabegaa", sum := "f3091071bb63e6104cacb1fde63ee8c2ec6715efed82160f0679127b52edf4ca", func := "stileward/stilewardlaw2.DfaLattice", spec := "dfaLattice", unfollowed := true, recurses := true, plainKeys := false, apart := false, narrowed := true }
def DfaLatticeUptoSaid : Prop := dfaLatticeUptoRow.holds Try.pinned (OpenSpec.upto dfaLatticeSpec)

/-- 'stilewardlaw2.ReachAdds', WHERE WHAT IT READS IS OF BULK AT MOST 1048576: true; the input reads as it did. -/
def reachAddsUptoRow : OpenClaim := { program := "ytinehjfanabegaa", sum := "f3091071bb63e6104cacb1fde63ee8c2ec6715efed82160f0679127b52edf4ca", func := "stileward/stilewardlaw2.ReachAdds", spec := "reachAdds", unfollowed := true, recurses := true, plainKeys := false, apart := false, narrowed := true }
def ReachAddsUptoSaid : Prop := reachAddsUptoRow.holds Try.pinned (OpenSpec.upto reachAddsSpec)

/-- 'stilewardlaw2.ReachSame', WHERE WHAT IT READS IS OF BULK AT MOST 1048576: true; the input reads as it did. -/
def reachSameUptoRow : OpenClaim := { program := "ytinehjfanabegaa", sum := "f3091071bb63e6104cacb1fde63ee8c2ec6715efed82160f0679127b52edf4ca", func := "stileward/stilewardlaw2.ReachSame", spec := "reachSame", recurses := true, plainKeys := false, apart := false, narrowed := true }
def ReachSameUptoSaid : Prop := reachSameUptoRow.holds Try.pinned (OpenSpec.upto reachSameSpec)

/-- 'stilewardlaw2.ReachSplits', WHERE WHAT IT READS IS OF BULK AT MOST 1048576: true; the input reads as it did. -/
def reachSplitsUptoRow : OpenClaim := { program := "ytinehjfanabegaa", sum := "f3091071bb63e6104cacb1fde63ee8c2ec6715efed82160f0679127b52edf4ca", func := "stileward/stilewardlaw2.ReachSplits", spec := "reachSplits", plainKeys := false, apart := false, narrowed := true }
def ReachSplitsUptoSaid : Prop := reachSplitsUptoRow.holds Try.pinned (OpenSpec.upto reachSplitsSpec)

/-- 'stilewardlaw2.SmallMeans', WHERE WHAT IT READS IS OF BULK AT MOST 1048576: true; the input reads as it did. -/
def smallMeansUptoRow : OpenClaim := { program := "ytinehjfanabegaa", sum := "f3091071bb63e6104cacb1fde63ee8c2ec6715efed82160f0679127b52edf4ca", func := "stileward/stilewardlaw2.SmallMeans", spec := "smallMeans", plainKeys := false, apart := false, narrowed := true }
def SmallMeansUptoSaid : Prop := smallMeansUptoRow.holds Try.pinned (OpenSpec.upto smallMeansSpec)

/-- 'stilewardlaw2.SmallApart', WHERE WHAT IT READS IS OF BULK AT MOST 1048576: true; the input reads as it did. -/
def smallApartUptoRow : OpenClaim := { program := "ytinehjfanabegaa", sum := "f3091071bb63e6104cacb1fde63ee8c2ec6715efed82160f0679127b52edf4ca", func := "stileward/stilewardlaw2.SmallApart", spec := "smallApart", recurses := true, plainKeys := false, apart := false, narrowed := true }
def SmallApartUptoSaid : Prop := smallApartUptoRow.holds Try.pinned (OpenSpec.upto smallApartSpec)

/-- 'stilewardlaw2.SmallWord', WHERE WHAT IT READS IS OF BULK AT MOST 1048576: true; the input reads as it did. -/
def smallWordUptoRow : OpenClaim := { program := "ytinehjfanabegaa", sum := "f3091071bb63e6104cacb1fde63ee8c2ec6715efed82160f0679127b52edf4ca", func := "stileward/stilewardlaw2.SmallWord", spec := "smallWord", plainKeys := false, apart := false, narrowed := true }
def SmallWordUptoSaid : Prop := smallWordUptoRow.holds Try.pinned (OpenSpec.upto smallWordSpec)

/-- 'stilewardlaw2.NfaMirrors', WHERE WHAT IT READS IS OF BULK AT MOST 1048576: true; the input reads as it did. -/
def nfaMirrorsUptoRow : OpenClaim := { program := "ytinehjfanabegaa", sum := "f3091071bb63e6104cacb1fde63ee8c2ec6715efed82160f0679127b52edf4ca", func := "stileward/stilewardlaw2.NfaMirrors", spec := "nfaMirrors", unfollowed := true, recurses := true, plainKeys := false, apart := false, narrowed := true }
def NfaMirrorsUptoSaid : Prop := nfaMirrorsUptoRow.holds Try.pinned (OpenSpec.upto nfaMirrorsSpec)

/-- 'stilewardlaw2.NfaTwice', WHERE WHAT IT READS IS OF BULK AT MOST 1048576: true; the input reads as it did. -/
def nfaTwiceUptoRow : OpenClaim := { program := "ytinehjfanabegaa", sum := "f3091071bb63e6104cacb1fde63ee8c2ec6715efed82160f0679127b52edf4ca", func := "stileward/stilewardlaw2.NfaTwice", spec := "nfaTwice", unfollowed := true, recurses := true, plainKeys := false, apart := false, narrowed := true }
def NfaTwiceUptoSaid : Prop := nfaTwiceUptoRow.holds Try.pinned (OpenSpec.upto nfaTwiceSpec)

end Rows
end Go.Proofs.Ytinehjfanabegaa
