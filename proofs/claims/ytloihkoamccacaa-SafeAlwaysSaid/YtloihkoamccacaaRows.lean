/-
  No cell of these rows narrows 'for every input' (looked for: loops, veiled, ifaces, maps, wideKeys, modest, calm, conditions, laid).
  DERIVED. THE GIVEN ROWS OF THIS SEAT. 9 by the template 'for every input the law returns true; each argument reads behind the call as it read before'; 0 by the template 'total and deterministic' (their statements: YtloihkoamccacaaTotals.lean).
  GIVEN WITH THE SEED: the statements are not yours to turn. If you find one false, say at which input.
  Laid BY PROGRAM, IN A SANDBOX (cutbox-rows.mjs): the forced cells as the released guide's own fill.sh prints them over the translation c53ba4b4a7afdf37… (all of the seat's roots in one cut). By AI agents, Wed Nov 11 2026. No macro, syntax, notation, axiom, sorry.
-/
import Derived.Test.YtloihkoamccacaaChecked
import GoSem.Claim
import GoSem.ClaimJoined
import GoSem.ClaimMapViews
import Derived.JoinedTies
import Derived.KernelRfl
namespace Go.Proofs.Ytloihkoamccacaa
/- THE CELL 'sum', in the pinned program and in every row, IS THE sha256 OF THE DUMP (.gsa) THAT YtloihkoamccacaaProg.lean LOADS. Nothing in Lean hashes anything: it is a label: what it is worth is what the hold of that sum in a sandbox is worth. -/
noncomputable def Try.pinned : Pinned := { name := "ytloihkoamccacaa", sum := "c53ba4b4a7afdf37e6ea18577b20fa65425ebc969c2d41ea0edf79e3251d6a86", checked := Try.checked }
namespace Rows
def none {H : Type} : Left H := { results := [], args := [] }

/-- 'stilewardlaw2.DfaMeans': WHATEVER THE INPUT: true; the input reads as it did. -/
def dfaMeansSpec : ChangeSpec := { name := "dfaMeans", fn := fun _ => fun
  | [d1, d2, d3] => { results := [.lit (.bool true)], args := [d1, d2, d3] }
  | _ => none }
def dfaMeansRow : OpenClaim := { program := "ytloihkoamccacaa", sum := "c53ba4b4a7afdf37e6ea18577b20fa65425ebc969c2d41ea0edf79e3251d6a86", func := "stileward/stilewardlaw2.DfaMeans", spec := "dfaMeans", unfollowed := true, recurses := true, plainKeys := false, apart := false }
def DfaMeansSaid : Prop := dfaMeansRow.holds Try.pinned (OpenSpec.ofChange dfaMeansSpec)

/-- ITS FALSE NEIGHBOUR: 'it returns false'. Refute it at one input. -/
def dfaMeansWrong : ChangeSpec := { name := "dfaMeans", fn := fun _ => fun
  | [d1, d2, d3] => { results := [.lit (.bool false)], args := [d1, d2, d3] }
  | _ => none }
def DfaMeansWrongFalsely : Prop := dfaMeansRow.holds Try.pinned (OpenSpec.ofChange dfaMeansWrong)

/-- 'stilewardlaw2.DfaMorgan': WHATEVER THE INPUT: true; the input reads as it did. -/
def dfaMorganSpec : ChangeSpec := { name := "dfaMorgan", fn := fun _ => fun
  | [d1, d2] => { results := [.lit (.bool true)], args := [d1, d2] }
  | _ => none }
def dfaMorganRow : OpenClaim := { program := "ytloihkoamccacaa", sum := "c53ba4b4a7afdf37e6ea18577b20fa65425ebc969c2d41ea0edf79e3251d6a86", func := "stileward/stilewardlaw2.DfaMorgan", spec := "dfaMorgan", unfollowed := true, recurses := true, plainKeys := false, apart := false }
def DfaMorganSaid : Prop := dfaMorganRow.holds Try.pinned (OpenSpec.ofChange dfaMorganSpec)

/-- ITS FALSE NEIGHBOUR: 'it returns false'. Refute it at one input. -/
def dfaMorganWrong : ChangeSpec := { name := "dfaMorgan", fn := fun _ => fun
  | [d1, d2] => { results := [.lit (.bool false)], args := [d1, d2] }
  | _ => none }
def DfaMorganWrongFalsely : Prop := dfaMorganRow.holds Try.pinned (OpenSpec.ofChange dfaMorganWrong)

/-- 'stilewardlaw2.ReachAdds': WHATEVER THE INPUT: true; the input reads as it did. -/
def reachAddsSpec : ChangeSpec := { name := "reachAdds", fn := fun _ => fun
  | [d1, d2, d3] => { results := [.lit (.bool true)], args := [d1, d2, d3] }
  | _ => none }
def reachAddsRow : OpenClaim := { program := "ytloihkoamccacaa", sum := "c53ba4b4a7afdf37e6ea18577b20fa65425ebc969c2d41ea0edf79e3251d6a86", func := "stileward/stilewardlaw2.ReachAdds", spec := "reachAdds", unfollowed := true, recurses := true, plainKeys := false, apart := false }
def ReachAddsSaid : Prop := reachAddsRow.holds Try.pinned (OpenSpec.ofChange reachAddsSpec)

/-- ITS FALSE NEIGHBOUR: 'it returns false'. Refute it at one input. -/
def reachAddsWrong : ChangeSpec := { name := "reachAdds", fn := fun _ => fun
  | [d1, d2, d3] => { results := [.lit (.bool false)], args := [d1, d2, d3] }
  | _ => none }
def ReachAddsWrongFalsely : Prop := reachAddsRow.holds Try.pinned (OpenSpec.ofChange reachAddsWrong)

/-- 'stilewardlaw3.BackJoins': WHATEVER THE INPUT: true; the input reads as it did. -/
def backJoinsSpec : ChangeSpec := { name := "backJoins", fn := fun _ => fun
  | [d1, d2, d3] => { results := [.lit (.bool true)], args := [d1, d2, d3] }
  | _ => none }
def backJoinsRow : OpenClaim := { program := "ytloihkoamccacaa", sum := "c53ba4b4a7afdf37e6ea18577b20fa65425ebc969c2d41ea0edf79e3251d6a86", func := "stileward/stilewardlaw3.BackJoins", spec := "backJoins", unfollowed := true, recurses := true, plainKeys := false, apart := false }
def BackJoinsSaid : Prop := backJoinsRow.holds Try.pinned (OpenSpec.ofChange backJoinsSpec)

/-- ITS FALSE NEIGHBOUR: 'it returns false'. Refute it at one input. -/
def backJoinsWrong : ChangeSpec := { name := "backJoins", fn := fun _ => fun
  | [d1, d2, d3] => { results := [.lit (.bool false)], args := [d1, d2, d3] }
  | _ => none }
def BackJoinsWrongFalsely : Prop := backJoinsRow.holds Try.pinned (OpenSpec.ofChange backJoinsWrong)

/-- 'stilewardlaw4.SafeCloses': WHATEVER THE INPUT: true; the input reads as it did. -/
def safeClosesSpec : ChangeSpec := { name := "safeCloses", fn := fun _ => fun
  | [d1, d2, d3] => { results := [.lit (.bool true)], args := [d1, d2, d3] }
  | _ => none }
def safeClosesRow : OpenClaim := { program := "ytloihkoamccacaa", sum := "c53ba4b4a7afdf37e6ea18577b20fa65425ebc969c2d41ea0edf79e3251d6a86", func := "stileward/stilewardlaw4.SafeCloses", spec := "safeCloses", unfollowed := true, recurses := true, plainKeys := false, apart := false }
def SafeClosesSaid : Prop := safeClosesRow.holds Try.pinned (OpenSpec.ofChange safeClosesSpec)

/-- ITS FALSE NEIGHBOUR: 'it returns false'. Refute it at one input. -/
def safeClosesWrong : ChangeSpec := { name := "safeCloses", fn := fun _ => fun
  | [d1, d2, d3] => { results := [.lit (.bool false)], args := [d1, d2, d3] }
  | _ => none }
def SafeClosesWrongFalsely : Prop := safeClosesRow.holds Try.pinned (OpenSpec.ofChange safeClosesWrong)

/-- 'stilewardlaw4.SafeParts': WHATEVER THE INPUT: true; the input reads as it did. -/
def safePartsSpec : ChangeSpec := { name := "safeParts", fn := fun _ => fun
  | [d1, d2] => { results := [.lit (.bool true)], args := [d1, d2] }
  | _ => none }
def safePartsRow : OpenClaim := { program := "ytloihkoamccacaa", sum := "c53ba4b4a7afdf37e6ea18577b20fa65425ebc969c2d41ea0edf79e3251d6a86", func := "stileward/stilewardlaw4.SafeParts", spec := "safeParts", unfollowed := true, recurses := true, plainKeys := false, apart := false }
def SafePartsSaid : Prop := safePartsRow.holds Try.pinned (OpenSpec.ofChange safePartsSpec)

/-- ITS FALSE NEIGHBOUR: 'it returns false'. Refute it at one input. -/
def safePartsWrong : ChangeSpec := { name := "safeParts", fn := fun _ => fun
  | [d1, d2] => { results := [.lit (.bool false)], args := [d1, d2] }
  | _ => none }
def SafePartsWrongFalsely : Prop := safePartsRow.holds Try.pinned (OpenSpec.ofChange safePartsWrong)

/-- 'stilewardlaw4.SafeAlways': WHATEVER THE INPUT: true; the input reads as it did. -/
def safeAlwaysSpec : ChangeSpec := { name := "safeAlways", fn := fun _ => fun
  | [d1, d2] => { results := [.lit (.bool true)], args := [d1, d2] }
  | _ => none }
def safeAlwaysRow : OpenClaim := { program := "ytloihkoamccacaa", sum := "c53ba4b4a7afdf37e6ea18577b20fa65425ebc969c2d41ea0edf79e3251d6a86", func := "stileward/stilewardlaw4.SafeAlways", spec := "safeAlways", plainKeys := false, apart := false }
def SafeAlwaysSaid : Prop := safeAlwaysRow.holds Try.pinned (OpenSpec.ofChange safeAlwaysSpec)

/-- ITS FALSE NEIGHBOUR: 'it returns false'. Refute it at one input. -/
def safeAlwaysWrong : ChangeSpec := { name := "safeAlways", fn := fun _ => fun
  | [d1, d2] => { results := [.lit (.bool false)], args := [d1, d2] }
  | _ => none }
def SafeAlwaysWrongFalsely : Prop := safeAlwaysRow.holds Try.pinned (OpenSpec.ofChange safeAlwaysWrong)

/-- 'stilewardlaw4.SafeDual': WHATEVER THE INPUT: true; the input reads as it did. -/
def safeDualSpec : ChangeSpec := { name := "safeDual", fn := fun _ => fun
  | [d1, d2] => { results := [.lit (.bool true)], args := [d1, d2] }
  | _ => none }
def safeDualRow : OpenClaim := { program := "ytloihkoamccacaa", sum := "c53ba4b4a7afdf37e6ea18577b20fa65425ebc969c2d41ea0edf79e3251d6a86", func := "stileward/stilewardlaw4.SafeDual", spec := "safeDual", plainKeys := false, apart := false }
def SafeDualSaid : Prop := safeDualRow.holds Try.pinned (OpenSpec.ofChange safeDualSpec)

/-- ITS FALSE NEIGHBOUR: 'it returns false'. Refute it at one input. -/
def safeDualWrong : ChangeSpec := { name := "safeDual", fn := fun _ => fun
  | [d1, d2] => { results := [.lit (.bool false)], args := [d1, d2] }
  | _ => none }
def SafeDualWrongFalsely : Prop := safeDualRow.holds Try.pinned (OpenSpec.ofChange safeDualWrong)

/-- 'stilewardlaw4.SafeClass': WHATEVER THE INPUT: true; the input reads as it did. -/
def safeClassSpec : ChangeSpec := { name := "safeClass", fn := fun _ => fun
  | [d] => { results := [.lit (.bool true)], args := [d] }
  | _ => none }
def safeClassRow : OpenClaim := { program := "ytloihkoamccacaa", sum := "c53ba4b4a7afdf37e6ea18577b20fa65425ebc969c2d41ea0edf79e3251d6a86", func := "stileward/stilewardlaw4.SafeClass", spec := "safeClass", unfollowed := true, recurses := true, plainKeys := false, apart := false }
def SafeClassSaid : Prop := safeClassRow.holds Try.pinned (OpenSpec.ofChange safeClassSpec)

/-- ITS FALSE NEIGHBOUR: 'it returns false'. Refute it at one input. -/
def safeClassWrong : ChangeSpec := { name := "safeClass", fn := fun _ => fun
  | [d] => { results := [.lit (.bool false)], args := [d] }
  | _ => none }
def SafeClassWrongFalsely : Prop := safeClassRow.holds Try.pinned (OpenSpec.ofChange safeClassWrong)

/- THE SECOND FORM. 'bulk': how many values and letters a reading holds, each counted each time it is reached (what is shared counts as often as it is met; a slice's spare places count too). A statement '..UptoSaid' is the law's where the arguments, and the package variables that the reading takes, are together of bulk at most 1048576: NARROWER than '..Said'. Prove '..Said' where nothing that the law and all that it calls make is longer than what came in: it says more and counts as full. Else prove '..UptoSaid'. A law counts once. -/
mutual
def uptoBulk {H : Type} : DataW H → Nat
  | .lit (.string bytes) => bytes.length + 1
  | .lit _ => 1
  | .nil => 1
  | .ptr d => uptoBulk d + 1
  | .slice elems spare => uptoBulkAll elems + uptoBulkAll spare + 1
  | .agg parts => uptoBulkAll parts + 1
  | .iface _ d => uptoBulk d + 1
  | .map entries => uptoBulkEntries entries + 1
  | .held _ => 1
def uptoBulkAll {H : Type} : List (DataW H) → Nat
  | [] => 0
  | d :: r => uptoBulk d + uptoBulkAll r
def uptoBulkEntries {H : Type} : List (Lit × DataW H) → Nat
  | [] => 0
  | x :: r => uptoBulkEntry x + uptoBulkEntries r
def uptoBulkEntry {H : Type} : Lit × DataW H → Nat
  | (.string bytes, d) => bytes.length + uptoBulk d + 1
  | (_, d) => uptoBulk d + 1
 end
def uptoSmall : (H : Type) → List (DataW H) → Bool := fun _ ds => decide (uptoBulkAll ds ≤ 1048576)
def OpenSpec.upto (s : _root_.Go.ChangeSpec) : _root_.Go.OpenSpec := { _root_.Go.OpenSpec.ofChange s with cond := some uptoSmall }

/-- 'stilewardlaw2.DfaMeans', WHERE WHAT IT READS IS OF BULK AT MOST 1048576: true; the input reads as it did. -/
def dfaMeansUptoRow : OpenClaim := { program := "ytloihkoamccacaa", sum := "c53ba4b4a7afdf37e6ea18577b20fa65425ebc969c2d41ea0edf79e3251d6a86", func := "stileward/stilewardlaw2.DfaMeans", spec := "dfaMeans", unfollowed := true, recurses := true, plainKeys := false, apart := false, narrowed := true }
def DfaMeansUptoSaid : Prop := dfaMeansUptoRow.holds Try.pinned (OpenSpec.upto dfaMeansSpec)

/-- 'stilewardlaw2.DfaMorgan', WHERE WHAT IT READS IS OF BULK AT MOST 1048576: true; the input reads as it did. -/
def dfaMorganUptoRow : OpenClaim := { program := "ytloihkoamccacaa", sum := "c53ba4b4a7afdf37e6ea18577b20fa65425ebc969c2d41ea0edf79e3251d6a86", func := "stileward/stilewardlaw2.DfaMorgan", spec := "dfaMorgan", unfollowed := true, recurses := true, plainKeys := false, apart := false, narrowed := true }
def DfaMorganUptoSaid : Prop := dfaMorganUptoRow.holds Try.pinned (OpenSpec.upto dfaMorganSpec)

/-- 'stilewardlaw2.ReachAdds', WHERE WHAT IT READS IS OF BULK AT MOST 1048576: true; the input reads as it did. -/
def reachAddsUptoRow : OpenClaim := { program := "ytloihkoamccacaa", sum := "c53ba4b4a7afdf37e6ea18577b20fa65425ebc969c2d41ea0edf79e3251d6a86", func := "stileward/stilewardlaw2.ReachAdds", spec := "reachAdds", unfollowed := true, recurses := true, plainKeys := false, apart := false, narrowed := true }
def ReachAddsUptoSaid : Prop := reachAddsUptoRow.holds Try.pinned (OpenSpec.upto reachAddsSpec)

/-- 'stilewardlaw3.BackJoins', WHERE WHAT IT READS IS OF BULK AT MOST 1048576: true; the input reads as it did. -/
def backJoinsUptoRow : OpenClaim := { program := "ytloihkoamccacaa", sum := "c53ba4b4a7afdf37e6ea18577b20fa65425ebc969c2d41ea0edf79e3251d6a86", func := "stileward/stilewardlaw3.BackJoins", spec := "backJoins", unfollowed := true, recurses := true, plainKeys := false, apart := false, narrowed := true }
def BackJoinsUptoSaid : Prop := backJoinsUptoRow.holds Try.pinned (OpenSpec.upto backJoinsSpec)

/-- 'stilewardlaw4.SafeCloses', WHERE WHAT IT READS IS OF BULK AT MOST 1048576: true; the input reads as it did. -/
def safeClosesUptoRow : OpenClaim := { program := "ytloihkoamccacaa", sum := "c53ba4b4a7afdf37e6ea18577b20fa65425ebc969c2d41ea0edf79e3251d6a86", func := "stileward/stilewardlaw4.SafeCloses", spec := "safeCloses", unfollowed := true, recurses := true, plainKeys := false, apart := false, narrowed := true }
def SafeClosesUptoSaid : Prop := safeClosesUptoRow.holds Try.pinned (OpenSpec.upto safeClosesSpec)

/-- 'stilewardlaw4.SafeParts', WHERE WHAT IT READS IS OF BULK AT MOST 1048576: true; the input reads as it did. -/
def safePartsUptoRow : OpenClaim := { program := "ytloihkoamccacaa", sum := "c53ba4b4a7afdf37e6ea18577b20fa65425ebc969c2d41ea0edf79e3251d6a86", func := "stileward/stilewardlaw4.SafeParts", spec := "safeParts", unfollowed := true, recurses := true, plainKeys := false, apart := false, narrowed := true }
def SafePartsUptoSaid : Prop := safePartsUptoRow.holds Try.pinned (OpenSpec.upto safePartsSpec)

/-- 'stilewardlaw4.SafeAlways', WHERE WHAT IT READS IS OF BULK AT MOST 1048576: true; the input reads as it did. -/
def safeAlwaysUptoRow : OpenClaim := { program := "ytloihkoamccacaa", sum := "c53ba4b4a7afdf37e6ea18577b20fa65425ebc969c2d41ea0edf79e3251d6a86", func := "stileward/stilewardlaw4.SafeAlways", spec := "safeAlways", plainKeys := false, apart := false, narrowed := true }
def SafeAlwaysUptoSaid : Prop := safeAlwaysUptoRow.holds Try.pinned (OpenSpec.upto safeAlwaysSpec)

/-- 'stilewardlaw4.SafeDual', WHERE WHAT IT READS IS OF BULK AT MOST 1048576: true; the input reads as it did. -/
def safeDualUptoRow : OpenClaim := { program := "ytloihkoamccacaa", sum := "c53ba4b4a7afdf37e6ea18577b20fa65425ebc969c2d41ea0edf79e3251d6a86", func := "stileward/stilewardlaw4.SafeDual", spec := "safeDual", plainKeys := false, apart := false, narrowed := true }
def SafeDualUptoSaid : Prop := safeDualUptoRow.holds Try.pinned (OpenSpec.upto safeDualSpec)

/-- 'stilewardlaw4.SafeClass', WHERE WHAT IT READS IS OF BULK AT MOST 1048576: true; the input reads as it did. -/
def safeClassUptoRow : OpenClaim := { program := "ytloihkoamccacaa", sum := "c53ba4b4a7afdf37e6ea18577b20fa65425ebc969c2d41ea0edf79e3251d6a86", func := "stileward/stilewardlaw4.SafeClass", spec := "safeClass", unfollowed := true, recurses := true, plainKeys := false, apart := false, narrowed := true }
def SafeClassUptoSaid : Prop := safeClassUptoRow.holds Try.pinned (OpenSpec.upto safeClassSpec)

end Rows
end Go.Proofs.Ytloihkoamccacaa
