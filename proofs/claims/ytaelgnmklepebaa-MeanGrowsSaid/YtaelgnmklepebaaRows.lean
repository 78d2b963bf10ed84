/-
  No cell of these rows narrows 'for every input' (looked for: loops, veiled, ifaces, maps, wideKeys, modest, calm, conditions, laid).
  DERIVED. THE GIVEN ROWS OF THIS SEAT. 3 by the template 'for every input the law returns true; each argument reads behind the call as it read before'; 0 by the template 'total and deterministic' (their statements: YtaelgnmklepebaaTotals.lean).
  GIVEN WITH THE SEED: the statements are not yours to turn. If you find one false, say at which input.
  Laid BY PROGRAM, IN A SANDBOX (cutbox-rows.mjs): the forced cells as the released guide's own fill.sh prints them over the translation 686e8715cee8f597… (all of the seat's roots in one cut). By AI agents, Wed Nov 11 2026. No macro, syntax, notation, axiom, sorry.
-/
import Derived.Test.YtaelgnmklepebaaChecked
import GoSem.Claim
import GoSem.ClaimJoined
import GoSem.ClaimMapViews
import Derived.JoinedTies
import Derived.KernelRfl
namespace Go.Proofs.Ytaelgnmklepebaa
/- THE CELL 'sum', in the pinned program and in every row, IS THE sha256 OF THE DUMP (.gsa) THAT YtaelgnmklepebaaProg.lean LOADS. Nothing in Lean hashes anything: it is a label: what it is worth is what the hold of that sum in a sandbox is worth. -/
noncomputable def Try.pinned : Pinned := { name := "ytaelgnmklepebaa", sum := "686e8715cee8f597c35ef4ee369959ced8b84ba5d3fc98409b39126d70277912", checked := Try.checked }
namespace Rows
def none {H : Type} : Left H := { results := [], args := [] }

/-- 'stilewardlaw3.MeanNext': WHATEVER THE INPUT: true; the input reads as it did. -/
def meanNextSpec : ChangeSpec := { name := "meanNext", fn := fun _ => fun
  | [d1, d2, d3, d4] => { results := [.lit (.bool true)], args := [d1, d2, d3, d4] }
  | _ => none }
def meanNextRow : OpenClaim := { program := "ytaelgnmklepebaa", sum := "686e8715cee8f597c35ef4ee369959ced8b84ba5d3fc98409b39126d70277912", func := "stileward/stilewardlaw3.MeanNext", spec := "meanNext", unfollowed := true, recurses := true, apart := false }
def MeanNextSaid : Prop := meanNextRow.holds Try.pinned (OpenSpec.ofChange meanNextSpec)

/-- ITS FALSE NEIGHBOUR: 'it returns false'. Refute it at one input. -/
def meanNextWrong : ChangeSpec := { name := "meanNext", fn := fun _ => fun
  | [d1, d2, d3, d4] => { results := [.lit (.bool false)], args := [d1, d2, d3, d4] }
  | _ => none }
def MeanNextWrongFalsely : Prop := meanNextRow.holds Try.pinned (OpenSpec.ofChange meanNextWrong)

/-- 'stilewardlaw3.MeanUnfolds': WHATEVER THE INPUT: true; the input reads as it did. -/
def meanUnfoldsSpec : ChangeSpec := { name := "meanUnfolds", fn := fun _ => fun
  | [d1, d2, d3, d4, d5] => { results := [.lit (.bool true)], args := [d1, d2, d3, d4, d5] }
  | _ => none }
def meanUnfoldsRow : OpenClaim := { program := "ytaelgnmklepebaa", sum := "686e8715cee8f597c35ef4ee369959ced8b84ba5d3fc98409b39126d70277912", func := "stileward/stilewardlaw3.MeanUnfolds", spec := "meanUnfolds", unfollowed := true, recurses := true, apart := false }
def MeanUnfoldsSaid : Prop := meanUnfoldsRow.holds Try.pinned (OpenSpec.ofChange meanUnfoldsSpec)

/-- ITS FALSE NEIGHBOUR: 'it returns false'. Refute it at one input. -/
def meanUnfoldsWrong : ChangeSpec := { name := "meanUnfolds", fn := fun _ => fun
  | [d1, d2, d3, d4, d5] => { results := [.lit (.bool false)], args := [d1, d2, d3, d4, d5] }
  | _ => none }
def MeanUnfoldsWrongFalsely : Prop := meanUnfoldsRow.holds Try.pinned (OpenSpec.ofChange meanUnfoldsWrong)

/-- 'stilewardlaw3.MeanGrows': WHATEVER THE INPUT: true; the input reads as it did. -/
def meanGrowsSpec : ChangeSpec := { name := "meanGrows", fn := fun _ => fun
  | [d1, d2, d3, d4, d5] => { results := [.lit (.bool true)], args := [d1, d2, d3, d4, d5] }
  | _ => none }
def meanGrowsRow : OpenClaim := { program := "ytaelgnmklepebaa", sum := "686e8715cee8f597c35ef4ee369959ced8b84ba5d3fc98409b39126d70277912", func := "stileward/stilewardlaw3.MeanGrows", spec := "meanGrows", unfollowed := true, recurses := true, apart := false }
def MeanGrowsSaid : Prop := meanGrowsRow.holds Try.pinned (OpenSpec.ofChange meanGrowsSpec)

/-- ITS FALSE NEIGHBOUR: 'it returns false'. Refute it at one input. -/
def meanGrowsWrong : ChangeSpec := { name := "meanGrows", fn := fun _ => fun
  | [d1, d2, d3, d4, d5] => { results := [.lit (.bool false)], args := [d1, d2, d3, d4, d5] }
  | _ => none }
def MeanGrowsWrongFalsely : Prop := meanGrowsRow.holds Try.pinned (OpenSpec.ofChange meanGrowsWrong)

/- THE SECOND FORM. 'bulk': how many values and letters a reading holds, each counted each time it is reached (what is shared counts as often as it is met; a slice's spare places count too). A statement '..UptoSaid' is the law's where the arguments, and the package variables that the reading takes, are together of bulk at most 1048576: NARROWER than '..Said'. Prove '..Said' where nothing that the law and all that it calls make is longer than what came in: it says more and counts as full. Else prove '..UptoSaid'. A law counts once. -/
mutual
def uptoBulk {H : Type} : DataW H → Nat
  | .lit (.string bytes) => bytes.length + 1
  | .lit _ => 1
  | .nil => 1
  | .ptr d => uptoBulk d + 1
  | .slice elems spare => uptoBulkAll elems + uptoBulkAll spare + 1
  | .agg parts => uptoBulkAll parts + 1
  | .iface _ d => uptoBulk d + 1
  | .map entries => uptoBulkEntries entries + 1
  | .held _ => 1
def uptoBulkAll {H : Type} : List (DataW H) → Nat
  | [] => 0
  | d :: r => uptoBulk d + uptoBulkAll r
def uptoBulkEntries {H : Type} : List (Lit × DataW H) → Nat
  | [] => 0
  | x :: r => uptoBulkEntry x + uptoBulkEntries r
def uptoBulkEntry {H : Type} : Lit × DataW H → Nat
  | (.string bytes, d) => bytes.length + uptoBulk d + 1
  | (_, d) => uptoBulk d + 1
 end
def uptoSmall : (H : Type) → List (DataW H) → Bool := fun _ ds => decide (uptoBulkAll ds ≤ 1048576)
def OpenSpec.upto (s : _root_.Go.ChangeSpec) : _root_.Go.OpenSpec := { _root_.Go.OpenSpec.ofChange s with cond := some uptoSmall }

/-- 'stilewardlaw3.MeanNext', WHERE WHAT IT READS IS OF BULK AT MOST 1048576: true; the input reads as it did. -/
def meanNextUptoRow : OpenClaim := { program := "ytaelgnmklepebaa", sum := "686e8715cee8f597c35ef4ee369959ced8b84ba5d3fc98409b39126d70277912", func := "stileward/stilewardlaw3.MeanNext", spec := "meanNext", unfollowed := true, recurses := true, apart := false, narrowed := true }
def MeanNextUptoSaid : Prop := meanNextUptoRow.holds Try.pinned (OpenSpec.upto meanNextSpec)

/-- 'stilewardlaw3.MeanUnfolds', WHERE WHAT IT READS IS OF BULK AT MOST 1048576: true; the input reads as it did. -/
def meanUnfoldsUptoRow : OpenClaim := { program := "ytaelgnmklepebaa", sum := "686e8715cee8f597c35ef4ee369959ced8b84ba5d3fc98409b39126d70277912", func := "stileward/stilewardlaw3.MeanUnfolds", spec := "meanUnfolds", unfollowed := true, recurses := true, apart := false, narrowed := true }
def MeanUnfoldsUptoSaid : Prop := meanUnfoldsUptoRow.holds Try.pinned (OpenSpec.upto meanUnfoldsSpec)

/-- 'stilewardlaw3.MeanGrows', WHERE WHAT IT READS IS OF BULK AT MOST 1048576: true; the input reads as it did. -/
def meanGrowsUptoRow : OpenClaim := { program := "ytaelgnmklepebaa", sum := "686e8715cee8f597c35ef4ee369959ced8b84ba5d3fc98409b39126d70277912", func := "stileward/stilewardlaw3.MeanGrows", spec := "meanGrows", unfollowed := true, recurses := true, apart := false, narrowed := true }
def MeanGrowsUptoSaid : Prop := meanGrowsUptoRow.holds Try.pinned (OpenSpec.upto meanGrowsSpec)

end Rows
end Go.Proofs.Ytaelgnmklepebaa
