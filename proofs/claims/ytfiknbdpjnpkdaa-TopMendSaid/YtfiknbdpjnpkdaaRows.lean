/-
  No cell of these rows narrows 'for every input' (looked for: loops, veiled, ifaces, maps, wideKeys, modest, calm, conditions, laid).
  DERIVED. THE GIVEN ROWS OF THIS SEAT. 3 by the template 'for every input the law returns true; each argument reads behind the call as it read before'; 0 by the template 'total and deterministic' (their statements: YtfiknbdpjnpkdaaTotals.lean).
  GIVEN WITH THE SEED: the statements are not yours to turn. If you find one false, say at which input.
  Laid BY PROGRAM, IN A SANDBOX (cutbox-rows.mjs): the forced cells as the released guide's own fill.sh prints them over the translation dd4936c2f92cbd7b… (all of the seat's roots in one cut). By AI agents, Wed Nov 11 2026. No macro, syntax, notation, axiom, sorry.
-/
import Derived.Test.YtfiknbdpjnpkdaaChecked
import GoSem.Claim
import GoSem.ClaimJoined
import GoSem.ClaimMapViews
import Derived.JoinedTies
import Derived.KernelRfl
namespace Go.Proofs.Ytfiknbdpjnpkdaa
/- THE CELL 'sum', in the pinned program and in every row, IS THE sha256 OF THE DUMP (.gsa) THAT YtfiknbdpjnpkdaaProg.lean LOADS. Nothing in Lean hashes anything: it is a label: what it is worth is what the hold of that sum in a sandbox is worth. -/
noncomputable def Try.pinned : Pinned := { name := "ytfiknbdpjnpkdaa", sum := "dd4936c2f92cbd7b145babc0fb84c57d15d66ae46c6ac11f165e13318c3e0bfa", checked := Try.checked }
namespace Rows
def none {H : Type} : Left H := { results := [], args := [] }

/-- 'stilewardlaw4.MendFits': WHATEVER THE INPUT: true; the input reads as it did. -/
def mendFitsSpec : ChangeSpec := { name := "mendFits", fn := fun _ => fun
  | [d1, d2] => { results := [.lit (.bool true)], args := [d1, d2] }
  | _ => none }
def mendFitsRow : OpenClaim := { program := "ytfiknbdpjnpkdaa", sum := "dd4936c2f92cbd7b145babc0fb84c57d15d66ae46c6ac11f165e13318c3e0bfa", func := "stileward/stilewardlaw4.MendFits", spec := "mendFits", plainKeys := false, apart := false }
def MendFitsSaid : Prop := mendFitsRow.holds Try.pinned (OpenSpec.ofChange mendFitsSpec)

/-- ITS FALSE NEIGHBOUR: 'it returns false'. Refute it at one input. -/
def mendFitsWrong : ChangeSpec := { name := "mendFits", fn := fun _ => fun
  | [d1, d2] => { results := [.lit (.bool false)], args := [d1, d2] }
  | _ => none }
def MendFitsWrongFalsely : Prop := mendFitsRow.holds Try.pinned (OpenSpec.ofChange mendFitsWrong)

/-- 'stilewardlaw4.MendSmooth': WHATEVER THE INPUT: true; the input reads as it did. -/
def mendSmoothSpec : ChangeSpec := { name := "mendSmooth", fn := fun _ => fun
  | [d1, d2, d3] => { results := [.lit (.bool true)], args := [d1, d2, d3] }
  | _ => none }
def mendSmoothRow : OpenClaim := { program := "ytfiknbdpjnpkdaa", sum := "dd4936c2f92cbd7b145babc0fb84c57d15d66ae46c6ac11f165e13318c3e0bfa", func := "stileward/stilewardlaw4.MendSmooth", spec := "mendSmooth", plainKeys := false, apart := false }
def MendSmoothSaid : Prop := mendSmoothRow.holds Try.pinned (OpenSpec.ofChange mendSmoothSpec)

/-- ITS FALSE NEIGHBOUR: 'it returns false'. Refute it at one input. -/
def mendSmoothWrong : ChangeSpec := { name := "mendSmooth", fn := fun _ => fun
  | [d1, d2, d3] => { results := [.lit (.bool false)], args := [d1, d2, d3] }
  | _ => none }
def MendSmoothWrongFalsely : Prop := mendSmoothRow.holds Try.pinned (OpenSpec.ofChange mendSmoothWrong)

/-- 'stilewardtop.TopMend': WHATEVER THE INPUT: true; the input reads as it did. -/
def topMendSpec : ChangeSpec := { name := "topMend", fn := fun _ => fun
  | [d1, d2] => { results := [.lit (.bool true)], args := [d1, d2] }
  | _ => none }
def topMendRow : OpenClaim := { program := "ytfiknbdpjnpkdaa", sum := "dd4936c2f92cbd7b145babc0fb84c57d15d66ae46c6ac11f165e13318c3e0bfa", func := "stileward/stilewardtop.TopMend", spec := "topMend", unfollowed := true, recurses := true, plainKeys := false, apart := false }
def TopMendSaid : Prop := topMendRow.holds Try.pinned (OpenSpec.ofChange topMendSpec)

/-- ITS FALSE NEIGHBOUR: 'it returns false'. Refute it at one input. -/
def topMendWrong : ChangeSpec := { name := "topMend", fn := fun _ => fun
  | [d1, d2] => { results := [.lit (.bool false)], args := [d1, d2] }
  | _ => none }
def TopMendWrongFalsely : Prop := topMendRow.holds Try.pinned (OpenSpec.ofChange topMendWrong)

/- THE SECOND FORM. 'bulk': how many values and letters a reading holds, each counted each time it is reached (what is shared counts as often as it is met; a slice's spare places count too). A statement '..UptoSaid' is the law's where the arguments, and the package variables that the reading takes, are together of bulk at most 1048576: NARROWER than '..Said'. Prove '..Said' where nothing that the law and all that it calls make is longer than what came in: it says more and counts as full. Else prove '..UptoSaid'. A law counts once. -/
mutual
def uptoBulk {H : Type} : DataW H → Nat
  | .lit (.string bytes) => bytes.length + 1
  | .lit _ => 1
  | .nil => 1
  | .ptr d => uptoBulk d + 1
  | .slice elems spare => uptoBulkAll elems + uptoBulkAll spare + 1
  | .agg parts => uptoBulkAll parts + 1
  | .iface _ d => uptoBulk d + 1
  | .map entries => uptoBulkEntries entries + 1
  | .held _ => 1
def uptoBulkAll {H : Type} : List (DataW H) → Nat
  | [] => 0
  | d :: r => uptoBulk d + uptoBulkAll r
def uptoBulkEntries {H : Type} : List (Lit × DataW H) → Nat
  | [] => 0
  | x :: r => uptoBulkEntry x + uptoBulkEntries r
def uptoBulkEntry {H : Type} : Lit × DataW H → Nat
  | (.string bytes, d) => bytes.length + uptoBulk d + 1
  | (_, d) => uptoBulk d + 1
 end
def uptoSmall : (H : Type) → List (DataW H) → Bool := fun _ ds => decide (uptoBulkAll ds ≤ 1048576)
def OpenSpec.upto (s : _root_.Go.ChangeSpec) : _root_.Go.OpenSpec := { _root_.Go.OpenSpec.ofChange s with cond := some uptoSmall }

/-- 'stilewardlaw4.MendFits', WHERE WHAT IT READS IS OF BULK AT MOST 1048576: true; the input reads as it did. -/
def mendFitsUptoRow : OpenClaim := { program := "ytfiknbdpjnpkdaa", sum := "dd4936c2f92cbd7b145babc0fb84c57d15d66ae46c6ac11f165e13318c3e0bfa", func := "stileward/stilewardlaw4.MendFits", spec := "mendFits", plainKeys := false, apart := false, narrowed := true }
def MendFitsUptoSaid : Prop := mendFitsUptoRow.holds Try.pinned (OpenSpec.upto mendFitsSpec)

/-- 'stilewardlaw4.MendSmooth', WHERE WHAT IT READS IS OF BULK AT MOST 1048576: true; the input reads as it did. -/
def mendSmoothUptoRow : OpenClaim := { program := "ytfiknbdpjnpkdaa", sum := "dd4936c2f92cbd7b145babc0fb84c57d15d66ae46c6ac11f165e13318c3e0bfa", func := "stileward/stilewardlaw4.MendSmooth", spec := "mendSmooth", plainKeys := false, apart := false, narrowed := true }
def MendSmoothUptoSaid : Prop := mendSmoothUptoRow.holds Try.pinned (OpenSpec.upto mendSmoothSpec)

/-- 'stilewardtop.TopMend', WHERE WHAT IT READS IS OF BULK AT MOST 1048576: true; the input reads as it did. -/
def topMendUptoRow : OpenClaim := { program := "ytfiknbdpjnpkdaa", sum := "dd4936c2f92cbd7b145babc0fb84c57d15d66ae46c6ac11f165e13318c3e0bfa", func := "stileward/stilewardtop.TopMend", spec := "topMend", unfollowed := true, recurses := true, plainKeys := false, apart := false, narrowed := true }
def TopMendUptoSaid : Prop := topMendUptoRow.holds Try.pinned (OpenSpec.upto topMendSpec)

end Rows
end Go.Proofs.Ytfiknbdpjnpkdaa
