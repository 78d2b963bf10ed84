/-
  No cell of these rows narrows 'for every input' (looked for: loops, veiled, ifaces, maps, wideKeys, modest, calm, conditions, laid).
  DERIVED. THE GIVEN ROWS OF THIS SEAT. 4 by the template 'for every input the law returns true; each argument reads behind the call as it read before'; 0 by the template 'total and deterministic' (their statements: YtmcgdajembhocaaTotals.lean).
  GIVEN WITH THE SEED: the statements are not yours to turn. If you find one false, say at which input.
  Laid BY PROGRAM, IN A SANDBOX (cutbox-rows.mjs): the forced cells as the released guide's own fill.sh prints them over the translation 19e3a3140725471b… (all of the seat's roots in one cut). By AI agents, Wed Nov 11 2026. No macro, syntax, notation, axiom, sorry.
-/
import Derived.Test.YtmcgdajembhocaaChecked
import GoSem.Claim
import GoSem.ClaimJoined
import GoSem.ClaimMapViews
import Derived.JoinedTies
import Derived.KernelRfl
namespace Go.Proofs.Ytmcgdajembhocaa
/- THE CELL 'sum', in the pinned program and in every row, IS THE sha256 OF THE DUMP (.gsa) THAT YtmcgdajembhocaaProg.lean LOADS. Nothing in Lean hashes anything: it is a label: what it is worth is what the hold of that sum in a sandbox is worth. -/
noncomputable def Try.pinned : Pinned := { name := "ytmcgdajembhocaa", sum := "19e3a3140725471bf9f97706b541ef0e2124e7911e0c445398750cd56e7b063a", checked := Try.checked }
namespace Rows
def none {H : Type} : Left H := { results := [], args := [] }

/-- 'stilewardlaw1.WordOnly': WHATEVER THE INPUT: true; the input reads as it did. -/
def wordOnlySpec : ChangeSpec := { name := "wordOnly", fn := fun _ => fun
  | [d1, d2, d3, d4, d5] => { results := [.lit (.bool true)], args := [d1, d2, d3, d4, d5] }
  | _ => none }
def wordOnlyRow : OpenClaim := { program := "ytmcgdajembhocaa", sum := "19e3a3140725471bf9f97706b541ef0e2124e7911e0c445398750cd56e7b063a", func := "stileward/stilewardlaw1.WordOnly", spec := "wordOnly", apart := false }
def WordOnlySaid : Prop := wordOnlyRow.holds Try.pinned (OpenSpec.ofChange wordOnlySpec)

/-- ITS FALSE NEIGHBOUR: 'it returns false'. Refute it at one input. -/
def wordOnlyWrong : ChangeSpec := { name := "wordOnly", fn := fun _ => fun
  | [d1, d2, d3, d4, d5] => { results := [.lit (.bool false)], args := [d1, d2, d3, d4, d5] }
  | _ => none }
def WordOnlyWrongFalsely : Prop := wordOnlyRow.holds Try.pinned (OpenSpec.ofChange wordOnlyWrong)

/-- 'stilewardlaw1.WordOrder': WHATEVER THE INPUT: true; the input reads as it did. -/
def wordOrderSpec : ChangeSpec := { name := "wordOrder", fn := fun _ => fun
  | [d1, d2, d3, d4] => { results := [.lit (.bool true)], args := [d1, d2, d3, d4] }
  | _ => none }
def wordOrderRow : OpenClaim := { program := "ytmcgdajembhocaa", sum := "19e3a3140725471bf9f97706b541ef0e2124e7911e0c445398750cd56e7b063a", func := "stileward/stilewardlaw1.WordOrder", spec := "wordOrder", apart := false }
def WordOrderSaid : Prop := wordOrderRow.holds Try.pinned (OpenSpec.ofChange wordOrderSpec)

/-- ITS FALSE NEIGHBOUR: 'it returns false'. Refute it at one input. -/
def wordOrderWrong : ChangeSpec := { name := "wordOrder", fn := fun _ => fun
  | [d1, d2, d3, d4] => { results := [.lit (.bool false)], args := [d1, d2, d3, d4] }
  | _ => none }
def WordOrderWrongFalsely : Prop := wordOrderRow.holds Try.pinned (OpenSpec.ofChange wordOrderWrong)

/-- 'stilewardlaw1.WordLess': WHATEVER THE INPUT: true; the input reads as it did. -/
def wordLessSpec : ChangeSpec := { name := "wordLess", fn := fun _ => fun
  | [d1, d2, d3, d4] => { results := [.lit (.bool true)], args := [d1, d2, d3, d4] }
  | _ => none }
def wordLessRow : OpenClaim := { program := "ytmcgdajembhocaa", sum := "19e3a3140725471bf9f97706b541ef0e2124e7911e0c445398750cd56e7b063a", func := "stileward/stilewardlaw1.WordLess", spec := "wordLess", apart := false }
def WordLessSaid : Prop := wordLessRow.holds Try.pinned (OpenSpec.ofChange wordLessSpec)

/-- ITS FALSE NEIGHBOUR: 'it returns false'. Refute it at one input. -/
def wordLessWrong : ChangeSpec := { name := "wordLess", fn := fun _ => fun
  | [d1, d2, d3, d4] => { results := [.lit (.bool false)], args := [d1, d2, d3, d4] }
  | _ => none }
def WordLessWrongFalsely : Prop := wordLessRow.holds Try.pinned (OpenSpec.ofChange wordLessWrong)

/-- 'stilewardlaw1.WordMirror': WHATEVER THE INPUT: true; the input reads as it did. -/
def wordMirrorSpec : ChangeSpec := { name := "wordMirror", fn := fun _ => fun
  | [d1, d2, d3] => { results := [.lit (.bool true)], args := [d1, d2, d3] }
  | _ => none }
def wordMirrorRow : OpenClaim := { program := "ytmcgdajembhocaa", sum := "19e3a3140725471bf9f97706b541ef0e2124e7911e0c445398750cd56e7b063a", func := "stileward/stilewardlaw1.WordMirror", spec := "wordMirror", apart := false }
def WordMirrorSaid : Prop := wordMirrorRow.holds Try.pinned (OpenSpec.ofChange wordMirrorSpec)

/-- ITS FALSE NEIGHBOUR: 'it returns false'. Refute it at one input. -/
def wordMirrorWrong : ChangeSpec := { name := "wordMirror", fn := fun _ => fun
  | [d1, d2, d3] => { results := [.lit (.bool false)], args := [d1, d2, d3] }
  | _ => none }
def WordMirrorWrongFalsely : Prop := wordMirrorRow.holds Try.pinned (OpenSpec.ofChange wordMirrorWrong)

/- THE SECOND FORM. 'bulk': how many values and letters a reading holds, each counted each time it is reached (what is shared counts as often as it is met; a slice's spare places count too). A statement '..UptoSaid' is the law's where the arguments, and the package variables that the reading takes, are together of bulk at most 1048576: NARROWER than '..Said'. Prove '..Said' where nothing that the law and all that it calls make is longer than what came in: it says more and counts as full. Else prove '..UptoSaid'. A law counts once. -/
mutual
def uptoBulk {H : Type} : DataW H → Nat
  | .lit (.string bytes) => bytes.length + 1
  | .lit _ => 1
  | .nil => 1
  | .ptr d => uptoBulk d + 1
  | .slice elems spare => uptoBulkAll elems + uptoBulkAll spare + 1
  | .agg parts => uptoBulkAll parts + 1
  | .iface _ d => uptoBulk d + 1
  | .map entries => uptoBulkEntries entries + 1
  | .held _ => 1
def uptoBulkAll {H : Type} : List (DataW H) → Nat
  | [] => 0
  | d :: r => uptoBulk d + uptoBulkAll r
def uptoBulkEntries {H : Type} : List (Lit × DataW H) → Nat
  | [] => 0
  | x :: r => uptoBulkEntry x + uptoBulkEntries r
def uptoBulkEntry {H : Type} : Lit × DataW H → Nat
  | (.string bytes, d) => bytes.length + uptoBulk d + 1
  | (_, d) => uptoBulk d + 1
 end
def uptoSmall : (H : Type) → List (DataW H) → Bool := fun _ ds => decide (uptoBulkAll ds ≤ 1048576)
def OpenSpec.upto (s : _root_.Go.ChangeSpec) : _root_.Go.OpenSpec := { _root_.Go.OpenSpec.ofChange s with cond := some uptoSmall }

/-- 'stilewardlaw1.WordOnly', WHERE WHAT IT READS IS OF BULK AT MOST 1048576: true; the input reads as it did. -/
def wordOnlyUptoRow : OpenClaim := { program := "ytmcgdajembhocaa", sum := "19e3a3140725471bf9f97706b541ef0e2124e7911e0c445398750cd56e7b063a", func := "stileward/stilewardlaw1.WordOnly", spec := "wordOnly", apart := false, narrowed := true }
def WordOnlyUptoSaid : Prop := wordOnlyUptoRow.holds Try.pinned (OpenSpec.upto wordOnlySpec)

/-- 'stilewardlaw1.WordOrder', WHERE WHAT IT READS IS OF BULK AT MOST 1048576: true; the input reads as it did. -/
def wordOrderUptoRow : OpenClaim := { program := "ytmcgdajembhocaa", sum := "19e3a3140725471bf9f97706b541ef0e2124e7911e0c445398750cd56e7b063a", func := "stileward/stilewardlaw1.WordOrder", spec := "wordOrder", apart := false, narrowed := true }
def WordOrderUptoSaid : Prop := wordOrderUptoRow.holds Try.pinned (OpenSpec.upto wordOrderSpec)

/-- 'stilewardlaw1.WordLess', WHERE WHAT IT READS IS OF BULK AT MOST 1048576: true; the input reads as it did. -/
def wordLessUptoRow : OpenClaim := { program := "ytmcgdajembhocaa", sum := "19e3a3140725471bf9f97706b541ef0e2124e7911e0c445398750cd56e7b063a", func := "stileward/stilewardlaw1.WordLess", spec := "wordLess", apart := false, narrowed := true }
def WordLessUptoSaid : Prop := wordLessUptoRow.holds Try.pinned (OpenSpec.upto wordLessSpec)

/-- 'stilewardlaw1.WordMirror', WHERE WHAT IT READS IS OF BULK AT MOST 1048576: true; the input reads as it did. -/
def wordMirrorUptoRow : OpenClaim := { program := "ytmcgdajembhocaa", sum := "19e3a3140725471bf9f97706b541ef0e2124e7911e0c445398750cd56e7b063a", func := "stileward/stilewardlaw1.WordMirror", spec := "wordMirror", apart := false, narrowed := true }
def WordMirrorUptoSaid : Prop := wordMirrorUptoRow.holds Try.pinned (OpenSpec.upto wordMirrorSpec)

end Rows
end Go.Proofs.Ytmcgdajembhocaa
