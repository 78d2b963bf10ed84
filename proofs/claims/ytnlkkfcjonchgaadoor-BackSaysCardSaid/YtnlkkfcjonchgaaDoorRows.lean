/-
  NARROWER THAN 'FOR EVERY INPUT', by the rows' own cells (each row's printed sentence says how): BackSays: laid · BackMeans: laid · BackMakes: laid.
  DERIVED. THE GIVEN ROWS OF THIS SEAT. 3 by the template 'for every input the law returns true; each argument reads behind the call as it read before'; 0 by the template 'total and deterministic' (their statements: YtnlkkfcjonchgaaDoorTotals.lean).
  GIVEN WITH THE SEED: the statements are not yours to turn. If you find one false, say at which input.
  Laid BY PROGRAM, IN A SANDBOX (cutbox-rows.mjs): the forced cells as the released guide's own fill.sh prints them over the translation b7b0caca6e53da7b… (all of the seat's roots in one cut). By AI agents, Wed Nov 11 2026. No macro, syntax, notation, axiom, sorry.
-/
import Derived.Test.YtnlkkfcjonchgaaDoorChecked
import GoSem.Claim
import GoSem.ClaimJoined
import GoSem.ClaimMapViews
import Derived.JoinedTies
import Derived.KernelRfl
namespace Go.Proofs.YtnlkkfcjonchgaaDoor
/- THE CELL 'sum', in the pinned program and in every row, IS THE sha256 OF THE DUMP (.gsa) THAT YtnlkkfcjonchgaaDoorProg.lean LOADS. Nothing in Lean hashes anything: it is a label: what it is worth is what the hold of that sum in a sandbox is worth. -/
noncomputable def Tryd.pinned : Pinned := { name := "ytnlkkfcjonchgaadoor", sum := "b7b0caca6e53da7b631f2aae3d8676d5a2a28ace766d220372826ce1b7b92a63", checked := Tryd.checked }
namespace Rows
def none {H : Type} : Left H := { results := [], args := [] }

/- WHAT THE LISTED PACKAGE-LEVEL VARIABLES READ AS WHEN THE CALL BEGINS. Each datum BY PROGRAM (the guide's laid-datum.mjs) off the statement by which the dump's own 'gosem.cut.vars' lays the variable. In a bare row this is a premise. The card (YtnlkkfcjonchgaaDoorCards.lean) ties it to the program's text. -/
def laid_errors_errorType {H : Type} : DataW H := .iface "internal/reflectlite.rtype" (.agg [.ptr (.lit (.string [101, 114, 114, 111, 114]))])

/-- 'stilewardlaw3.BackSays': WHATEVER THE INPUT: true; the input reads as it did. -/
def backSaysSpec : ChangeSpec := { name := "backSays", fn := fun _ => fun
  | [d1, d2] => { results := [.lit (.bool true)], args := [d1, d2] }
  | _ => none }
def backSaysRow : OpenClaim := { program := "ytnlkkfcjonchgaadoor", sum := "b7b0caca6e53da7b631f2aae3d8676d5a2a28ace766d220372826ce1b7b92a63", func := "stileward/stilewardlaw3.BackSays", spec := "backSays", inPlace := ["internal/reflectlite.ValueOf", "(internal/reflectlite.Value).Type", "(internal/reflectlite.Value).IsNil", "internal/reflectlite.TypeOf", "(internal/reflectlite.Value).Elem", "(internal/reflectlite.Value).Set"], unfollowed := true, recurses := true, named := ["errors.errorType"], plainKeys := false, apart := false, laid := [("errors.errorType", laid_errors_errorType)] }
def BackSaysSaid : Prop := backSaysRow.holds Tryd.pinned (OpenSpec.ofChange backSaysSpec)

/-- ITS FALSE NEIGHBOUR: 'it returns false'. Refute it at one input. -/
def backSaysWrong : ChangeSpec := { name := "backSays", fn := fun _ => fun
  | [d1, d2] => { results := [.lit (.bool false)], args := [d1, d2] }
  | _ => none }
def BackSaysWrongFalsely : Prop := backSaysRow.holds Tryd.pinned (OpenSpec.ofChange backSaysWrong)

/-- 'stilewardlaw3.BackMeans': WHATEVER THE INPUT: true; the input reads as it did. -/
def backMeansSpec : ChangeSpec := { name := "backMeans", fn := fun _ => fun
  | [d1, d2, d3] => { results := [.lit (.bool true)], args := [d1, d2, d3] }
  | _ => none }
def backMeansRow : OpenClaim := { program := "ytnlkkfcjonchgaadoor", sum := "b7b0caca6e53da7b631f2aae3d8676d5a2a28ace766d220372826ce1b7b92a63", func := "stileward/stilewardlaw3.BackMeans", spec := "backMeans", inPlace := ["internal/reflectlite.ValueOf", "(internal/reflectlite.Value).Type", "(internal/reflectlite.Value).IsNil", "internal/reflectlite.TypeOf", "(internal/reflectlite.Value).Elem", "(internal/reflectlite.Value).Set"], unfollowed := true, recurses := true, named := ["errors.errorType"], plainKeys := false, apart := false, laid := [("errors.errorType", laid_errors_errorType)] }
def BackMeansSaid : Prop := backMeansRow.holds Tryd.pinned (OpenSpec.ofChange backMeansSpec)

/-- ITS FALSE NEIGHBOUR: 'it returns false'. Refute it at one input. -/
def backMeansWrong : ChangeSpec := { name := "backMeans", fn := fun _ => fun
  | [d1, d2, d3] => { results := [.lit (.bool false)], args := [d1, d2, d3] }
  | _ => none }
def BackMeansWrongFalsely : Prop := backMeansRow.holds Tryd.pinned (OpenSpec.ofChange backMeansWrong)

/-- 'stilewardlaw3.BackMakes': WHATEVER THE INPUT: true; the input reads as it did. -/
def backMakesSpec : ChangeSpec := { name := "backMakes", fn := fun _ => fun
  | [d1, d2, d3] => { results := [.lit (.bool true)], args := [d1, d2, d3] }
  | _ => none }
def backMakesRow : OpenClaim := { program := "ytnlkkfcjonchgaadoor", sum := "b7b0caca6e53da7b631f2aae3d8676d5a2a28ace766d220372826ce1b7b92a63", func := "stileward/stilewardlaw3.BackMakes", spec := "backMakes", inPlace := ["internal/reflectlite.ValueOf", "(internal/reflectlite.Value).Type", "(internal/reflectlite.Value).IsNil", "internal/reflectlite.TypeOf", "(internal/reflectlite.Value).Elem", "(internal/reflectlite.Value).Set"], unfollowed := true, recurses := true, named := ["errors.errorType"], plainKeys := false, apart := false, laid := [("errors.errorType", laid_errors_errorType)] }
def BackMakesSaid : Prop := backMakesRow.holds Tryd.pinned (OpenSpec.ofChange backMakesSpec)

/-- ITS FALSE NEIGHBOUR: 'it returns false'. Refute it at one input. -/
def backMakesWrong : ChangeSpec := { name := "backMakes", fn := fun _ => fun
  | [d1, d2, d3] => { results := [.lit (.bool false)], args := [d1, d2, d3] }
  | _ => none }
def BackMakesWrongFalsely : Prop := backMakesRow.holds Tryd.pinned (OpenSpec.ofChange backMakesWrong)

/- THE SECOND FORM. 'bulk': how many values and letters a reading holds, each counted each time it is reached (what is shared counts as often as it is met; a slice's spare places count too). A statement '..UptoSaid' is the law's where the arguments, and the package variables that the reading takes, are together of bulk at most 1048576: NARROWER than '..Said'. Prove '..Said' where nothing that the law and all that it calls make is longer than what came in: it says more and counts as full. Else prove '..UptoSaid'. A law counts once. -/
mutual
def uptoBulk {H : Type} : DataW H → Nat
  | .lit (.string bytes) => bytes.length + 1
  | .lit _ => 1
  | .nil => 1
  | .ptr d => uptoBulk d + 1
  | .slice elems spare => uptoBulkAll elems + uptoBulkAll spare + 1
  | .agg parts => uptoBulkAll parts + 1
  | .iface _ d => uptoBulk d + 1
  | .map entries => uptoBulkEntries entries + 1
  | .held _ => 1
def uptoBulkAll {H : Type} : List (DataW H) → Nat
  | [] => 0
  | d :: r => uptoBulk d + uptoBulkAll r
def uptoBulkEntries {H : Type} : List (Lit × DataW H) → Nat
  | [] => 0
  | x :: r => uptoBulkEntry x + uptoBulkEntries r
def uptoBulkEntry {H : Type} : Lit × DataW H → Nat
  | (.string bytes, d) => bytes.length + uptoBulk d + 1
  | (_, d) => uptoBulk d + 1
 end
def uptoSmall : (H : Type) → List (DataW H) → Bool := fun _ ds => decide (uptoBulkAll ds ≤ 1048576)
def OpenSpec.upto (s : _root_.Go.ChangeSpec) : _root_.Go.OpenSpec := { _root_.Go.OpenSpec.ofChange s with cond := some uptoSmall }

/-- 'stilewardlaw3.BackSays', WHERE WHAT IT READS IS OF BULK AT MOST 1048576: true; the input reads as it did. -/
def backSaysUptoRow : OpenClaim := { program := "ytnlkkfcjonchgaadoor", sum := "b7b0caca6e53da7b631f2aae3d8676d5a2a28ace766d220372826ce1b7b92a63", func := "stileward/stilewardlaw3.BackSays", spec := "backSays", inPlace := ["internal/reflectlite.ValueOf", "(internal/reflectlite.Value).Type", "(internal/reflectlite.Value).IsNil", "internal/reflectlite.TypeOf", "(internal/reflectlite.Value).Elem", "(internal/reflectlite.Value).Set"], unfollowed := true, recurses := true, named := ["errors.errorType"], plainKeys := false, apart := false, laid := [("errors.errorType", laid_errors_errorType)], narrowed := true }
def BackSaysUptoSaid : Prop := backSaysUptoRow.holds Tryd.pinned (OpenSpec.upto backSaysSpec)

/-- 'stilewardlaw3.BackMeans', WHERE WHAT IT READS IS OF BULK AT MOST 1048576: true; the input reads as it did. -/
def backMeansUptoRow : OpenClaim := { program := "ytnlkkfcjonchgaadoor", sum := "b7b0caca6e53da7b631f2aae3d8676d5a2a28ace766d220372826ce1b7b92a63", func := "stileward/stilewardlaw3.BackMeans", spec := "backMeans", inPlace := ["internal/reflectlite.ValueOf", "(internal/reflectlite.Value).Type", "(internal/reflectlite.Value).IsNil", "internal/reflectlite.TypeOf", "(internal/reflectlite.Value).Elem", "(internal/reflectlite.Value).Set"], unfollowed := true, recurses := true, named := ["errors.errorType"], plainKeys := false, apart := false, laid := [("errors.errorType", laid_errors_errorType)], narrowed := true }
def BackMeansUptoSaid : Prop := backMeansUptoRow.holds Tryd.pinned (OpenSpec.upto backMeansSpec)

/-- 'stilewardlaw3.BackMakes', WHERE WHAT IT READS IS OF BULK AT MOST 1048576: true; the input reads as it did. -/
def backMakesUptoRow : OpenClaim := { program := "ytnlkkfcjonchgaadoor", sum := "b7b0caca6e53da7b631f2aae3d8676d5a2a28ace766d220372826ce1b7b92a63", func := "stileward/stilewardlaw3.BackMakes", spec := "backMakes", inPlace := ["internal/reflectlite.ValueOf", "(internal/reflectlite.Value).Type", "(internal/reflectlite.Value).IsNil", "internal/reflectlite.TypeOf", "(internal/reflectlite.Value).Elem", "(internal/reflectlite.Value).Set"], unfollowed := true, recurses := true, named := ["errors.errorType"], plainKeys := false, apart := false, laid := [("errors.errorType", laid_errors_errorType)], narrowed := true }
def BackMakesUptoSaid : Prop := backMakesUptoRow.holds Tryd.pinned (OpenSpec.upto backMakesSpec)

end Rows
end Go.Proofs.YtnlkkfcjonchgaaDoor
