/-
  NARROWER THAN 'FOR EVERY INPUT', by the rows' own cells (each row's printed sentence says how): VerdictSays: laid · VerdictEarly: laid · VerdictSoonest: laid · VerdictWatch: laid.
  DERIVED. THE GIVEN ROWS OF THIS SEAT. 4 by the template 'for every input the law returns true; each argument reads behind the call as it read before'; 0 by the template 'total and deterministic' (their statements: YtblkaegnnokedaaDoorTotals.lean).
  GIVEN WITH THE SEED: the statements are not yours to turn. If you find one false, say at which input.
  Laid BY PROGRAM, IN A SANDBOX (cutbox-rows.mjs): the forced cells as the released guide's own fill.sh prints them over the translation db1cb6c7ac74802f… (all of the seat's roots in one cut). By AI agents, Wed Nov 11 2026. No macro, syntax, notation, axiom, sorry.
-/
import Derived.Test.YtblkaegnnokedaaDoorChecked
import GoSem.Claim
import GoSem.ClaimJoined
import GoSem.ClaimMapViews
import Derived.JoinedTies
import Derived.KernelRfl
namespace Go.Proofs.YtblkaegnnokedaaDoor
/- THE CELL 'sum', in the pinned program and in every row, IS THE sha256 OF THE DUMP (.gsa) THAT YtblkaegnnokedaaDoorProg.lean LOADS. Nothing in Lean hashes anything: it is a label: what it is worth is what the hold of that sum in a sandbox is worth. -/
noncomputable def Tryd.pinned : Pinned := { name := "ytblkaegnnokedaadoor", sum := "db1cb6c7ac74802fc8e1abbd40e5d47b8a7d087f13352fa13f7efca5108be949", checked := Tryd.checked }
namespace Rows
def none {H : Type} : Left H := { results := [], args := [] }

/- WHAT THE LISTED PACKAGE-LEVEL VARIABLES READ AS WHEN THE CALL BEGINS. Each datum BY PROGRAM (the guide's laid-datum.mjs) off the statement by which the dump's own 'gosem.cut.vars' lays the variable. In a bare row this is a premise. The card (YtblkaegnnokedaaDoorCards.lean) ties it to the program's text. -/
def laid_errors_errorType {H : Type} : DataW H := .iface "internal/reflectlite.rtype" (.agg [.ptr (.lit (.string [101, 114, 114, 111, 114]))])

/-- 'stilewardlaw4.VerdictSays': WHATEVER THE INPUT: true; the input reads as it did. -/
def verdictSaysSpec : ChangeSpec := { name := "verdictSays", fn := fun _ => fun
  | [d1, d2] => { results := [.lit (.bool true)], args := [d1, d2] }
  | _ => none }
def verdictSaysRow : OpenClaim := { program := "ytblkaegnnokedaadoor", sum := "db1cb6c7ac74802fc8e1abbd40e5d47b8a7d087f13352fa13f7efca5108be949", func := "stileward/stilewardlaw4.VerdictSays", spec := "verdictSays", inPlace := ["internal/reflectlite.ValueOf", "(internal/reflectlite.Value).Type", "(internal/reflectlite.Value).IsNil", "internal/reflectlite.TypeOf", "(internal/reflectlite.Value).Elem", "(internal/reflectlite.Value).Set"], unfollowed := true, recurses := true, named := ["errors.errorType"], apart := false, laid := [("errors.errorType", laid_errors_errorType)] }
def VerdictSaysSaid : Prop := verdictSaysRow.holds Tryd.pinned (OpenSpec.ofChange verdictSaysSpec)

/-- ITS FALSE NEIGHBOUR: 'it returns false'. Refute it at one input. -/
def verdictSaysWrong : ChangeSpec := { name := "verdictSays", fn := fun _ => fun
  | [d1, d2] => { results := [.lit (.bool false)], args := [d1, d2] }
  | _ => none }
def VerdictSaysWrongFalsely : Prop := verdictSaysRow.holds Tryd.pinned (OpenSpec.ofChange verdictSaysWrong)

/-- 'stilewardlaw4.VerdictEarly': WHATEVER THE INPUT: true; the input reads as it did. -/
def verdictEarlySpec : ChangeSpec := { name := "verdictEarly", fn := fun _ => fun
  | [d1, d2] => { results := [.lit (.bool true)], args := [d1, d2] }
  | _ => none }
def verdictEarlyRow : OpenClaim := { program := "ytblkaegnnokedaadoor", sum := "db1cb6c7ac74802fc8e1abbd40e5d47b8a7d087f13352fa13f7efca5108be949", func := "stileward/stilewardlaw4.VerdictEarly", spec := "verdictEarly", inPlace := ["internal/reflectlite.ValueOf", "(internal/reflectlite.Value).Type", "(internal/reflectlite.Value).IsNil", "internal/reflectlite.TypeOf", "(internal/reflectlite.Value).Elem", "(internal/reflectlite.Value).Set"], unfollowed := true, recurses := true, named := ["errors.errorType"], apart := false, laid := [("errors.errorType", laid_errors_errorType)] }
def VerdictEarlySaid : Prop := verdictEarlyRow.holds Tryd.pinned (OpenSpec.ofChange verdictEarlySpec)

/-- ITS FALSE NEIGHBOUR: 'it returns false'. Refute it at one input. -/
def verdictEarlyWrong : ChangeSpec := { name := "verdictEarly", fn := fun _ => fun
  | [d1, d2] => { results := [.lit (.bool false)], args := [d1, d2] }
  | _ => none }
def VerdictEarlyWrongFalsely : Prop := verdictEarlyRow.holds Tryd.pinned (OpenSpec.ofChange verdictEarlyWrong)

/-- 'stilewardlaw4.VerdictSoonest': WHATEVER THE INPUT: true; the input reads as it did. -/
def verdictSoonestSpec : ChangeSpec := { name := "verdictSoonest", fn := fun _ => fun
  | [d1, d2, d3] => { results := [.lit (.bool true)], args := [d1, d2, d3] }
  | _ => none }
def verdictSoonestRow : OpenClaim := { program := "ytblkaegnnokedaadoor", sum := "db1cb6c7ac74802fc8e1abbd40e5d47b8a7d087f13352fa13f7efca5108be949", func := "stileward/stilewardlaw4.VerdictSoonest", spec := "verdictSoonest", inPlace := ["internal/reflectlite.ValueOf", "(internal/reflectlite.Value).Type", "(internal/reflectlite.Value).IsNil", "internal/reflectlite.TypeOf", "(internal/reflectlite.Value).Elem", "(internal/reflectlite.Value).Set"], unfollowed := true, recurses := true, named := ["errors.errorType"], apart := false, laid := [("errors.errorType", laid_errors_errorType)] }
def VerdictSoonestSaid : Prop := verdictSoonestRow.holds Tryd.pinned (OpenSpec.ofChange verdictSoonestSpec)

/-- ITS FALSE NEIGHBOUR: 'it returns false'. Refute it at one input. -/
def verdictSoonestWrong : ChangeSpec := { name := "verdictSoonest", fn := fun _ => fun
  | [d1, d2, d3] => { results := [.lit (.bool false)], args := [d1, d2, d3] }
  | _ => none }
def VerdictSoonestWrongFalsely : Prop := verdictSoonestRow.holds Tryd.pinned (OpenSpec.ofChange verdictSoonestWrong)

/-- 'stilewardlaw4.VerdictWatch': WHATEVER THE INPUT: true; the input reads as it did. -/
def verdictWatchSpec : ChangeSpec := { name := "verdictWatch", fn := fun _ => fun
  | [d1, d2] => { results := [.lit (.bool true)], args := [d1, d2] }
  | _ => none }
def verdictWatchRow : OpenClaim := { program := "ytblkaegnnokedaadoor", sum := "db1cb6c7ac74802fc8e1abbd40e5d47b8a7d087f13352fa13f7efca5108be949", func := "stileward/stilewardlaw4.VerdictWatch", spec := "verdictWatch", inPlace := ["internal/reflectlite.ValueOf", "(internal/reflectlite.Value).Type", "(internal/reflectlite.Value).IsNil", "internal/reflectlite.TypeOf", "(internal/reflectlite.Value).Elem", "(internal/reflectlite.Value).Set"], unfollowed := true, recurses := true, named := ["errors.errorType"], apart := false, laid := [("errors.errorType", laid_errors_errorType)] }
def VerdictWatchSaid : Prop := verdictWatchRow.holds Tryd.pinned (OpenSpec.ofChange verdictWatchSpec)

/-- ITS FALSE NEIGHBOUR: 'it returns false'. Refute it at one input. -/
def verdictWatchWrong : ChangeSpec := { name := "verdictWatch", fn := fun _ => fun
  | [d1, d2] => { results := [.lit (.bool false)], args := [d1, d2] }
  | _ => none }
def VerdictWatchWrongFalsely : Prop := verdictWatchRow.holds Tryd.pinned (OpenSpec.ofChange verdictWatchWrong)

/- THE SECOND FORM. 'bulk': how many values and letters a reading holds, each counted each time it is reached (what is shared counts as often as it is met; a slice's spare places count too). A statement '..UptoSaid' is the law's where the arguments, and the package variables that the reading takes, are together of bulk at most 1048576: NARROWER than '..Said'. Prove '..Said' where nothing that the law and all that it calls make is longer than what came in: it says more and counts as full. Else prove '..UptoSaid'. A law counts once. -/
mutual
def uptoBulk {H : Type} : DataW H → Nat
  | .lit (.string bytes) => bytes.length + 1
  | .lit _ => 1
  | .nil => 1
  | .ptr d => uptoBulk d + 1
  | .slice elems spare => uptoBulkAll elems + uptoBulkAll spare + 1
  | .agg parts => uptoBulkAll parts + 1
  | .iface _ d => uptoBulk d + 1
  | .map entries => uptoBulkEntries entries + 1
  | .held _ => 1
def uptoBulkAll {H : Type} : List (DataW H) → Nat
  | [] => 0
  | d :: r => uptoBulk d + uptoBulkAll r
def uptoBulkEntries {H : Type} : List (Lit × DataW H) → Nat
  | [] => 0
  | x :: r => uptoBulkEntry x + uptoBulkEntries r
def uptoBulkEntry {H : Type} : Lit × DataW H → Nat
  | (.string bytes, d) => bytes.length + uptoBulk d + 1
  | (_, d) => uptoBulk d + 1
 end
def uptoSmall : (H : Type) → List (DataW H) → Bool := fun _ ds => decide (uptoBulkAll ds ≤ 1048576)
def OpenSpec.upto (s : _root_.Go.ChangeSpec) : _root_.Go.OpenSpec := { _root_.Go.OpenSpec.ofChange s with cond := some uptoSmall }

/-- 'stilewardlaw4.VerdictSays', WHERE WHAT IT READS IS OF BULK AT MOST 1048576: true; the input reads as it did. -/
def verdictSaysUptoRow : OpenClaim := { program := "ytblkaegnnokedaadoor", sum := "db1cb6c7ac74802fc8e1abbd40e5d47b8a7d087f13352fa13f7efca5108be949", func := "stileward/stilewardlaw4.VerdictSays", spec := "verdictSays", inPlace := ["internal/reflectlite.ValueOf", "(internal/reflectlite.Value).Type", "(internal/reflectlite.Value).IsNil", "internal/reflectlite.TypeOf", "(internal/reflectlite.Value).Elem", "(internal/reflectlite.Value).Set"], unfollowed := true, recurses := true, named := ["errors.errorType"], apart := false, laid := [("errors.errorType", laid_errors_errorType)], narrowed := true }
def VerdictSaysUptoSaid : Prop := verdictSaysUptoRow.holds Tryd.pinned (OpenSpec.upto verdictSaysSpec)

/-- 'stilewardlaw4.VerdictEarly', WHERE WHAT IT READS IS OF BULK AT MOST 1048576: true; the input reads as it did. -/
def verdictEarlyUptoRow : OpenClaim := { program := "ytblkaegnnokedaadoor", sum := "db1cb6c7ac74802fc8e1abbd40e5d47b8a7d087f13352fa13f7efca5108be949", func := "stileward/stilewardlaw4.VerdictEarly", spec := "verdictEarly", inPlace := ["internal/reflectlite.ValueOf", "(internal/reflectlite.Value).Type", "(internal/reflectlite.Value).IsNil", "internal/reflectlite.TypeOf", "(internal/reflectlite.Value).Elem", "(internal/reflectlite.Value).Set"], unfollowed := true, recurses := true, named := ["errors.errorType"], apart := false, laid := [("errors.errorType", laid_errors_errorType)], narrowed := true }
def VerdictEarlyUptoSaid : Prop := verdictEarlyUptoRow.holds Tryd.pinned (OpenSpec.upto verdictEarlySpec)

/-- 'stilewardlaw4.VerdictSoonest', WHERE WHAT IT READS IS OF BULK AT MOST 1048576: true; the input reads as it did. -/
def verdictSoonestUptoRow : OpenClaim := { program := "ytblkaegnnokedaadoor", sum := "db1cb6c7ac74802fc8e1abbd40e5d47b8a7d087f13352fa13f7efca5108be949", func := "stileward/stilewardlaw4.VerdictSoonest", spec := "verdictSoonest", inPlace := ["internal/reflectlite.ValueOf", "(internal/reflectlite.Value).Type", "(internal/reflectlite.Value).IsNil", "internal/reflectlite.TypeOf", "(internal/reflectlite.Value).Elem", "(internal/reflectlite.Value).Set"], unfollowed := true, recurses := true, named := ["errors.errorType"], apart := false, laid := [("errors.errorType", laid_errors_errorType)], narrowed := true }
def VerdictSoonestUptoSaid : Prop := verdictSoonestUptoRow.holds Tryd.pinned (OpenSpec.upto verdictSoonestSpec)

/-- 'stilewardlaw4.VerdictWatch', WHERE WHAT IT READS IS OF BULK AT MOST 1048576: true; the input reads as it did. -/
def verdictWatchUptoRow : OpenClaim := { program := "ytblkaegnnokedaadoor", sum := "db1cb6c7ac74802fc8e1abbd40e5d47b8a7d087f13352fa13f7efca5108be949", func := "stileward/stilewardlaw4.VerdictWatch", spec := "verdictWatch", inPlace := ["internal/reflectlite.ValueOf", "(internal/reflectlite.Value).Type", "(internal/reflectlite.Value).IsNil", "internal/reflectlite.TypeOf", "(internal/reflectlite.Value).Elem", "(internal/reflectlite.Value).Set"], unfollowed := true, recurses := true, named := ["errors.errorType"], apart := false, laid := [("errors.errorType", laid_errors_errorType)], narrowed := true }
def VerdictWatchUptoSaid : Prop := verdictWatchUptoRow.holds Tryd.pinned (OpenSpec.upto verdictWatchSpec)

end Rows
end Go.Proofs.YtblkaegnnokedaaDoor
