/-
  NARROWER THAN 'FOR EVERY INPUT', by the rows' own cells (each row's printed sentence says how): SuperSays: laid · SuperMost: laid · SuperAgain: laid.
  DERIVED. THE GIVEN ROWS OF THIS SEAT. 3 by the template 'for every input the law returns true; each argument reads behind the call as it read before'; 0 by the template 'total and deterministic' (their statements: YtbciefeipiphiaaDoorTotals.lean).
  GIVEN WITH THE SEED: the statements are not yours to turn. If you find one false, say at which input.
  Laid BY PROGRAM, IN A SANDBOX (cutbox-rows.mjs): the forced cells as the released guide's own fill.sh prints them over the translation ed2799d20398cfff… (all of the seat's roots in one cut). By AI agents, Wed Nov 11 2026. No macro, syntax, notation, axiom, sorry.
-/
import Derived.Test.YtbciefeipiphiaaDoorChecked
import GoSem.Claim
import GoSem.ClaimJoined
import GoSem.ClaimMapViews
import Derived.JoinedTies
import Derived.KernelRfl
namespace Go.Proofs.YtbciefeipiphiaaDoor
/- THE CELL 'sum', in the pinned program and in every row, IS THE sha256 OF THE DUMP (.gsa) THAT YtbciefeipiphiaaDoorProg.lean LOADS. Nothing in Lean hashes anything: it is a label: what it is worth is what the hold of that sum in a sandbox is worth. -/
noncomputable def Tryd.pinned : Pinned := { name := "ytbciefeipiphiaadoor", sum := "ed2799d20398cfff8df16027149e3c51a97cf46f455005f879265526785911ee", checked := Tryd.checked }
namespace Rows
def none {H : Type} : Left H := { results := [], args := [] }

/- WHAT THE LISTED PACKAGE-LEVEL VARIABLES READ AS WHEN THE CALL BEGINS. Each datum BY PROGRAM (the guide's laid-datum.mjs) off the statement by which the dump's own 'gosem.cut.vars' lays the variable. In a bare row this is a premise. The card (YtbciefeipiphiaaDoorCards.lean) ties it to the program's text. -/
def laid_errors_errorType {H : Type} : DataW H := .iface "internal/reflectlite.rtype" (.agg [.ptr (.lit (.string [101, 114, 114, 111, 114]))])

/-- 'stilewardlaw5.SuperSays': WHATEVER THE INPUT: true; the input reads as it did. -/
def superSaysSpec : ChangeSpec := { name := "superSays", fn := fun _ => fun
  | [d1, d2, d3] => { results := [.lit (.bool true)], args := [d1, d2, d3] }
  | _ => none }
def superSaysRow : OpenClaim := { program := "ytbciefeipiphiaadoor", sum := "ed2799d20398cfff8df16027149e3c51a97cf46f455005f879265526785911ee", func := "stileward/stilewardlaw5.SuperSays", spec := "superSays", inPlace := ["internal/reflectlite.ValueOf", "(internal/reflectlite.Value).Type", "(internal/reflectlite.Value).IsNil", "internal/reflectlite.TypeOf", "(internal/reflectlite.Value).Elem", "(internal/reflectlite.Value).Set"], unfollowed := true, recurses := true, named := ["errors.errorType"], plainKeys := false, apart := false, laid := [("errors.errorType", laid_errors_errorType)] }
def SuperSaysSaid : Prop := superSaysRow.holds Tryd.pinned (OpenSpec.ofChange superSaysSpec)

/-- ITS FALSE NEIGHBOUR: 'it returns false'. Refute it at one input. -/
def superSaysWrong : ChangeSpec := { name := "superSays", fn := fun _ => fun
  | [d1, d2, d3] => { results := [.lit (.bool false)], args := [d1, d2, d3] }
  | _ => none }
def SuperSaysWrongFalsely : Prop := superSaysRow.holds Tryd.pinned (OpenSpec.ofChange superSaysWrong)

/-- 'stilewardlaw5.SuperMost': WHATEVER THE INPUT: true; the input reads as it did. -/
def superMostSpec : ChangeSpec := { name := "superMost", fn := fun _ => fun
  | [d1, d2, d3, d4] => { results := [.lit (.bool true)], args := [d1, d2, d3, d4] }
  | _ => none }
def superMostRow : OpenClaim := { program := "ytbciefeipiphiaadoor", sum := "ed2799d20398cfff8df16027149e3c51a97cf46f455005f879265526785911ee", func := "stileward/stilewardlaw5.SuperMost", spec := "superMost", inPlace := ["internal/reflectlite.ValueOf", "(internal/reflectlite.Value).Type", "(internal/reflectlite.Value).IsNil", "internal/reflectlite.TypeOf", "(internal/reflectlite.Value).Elem", "(internal/reflectlite.Value).Set"], unfollowed := true, recurses := true, named := ["errors.errorType"], plainKeys := false, apart := false, laid := [("errors.errorType", laid_errors_errorType)] }
def SuperMostSaid : Prop := superMostRow.holds Tryd.pinned (OpenSpec.ofChange superMostSpec)

/-- ITS FALSE NEIGHBOUR: 'it returns false'. Refute it at one input. -/
def superMostWrong : ChangeSpec := { name := "superMost", fn := fun _ => fun
  | [d1, d2, d3, d4] => { results := [.lit (.bool false)], args := [d1, d2, d3, d4] }
  | _ => none }
def SuperMostWrongFalsely : Prop := superMostRow.holds Tryd.pinned (OpenSpec.ofChange superMostWrong)

/-- 'stilewardlaw5.SuperAgain': WHATEVER THE INPUT: true; the input reads as it did. -/
def superAgainSpec : ChangeSpec := { name := "superAgain", fn := fun _ => fun
  | [d1, d2, d3] => { results := [.lit (.bool true)], args := [d1, d2, d3] }
  | _ => none }
def superAgainRow : OpenClaim := { program := "ytbciefeipiphiaadoor", sum := "ed2799d20398cfff8df16027149e3c51a97cf46f455005f879265526785911ee", func := "stileward/stilewardlaw5.SuperAgain", spec := "superAgain", inPlace := ["internal/reflectlite.ValueOf", "(internal/reflectlite.Value).Type", "(internal/reflectlite.Value).IsNil", "internal/reflectlite.TypeOf", "(internal/reflectlite.Value).Elem", "(internal/reflectlite.Value).Set"], unfollowed := true, recurses := true, named := ["errors.errorType"], plainKeys := false, apart := false, laid := [("errors.errorType", laid_errors_errorType)] }
def SuperAgainSaid : Prop := superAgainRow.holds Tryd.pinned (OpenSpec.ofChange superAgainSpec)

/-- ITS FALSE NEIGHBOUR: 'it returns false'. Refute it at one input. -/
def superAgainWrong : ChangeSpec := { name := "superAgain", fn := fun _ => fun
  | [d1, d2, d3] => { results := [.lit (.bool false)], args := [d1, d2, d3] }
  | _ => none }
def SuperAgainWrongFalsely : Prop := superAgainRow.holds Tryd.pinned (OpenSpec.ofChange superAgainWrong)

/- THE SECOND FORM. 'bulk': how many values and letters a reading holds, each counted each time it is reached (what is shared counts as often as it is met; a slice's spare places count too). A statement '..UptoSaid' is the law's where the arguments, and the package variables that the reading takes, are together of bulk at most 1048576: NARROWER than '..Said'. Prove '..Said' where nothing that the law and all that it calls make is longer than what came in: it says more and counts as full. Else prove '..UptoSaid'. A law counts once. -/
mutual
def uptoBulk {H : Type} : DataW H → Nat
  | .lit (.string bytes) => bytes.length + 1
  | .lit _ => 1
  | .nil => 1
  | .ptr d => uptoBulk d + 1
  | .slice elems spare => uptoBulkAll elems + uptoBulkAll spare + 1
  | .agg parts => uptoBulkAll parts + 1
  | .iface _ d => uptoBulk d + 1
  | .map entries => uptoBulkEntries entries + 1
  | .held _ => 1
def uptoBulkAll {H : Type} : List (DataW H) → Nat
  | [] => 0
  | d :: r => uptoBulk d + uptoBulkAll r
def uptoBulkEntries {H : Type} : List (Lit × DataW H) → Nat
  | [] => 0
  | x :: r => uptoBulkEntry x + uptoBulkEntries r
def uptoBulkEntry {H : Type} : Lit × DataW H → Nat
  | (.string bytes, d) => bytes.length + uptoBulk d + 1
  | (_, d) => uptoBulk d + 1
 end
def uptoSmall : (H : Type) → List (DataW H) → Bool := fun _ ds => decide (uptoBulkAll ds ≤ 1048576)
def OpenSpec.upto (s : _root_.Go.ChangeSpec) : _root_.Go.OpenSpec := { _root_.Go.OpenSpec.ofChange s with cond := some uptoSmall }

/-- 'stilewardlaw5.SuperSays', WHERE WHAT IT READS IS OF BULK AT MOST 1048576: true; the input reads as it did. -/
def superSaysUptoRow : OpenClaim := { program := "ytbciefeipiphiaadoor", sum := "ed2799d20398cfff8df16027149e3c51a97cf46f455005f879265526785911ee", func := "stileward/stilewardlaw5.SuperSays", spec := "superSays", inPlace := ["internal/reflectlite.ValueOf", "(internal/reflectlite.Value).Type", "(internal/reflectlite.Value).IsNil", "internal/reflectlite.TypeOf", "(internal/reflectlite.Value).Elem", "(internal/reflectlite.Value).Set"], unfollowed := true, recurses := true, named := ["errors.errorType"], plainKeys := false, apart := false, laid := [("errors.errorType", laid_errors_errorType)], narrowed := true }
def SuperSaysUptoSaid : Prop := superSaysUptoRow.holds Tryd.pinned (OpenSpec.upto superSaysSpec)

/-- 'stilewardlaw5.SuperMost', WHERE WHAT IT READS IS OF BULK AT MOST 1048576: true; the input reads as it did. -/
def superMostUptoRow : OpenClaim := { program := "ytbciefeipiphiaadoor", sum := "ed2799d20398cfff8df16027149e3c51a97cf46f455005f879265526785911ee", func := "stileward/stilewardlaw5.SuperMost", spec := "superMost", inPlace := ["internal/reflectlite.ValueOf", "(internal/reflectlite.Value).Type", "(internal/reflectlite.Value).IsNil", "internal/reflectlite.TypeOf", "(internal/reflectlite.Value).Elem", "(internal/reflectlite.Value).Set"], unfollowed := true, recurses := true, named := ["errors.errorType"], plainKeys := false, apart := false, laid := [("errors.errorType", laid_errors_errorType)], narrowed := true }
def SuperMostUptoSaid : Prop := superMostUptoRow.holds Tryd.pinned (OpenSpec.upto superMostSpec)

/-- 'stilewardlaw5.SuperAgain', WHERE WHAT IT READS IS OF BULK AT MOST 1048576: true; the input reads as it did. -/
def superAgainUptoRow : OpenClaim := { program := "ytbciefeipiphiaadoor", sum := "ed2799d20398cfff8df16027149e3c51a97cf46f455005f879265526785911ee", func := "stileward/stilewardlaw5.SuperAgain", spec := "superAgain", inPlace := ["internal/reflectlite.ValueOf", "(internal/reflectlite.Value).Type", "(internal/reflectlite.Value).IsNil", "internal/reflectlite.TypeOf", "(internal/reflectlite.Value).Elem", "(internal/reflectlite.Value).Set"], unfollowed := true, recurses := true, named := ["errors.errorType"], plainKeys := false, apart := false, laid := [("errors.errorType", laid_errors_errorType)], narrowed := true }
def SuperAgainUptoSaid : Prop := superAgainUptoRow.holds Tryd.pinned (OpenSpec.upto superAgainSpec)

end Rows
end Go.Proofs.YtbciefeipiphiaaDoor
