/-
  NARROWER THAN 'FOR EVERY INPUT', by the rows' own cells (each row's printed sentence says how): SmallMakes: laid · SmallTells: laid · SmallOne: laid · DfaPairs: laid.
  DERIVED. THE GIVEN ROWS OF THIS SEAT. 4 by the template 'for every input the law returns true; each argument reads behind the call as it read before'; 0 by the template 'total and deterministic' (their statements: YtjecphfjkpinlaaDoorTotals.lean).
  GIVEN WITH THE SEED: the statements are not yours to turn. If you find one false, say at which input.
  Laid BY PROGRAM, IN A SANDBOX (cutbox-rows.mjs): the forced cells as the released guide's own fill.sh prints them over the translation e57e32f6842dde64… (all of the seat's roots in one cut). By AI agents, Wed Nov 11 2026. No macro, syntax, notation, axiom, sorry.
-/
import Derived.Test.YtjecphfjkpinlaaDoorChecked
import GoSem.Claim
import GoSem.ClaimJoined
import GoSem.ClaimMapViews
import Derived.JoinedTies
import Derived.KernelRfl
namespace Go.Proofs.YtjecphfjkpinlaaDoor
/- THE CELL 'sum', in the pinned program and in every row, IS THE sha256 OF THE DUMP (.gsa) THAT YtjecphfjkpinlaaDoorProg.lean LOADS. Nothing in Lean hashes anything: it is a label: what it is worth is what the hold of that sum in a sandbox is worth. -/
noncomputable def Tryd.pinned : Pinned := { name := "ytjecphfjkpinlaadoor", sum := "e57e32f6842dde645ccdef4de5ede86297a354cbc3cb7723f90110173fcd5a73", checked := Tryd.checked }
namespace Rows
def none {H : Type} : Left H := { results := [], args := [] }

/- WHAT THE LISTED PACKAGE-LEVEL VARIABLES READ AS WHEN THE CALL BEGINS. Each datum BY PROGRAM (the guide's laid-datum.mjs) off the statement by which the dump's own 'gosem.cut.vars' lays the variable. In a bare row this is a premise. The card (YtjecphfjkpinlaaDoorCards.lean) ties it to the program's text. -/
def laid_errors_errorType {H : Type} : DataW H := .iface "internal/reflectlite.rtype" (.agg [.ptr (.lit (.string [101, 114, 114, 111, 114]))])

/-- 'stilewardlaw2.SmallMakes': WHATEVER THE INPUT: true; the input reads as it did. -/
def smallMakesSpec : ChangeSpec := { name := "smallMakes", fn := fun _ => fun
  | [d] => { results := [.lit (.bool true)], args := [d] }
  | _ => none }
def smallMakesRow : OpenClaim := { program := "ytjecphfjkpinlaadoor", sum := "e57e32f6842dde645ccdef4de5ede86297a354cbc3cb7723f90110173fcd5a73", func := "stileward/stilewardlaw2.SmallMakes", spec := "smallMakes", inPlace := ["internal/reflectlite.ValueOf", "(internal/reflectlite.Value).Type", "(internal/reflectlite.Value).IsNil", "internal/reflectlite.TypeOf", "(internal/reflectlite.Value).Elem", "(internal/reflectlite.Value).Set"], unfollowed := true, recurses := true, named := ["errors.errorType"], plainKeys := false, apart := false, laid := [("errors.errorType", laid_errors_errorType)] }
def SmallMakesSaid : Prop := smallMakesRow.holds Tryd.pinned (OpenSpec.ofChange smallMakesSpec)

/-- ITS FALSE NEIGHBOUR: 'it returns false'. Refute it at one input. -/
def smallMakesWrong : ChangeSpec := { name := "smallMakes", fn := fun _ => fun
  | [d] => { results := [.lit (.bool false)], args := [d] }
  | _ => none }
def SmallMakesWrongFalsely : Prop := smallMakesRow.holds Tryd.pinned (OpenSpec.ofChange smallMakesWrong)

/-- 'stilewardlaw2.SmallTells': WHATEVER THE INPUT: true; the input reads as it did. -/
def smallTellsSpec : ChangeSpec := { name := "smallTells", fn := fun _ => fun
  | [d1, d2] => { results := [.lit (.bool true)], args := [d1, d2] }
  | _ => none }
def smallTellsRow : OpenClaim := { program := "ytjecphfjkpinlaadoor", sum := "e57e32f6842dde645ccdef4de5ede86297a354cbc3cb7723f90110173fcd5a73", func := "stileward/stilewardlaw2.SmallTells", spec := "smallTells", inPlace := ["internal/reflectlite.ValueOf", "(internal/reflectlite.Value).Type", "(internal/reflectlite.Value).IsNil", "internal/reflectlite.TypeOf", "(internal/reflectlite.Value).Elem", "(internal/reflectlite.Value).Set"], unfollowed := true, recurses := true, named := ["errors.errorType"], plainKeys := false, apart := false, laid := [("errors.errorType", laid_errors_errorType)] }
def SmallTellsSaid : Prop := smallTellsRow.holds Tryd.pinned (OpenSpec.ofChange smallTellsSpec)

/-- ITS FALSE NEIGHBOUR: 'it returns false'. Refute it at one input. -/
def smallTellsWrong : ChangeSpec := { name := "smallTells", fn := fun _ => fun
  | [d1, d2] => { results := [.lit (.bool false)], args := [d1, d2] }
  | _ => none }
def SmallTellsWrongFalsely : Prop := smallTellsRow.holds Tryd.pinned (OpenSpec.ofChange smallTellsWrong)

/-- 'stilewardlaw2.SmallOne': WHATEVER THE INPUT: true; the input reads as it did. -/
def smallOneSpec : ChangeSpec := { name := "smallOne", fn := fun _ => fun
  | [d1, d2] => { results := [.lit (.bool true)], args := [d1, d2] }
  | _ => none }
def smallOneRow : OpenClaim := { program := "ytjecphfjkpinlaadoor", sum := "e57e32f6842dde645ccdef4de5ede86297a354cbc3cb7723f90110173fcd5a73", func := "stileward/stilewardlaw2.SmallOne", spec := "smallOne", inPlace := ["internal/reflectlite.ValueOf", "(internal/reflectlite.Value).Type", "(internal/reflectlite.Value).IsNil", "internal/reflectlite.TypeOf", "(internal/reflectlite.Value).Elem", "(internal/reflectlite.Value).Set"], unfollowed := true, recurses := true, named := ["errors.errorType"], plainKeys := false, apart := false, laid := [("errors.errorType", laid_errors_errorType)] }
def SmallOneSaid : Prop := smallOneRow.holds Tryd.pinned (OpenSpec.ofChange smallOneSpec)

/-- ITS FALSE NEIGHBOUR: 'it returns false'. Refute it at one input. -/
def smallOneWrong : ChangeSpec := { name := "smallOne", fn := fun _ => fun
  | [d1, d2] => { results := [.lit (.bool false)], args := [d1, d2] }
  | _ => none }
def SmallOneWrongFalsely : Prop := smallOneRow.holds Tryd.pinned (OpenSpec.ofChange smallOneWrong)

/-- 'stilewardlaw2.DfaPairs': WHATEVER THE INPUT: true; the input reads as it did. -/
def dfaPairsSpec : ChangeSpec := { name := "dfaPairs", fn := fun _ => fun
  | [d1, d2] => { results := [.lit (.bool true)], args := [d1, d2] }
  | _ => none }
def dfaPairsRow : OpenClaim := { program := "ytjecphfjkpinlaadoor", sum := "e57e32f6842dde645ccdef4de5ede86297a354cbc3cb7723f90110173fcd5a73", func := "stileward/stilewardlaw2.DfaPairs", spec := "dfaPairs", inPlace := ["internal/reflectlite.ValueOf", "(internal/reflectlite.Value).Type", "(internal/reflectlite.Value).IsNil", "internal/reflectlite.TypeOf", "(internal/reflectlite.Value).Elem", "(internal/reflectlite.Value).Set"], unfollowed := true, recurses := true, named := ["errors.errorType"], plainKeys := false, apart := false, laid := [("errors.errorType", laid_errors_errorType)] }
def DfaPairsSaid : Prop := dfaPairsRow.holds Tryd.pinned (OpenSpec.ofChange dfaPairsSpec)

/-- ITS FALSE NEIGHBOUR: 'it returns false'. Refute it at one input. -/
def dfaPairsWrong : ChangeSpec := { name := "dfaPairs", fn := fun _ => fun
  | [d1, d2] => { results := [.lit (.bool false)], args := [d1, d2] }
  | _ => none }
def DfaPairsWrongFalsely : Prop := dfaPairsRow.holds Tryd.pinned (OpenSpec.ofChange dfaPairsWrong)

/- THE SECOND FORM. 'bulk': how many values and letters a reading holds, each counted each time it is reached (what is shared counts as often as it is met; a slice's spare places count too). A statement '..UptoSaid' is the law's where the arguments, and the package variables that the reading takes, are together of bulk at most 1048576: NARROWER than '..Said'. Prove '..Said' where nothing that the law and all that it calls make is longer than what came in: it says more and counts as full. Else prove '..UptoSaid'. A law counts once. -/
mutual
def uptoBulk {H : Type} : DataW H → Nat
  | .lit (.string bytes) => bytes.length + 1
  | .lit _ => 1
  | .nil => 1
  | .ptr d => uptoBulk d + 1
  | .slice elems spare => uptoBulkAll elems + uptoBulkAll spare + 1
  | .agg parts => uptoBulkAll parts + 1
  | .iface _ d => uptoBulk d + 1
  | .map entries => uptoBulkEntries entries + 1
  | .held _ => 1
def uptoBulkAll {H : Type} : List (DataW H) → Nat
  | [] => 0
  | d :: r => uptoBulk d + uptoBulkAll r
def uptoBulkEntries {H : Type} : List (Lit × DataW H) → Nat
  | [] => 0
  | x :: r => uptoBulkEntry x + uptoBulkEntries r
def uptoBulkEntry {H : Type} : Lit × DataW H → Nat
  | (.string bytes, d) => bytes.length + uptoBulk d + 1
  | (_, d) => uptoBulk d + 1
 end
def uptoSmall : (H : Type) → List (DataW H) → Bool := fun _ ds => decide (uptoBulkAll ds ≤ 1048576)
def OpenSpec.upto (s : _root_.Go.ChangeSpec) : _root_.Go.OpenSpec := { _root_.Go.OpenSpec.ofChange s with cond := some uptoSmall }

/-- 'stilewardlaw2.SmallMakes', WHERE WHAT IT READS IS OF BULK AT MOST 1048576: true; the input reads as it did. -/
def smallMakesUptoRow : OpenClaim := { program := "ytjecphfjkpinlaadoor", sum := "e57e32f6842dde645ccdef4de5ede86297a354cbc3cb7723f90110173fcd5a73", func := "stileward/stilewardlaw2.SmallMakes", spec := "smallMakes", inPlace := ["internal/reflectlite.ValueOf", "(internal/reflectlite.Value).Type", "(internal/reflectlite.Value).IsNil", "internal/reflectlite.TypeOf", "(internal/reflectlite.Value).Elem", "(internal/reflectlite.Value).Set"], unfollowed := true, recurses := true, named := ["errors.errorType"], plainKeys := false, apart := false, laid := [("errors.errorType", laid_errors_errorType)], narrowed := true }
def SmallMakesUptoSaid : Prop := smallMakesUptoRow.holds Tryd.pinned (OpenSpec.upto smallMakesSpec)

/-- 'stilewardlaw2.SmallTells', WHERE WHAT IT READS IS OF BULK AT MOST 1048576: true; the input reads as it did. -/
def smallTellsUptoRow : OpenClaim := { program := "ytjecphfjkpinlaadoor", sum := "e57e32f6842dde645ccdef4de5ede86297a354cbc3cb7723f90110173fcd5a73", func := "stileward/stilewardlaw2.SmallTells", spec := "smallTells", inPlace := ["internal/reflectlite.ValueOf", "(internal/reflectlite.Value).Type", "(internal/reflectlite.Value).IsNil", "internal/reflectlite.TypeOf", "(internal/reflectlite.Value).Elem", "(internal/reflectlite.Value).Set"], unfollowed := true, recurses := true, named := ["errors.errorType"], plainKeys := false, apart := false, laid := [("errors.errorType", laid_errors_errorType)], narrowed := true }
def SmallTellsUptoSaid : Prop := smallTellsUptoRow.holds Tryd.pinned (OpenSpec.upto smallTellsSpec)

/-- 'stilewardlaw2.SmallOne', WHERE WHAT IT READS IS OF BULK AT MOST 1048576: true; the input reads as it did. -/
def smallOneUptoRow : OpenClaim := { program := "ytjecphfjkpinlaadoor", sum := "e57e32f6842dde645ccdef4de5ede86297a354cbc3cb7723f90110173fcd5a73", func := "stileward/stilewardlaw2.SmallOne", spec := "smallOne", inPlace := ["internal/reflectlite.ValueOf", "(internal/reflectlite.Value).Type", "(internal/reflectlite.Value).IsNil", "internal/reflectlite.TypeOf", "(internal/reflectlite.Value).Elem", "(internal/reflectlite.Value).Set"], unfollowed := true, recurses := true, named := ["errors.errorType"], plainKeys := false, apart := false, laid := [("errors.errorType", laid_errors_errorType)], narrowed := true }
def SmallOneUptoSaid : Prop := smallOneUptoRow.holds Tryd.pinned (OpenSpec.upto smallOneSpec)

/-- 'stilewardlaw2.DfaPairs', WHERE WHAT IT READS IS OF BULK AT MOST 1048576: true; the input reads as it did. -/
def dfaPairsUptoRow : OpenClaim := { program := "ytjecphfjkpinlaadoor", sum := "e57e32f6842dde645ccdef4de5ede86297a354cbc3cb7723f90110173fcd5a73", func := "stileward/stilewardlaw2.DfaPairs", spec := "dfaPairs", inPlace := ["internal/reflectlite.ValueOf", "(internal/reflectlite.Value).Type", "(internal/reflectlite.Value).IsNil", "internal/reflectlite.TypeOf", "(internal/reflectlite.Value).Elem", "(internal/reflectlite.Value).Set"], unfollowed := true, recurses := true, named := ["errors.errorType"], plainKeys := false, apart := false, laid := [("errors.errorType", laid_errors_errorType)], narrowed := true }
def DfaPairsUptoSaid : Prop := dfaPairsUptoRow.holds Tryd.pinned (OpenSpec.upto dfaPairsSpec)

end Rows
end Go.Proofs.YtjecphfjkpinlaaDoor
