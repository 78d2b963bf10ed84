/-
  NARROWER THAN 'FOR EVERY INPUT', by the rows' own cells (each row's printed sentence says how): DfaSays: laid · DfaPairs: laid · ReachSays: laid · ReachFirst: laid · ReachTrims: laid · ReachCounts: laid · ReachLeast: laid · SmallMakes: laid · SmallTells: laid · SmallOne: laid · NfaSays: laid · NfaMakes: laid · NfaMeans: laid.
  DERIVED. THE GIVEN ROWS OF THIS SEAT. 13 by the template 'for every input the law returns true; each argument reads behind the call as it read before'; 0 by the template 'total and deterministic' (their statements: YtinehjfanabegaaDoorTotals.lean).
  GIVEN WITH THE SEED: the statements are not yours to turn. If you find one false, say at which input.
  Laid BY PROGRAM, IN A SANDBOX (cutbox-rows.mjs): the forced cells as the released guide's own fill.sh prints them over the translation 36501304cd7f9920… (all of the seat's roots in one cut). By AI agents, Wed Nov 11 2026. No macro, syntax, notation, axiom, sorry.
-/
import Derived.Test.YtinehjfanabegaaDoorChecked
import GoSem.Claim
import GoSem.ClaimJoined
import GoSem.ClaimMapViews
import Derived.JoinedTies
import Derived.KernelRfl
namespace Go.Proofs.YtinehjfanabegaaDoor
/- THE CELL 'sum', in the pinned program and in every row, IS THE sha256 OF THE DUMP (.gsa) THAT YtinehjfanabegaaDoorProg.lean LOADS. Nothing in Lean hashes anything: it is a label: what it is worth is what the hold of that sum in a sandbox is worth. -/
noncomputable def Tryd.pinned : Pinned := { name := "ytinehjfanabegaadoor", sum := "36501304cd7f9920b9ce2f9f46c633756898b1ec9a831a8a2bcf275b5900da9a", checked := Tryd.checked }
namespace Rows
def none {H : Type} : Left H := { results := [], args := [] }

/- WHAT THE LISTED PACKAGE-LEVEL VARIABLES READ AS WHEN THE CALL BEGINS. Each datum BY PROGRAM (the guide's laid-datum.mjs) off the statement by which the dump's own 'gosem.cut.vars' lays the variable. In a bare row this is a premise. The card (YtinehjfanabegaaDoorCards.lean) ties it to the program's text. -/
def laid_errors_errorType {H : Type} : DataW H := .iface "internal/reflectlite.rtype" (.agg [.ptr (.lit (.string [101, 114, 114, 111, 114]))])

/-- 'stilewardlaw2.DfaSays': WHATEVER THE INPUT: true; the input reads as it did. -/
def dfaSaysSpec : ChangeSpec := { name := "dfaSays", fn := fun _ => fun
  | [d1, d2, d3] => { results := [.lit (.bool true)], args := [d1, d2, d3] }
  | _ => none }
def dfaSaysRow : OpenClaim := { program := "ytinehjfanabegaadoor", sum := "36501304cd7f9920b9ce2f9f46c633756898b1ec9a831a8a2bcf275b5900da9a", func := "stileward/stilewardlaw2.DfaSays", spec := "dfaSays", inPlace := ["internal/reflectlite.ValueOf", "(internal/reflectlite.Value).Type", "(internal/reflectlite.Value).IsNil", "internal/reflectlite.TypeOf", "(internal/reflectlite.Value).Elem", "(internal/reflectlite.Value).Set"], unfollowed := true, recurses := true, named := ["errors.errorType"], plainKeys := false, apart := false, laid := [("errors.errorType", laid_errors_errorType)] }
def DfaSaysSaid : Prop := dfaSaysRow.holds Tryd.pinned (OpenSpec.ofChange dfaSaysSpec)

/-- ITS FALSE NEIGHBOUR: 'it returns false'. Refute it at one input. -/
def dfaSaysWrong : ChangeSpec := { name := "dfaSays", fn := fun _ => fun
  | [d1, d2, d3] => { results := [.lit (.bool false)], args := [d1, d2, d3] }
  | _ => none }
def DfaSaysWrongFalsely : Prop := dfaSaysRow.holds Tryd.pinned (OpenSpec.ofChange dfaSaysWrong)

/-- 'stilewardlaw2.DfaPairs': WHATEVER THE INPUT: true; the input reads as it did. -/
def dfaPairsSpec : ChangeSpec := { name := "dfaPairs", fn := fun _ => fun
  | [d1, d2] => { results := [.lit (.bool true)], args := [d1, d2] }
  | _ => none }
def dfaPairsRow : OpenClaim := { program := "ytinehjfanabegaadoor", sum := "36501304cd7f9920b9ce2f9f46c633756898b1ec9a831a8a2bcf275b5900da9a", func := "stileward/stilewardlaw2.DfaPairs", spec := "dfaPairs", inPlace := ["internal/reflectlite.ValueOf", "(internal/reflectlite.Value).Type", "(internal/reflectlite.Value).IsNil", "internal/reflectlite.TypeOf", "(internal/reflectlite.Value).Elem", "(internal/reflectlite.Value).Set"], unfollowed := true, recurses := true, named := ["errors.errorType"], plainKeys := false, apart := false, laid := [("errors.errorType", laid_errors_errorType)] }
def DfaPairsSaid : Prop := dfaPairsRow.holds Tryd.pinned (OpenSpec.ofChange dfaPairsSpec)

/-- ITS FALSE NEIGHBOUR: 'it returns false'. Refute it at one input. -/
def dfaPairsWrong : ChangeSpec := { name := "dfaPairs", fn := fun _ => fun
  | [d1, d2] => { results := [.lit (.bool false)], args := [d1, d2] }
  | _ => none }
def DfaPairsWrongFalsely : Prop := dfaPairsRow.holds Tryd.pinned (OpenSpec.ofChange dfaPairsWrong)

/-- 'stilewardlaw2.ReachSays': WHATEVER THE INPUT: true; the input reads as it did. -/
def reachSaysSpec : ChangeSpec := { name := "reachSays", fn := fun _ => fun
  | [d] => { results := [.lit (.bool true)], args := [d] }
  | _ => none }
def reachSaysRow : OpenClaim := { program := "ytinehjfanabegaadoor", sum := "36501304cd7f9920b9ce2f9f46c633756898b1ec9a831a8a2bcf275b5900da9a", func := "stileward/stilewardlaw2.ReachSays", spec := "reachSays", inPlace := ["internal/reflectlite.ValueOf", "(internal/reflectlite.Value).Type", "(internal/reflectlite.Value).IsNil", "internal/reflectlite.TypeOf", "(internal/reflectlite.Value).Elem", "(internal/reflectlite.Value).Set"], unfollowed := true, recurses := true, named := ["errors.errorType"], plainKeys := false, apart := false, laid := [("errors.errorType", laid_errors_errorType)] }
def ReachSaysSaid : Prop := reachSaysRow.holds Tryd.pinned (OpenSpec.ofChange reachSaysSpec)

/-- ITS FALSE NEIGHBOUR: 'it returns false'. Refute it at one input. -/
def reachSaysWrong : ChangeSpec := { name := "reachSays", fn := fun _ => fun
  | [d] => { results := [.lit (.bool false)], args := [d] }
  | _ => none }
def ReachSaysWrongFalsely : Prop := reachSaysRow.holds Tryd.pinned (OpenSpec.ofChange reachSaysWrong)

/-- 'stilewardlaw2.ReachFirst': WHATEVER THE INPUT: true; the input reads as it did. -/
def reachFirstSpec : ChangeSpec := { name := "reachFirst", fn := fun _ => fun
  | [d] => { results := [.lit (.bool true)], args := [d] }
  | _ => none }
def reachFirstRow : OpenClaim := { program := "ytinehjfanabegaadoor", sum := "36501304cd7f9920b9ce2f9f46c633756898b1ec9a831a8a2bcf275b5900da9a", func := "stileward/stilewardlaw2.ReachFirst", spec := "reachFirst", inPlace := ["internal/reflectlite.ValueOf", "(internal/reflectlite.Value).Type", "(internal/reflectlite.Value).IsNil", "internal/reflectlite.TypeOf", "(internal/reflectlite.Value).Elem", "(internal/reflectlite.Value).Set"], unfollowed := true, recurses := true, named := ["errors.errorType"], plainKeys := false, apart := false, laid := [("errors.errorType", laid_errors_errorType)] }
def ReachFirstSaid : Prop := reachFirstRow.holds Tryd.pinned (OpenSpec.ofChange reachFirstSpec)

/-- ITS FALSE NEIGHBOUR: 'it returns false'. Refute it at one input. -/
def reachFirstWrong : ChangeSpec := { name := "reachFirst", fn := fun _ => fun
  | [d] => { results := [.lit (.bool false)], args := [d] }
  | _ => none }
def ReachFirstWrongFalsely : Prop := reachFirstRow.holds Tryd.pinned (OpenSpec.ofChange reachFirstWrong)

/-- 'stilewardlaw2.ReachTrims': WHATEVER THE INPUT: true; the input reads as it did. -/
def reachTrimsSpec : ChangeSpec := { name := "reachTrims", fn := fun _ => fun
  | [d] => { results := [.lit (.bool true)], args := [d] }
  | _ => none }
def reachTrimsRow : OpenClaim := { program := "ytinehjfanabegaadoor", sum := "36501304cd7f9920b9ce2f9f46c633756898b1ec9a831a8a2bcf275b5900da9a", func := "stileward/stilewardlaw2.ReachTrims", spec := "reachTrims", inPlace := ["internal/reflectlite.ValueOf", "(internal/reflectlite.Value).Type", "(internal/reflectlite.Value).IsNil", "internal/reflectlite.TypeOf", "(internal/reflectlite.Value).Elem", "(internal/reflectlite.Value).Set"], unfollowed := true, recurses := true, named := ["errors.errorType"], plainKeys := false, apart := false, laid := [("errors.errorType", laid_errors_errorType)] }
def ReachTrimsSaid : Prop := reachTrimsRow.holds Tryd.pinned (OpenSpec.ofChange reachTrimsSpec)

/-- ITS FALSE NEIGHBOUR: 'it returns false'. Refute it at one input. -/
def reachTrimsWrong : ChangeSpec := { name := "reachTrims", fn := fun _ => fun
  | [d] => { results := [.lit (.bool false)], args := [d] }
  | _ => none }
def ReachTrimsWrongFalsely : Prop := reachTrimsRow.holds Tryd.pinned (OpenSpec.ofChange reachTrimsWrong)

/-- 'stilewardlaw2.ReachCounts': WHATEVER THE INPUT: true; the input reads as it did. -/
def reachCountsSpec : ChangeSpec := { name := "reachCounts", fn := fun _ => fun
  | [d1, d2] => { results := [.lit (.bool true)], args := [d1, d2] }
  | _ => none }
def reachCountsRow : OpenClaim := { program := "ytinehjfanabegaadoor", sum := "36501304cd7f9920b9ce2f9f46c633756898b1ec9a831a8a2bcf275b5900da9a", func := "stileward/stilewardlaw2.ReachCounts", spec := "reachCounts", inPlace := ["internal/reflectlite.ValueOf", "(internal/reflectlite.Value).Type", "(internal/reflectlite.Value).IsNil", "internal/reflectlite.TypeOf", "(internal/reflectlite.Value).Elem", "(internal/reflectlite.Value).Set"], unfollowed := true, recurses := true, named := ["errors.errorType"], plainKeys := false, apart := false, laid := [("errors.errorType", laid_errors_errorType)] }
def ReachCountsSaid : Prop := reachCountsRow.holds Tryd.pinned (OpenSpec.ofChange reachCountsSpec)

/-- ITS FALSE NEIGHBOUR: 'it returns false'. Refute it at one input. -/
def reachCountsWrong : ChangeSpec := { name := "reachCounts", fn := fun _ => fun
  | [d1, d2] => { results := [.lit (.bool false)], args := [d1, d2] }
  | _ => none }
def ReachCountsWrongFalsely : Prop := reachCountsRow.holds Tryd.pinned (OpenSpec.ofChange reachCountsWrong)

/-- 'stilewardlaw2.ReachLeast': WHATEVER THE INPUT: true; the input reads as it did. -/
def reachLeastSpec : ChangeSpec := { name := "reachLeast", fn := fun _ => fun
  | [d1, d2] => { results := [.lit (.bool true)], args := [d1, d2] }
  | _ => none }
def reachLeastRow : OpenClaim := { program := "ytinehjfanabegaadoor", sum := "36501304cd7f9920b9ce2f9f46c633756898b1ec9a831a8a2bcf275b5900da9a", func := "stileward/stilewardlaw2.ReachLeast", spec := "reachLeast", inPlace := ["internal/reflectlite.ValueOf", "(internal/reflectlite.Value).Type", "(internal/reflectlite.Value).IsNil", "internal/reflectlite.TypeOf", "(internal/reflectlite.Value).Elem", "(internal/reflectlite.Value).Set"], unfollowed := true, recurses := true, named := ["errors.errorType"], plainKeys := false, apart := false, laid := [("errors.errorType", laid_errors_errorType)] }
def ReachLeastSaid : Prop := reachLeastRow.holds Tryd.pinned (OpenSpec.ofChange reachLeastSpec)

/-- ITS FALSE NEIGHBOUR: 'it returns false'. Refute it at one input. -/
def reachLeastWrong : ChangeSpec := { name := "reachLeast", fn := fun _ => fun
  | [d1, d2] => { results := [.lit (.bool false)], args := [d1, d2] }
  | _ => none }
def ReachLeastWrongFalsely : Prop := reachLeastRow.holds Tryd.pinned (OpenSpec.ofChange reachLeastWrong)

/-- 'stilewardlaw2.SmallMakes': WHATEVER THE INPUT: true; the input reads as it did. -/
def smallMakesSpec : ChangeSpec := { name := "smallMakes", fn := fun _ => fun
  | [d] => { results := [.lit (.bool true)], args := [d] }
  | _ => none }
def smallMakesRow : OpenClaim := { program := "ytinehjfanabegaadoor", sum := "36501304cd7f9920b9ce2f9f46c633756898b1ec9a831a8a2bcf275b5900da9a", func := "stileward/stilewardlaw2.SmallMakes", spec := "smallMakes", inPlace := ["internal/reflectlite.ValueOf", "(internal/reflectlite.Value).Type", "(internal/reflectlite.Value).IsNil", "internal/reflectlite.TypeOf", "(internal/reflectlite.Value).Elem", "(internal/reflectlite.Value).Set"], unfollowed := true, recurses := true, named := ["errors.errorType"], plainKeys := false, apart := false, laid := [("errors.errorType", laid_errors_errorType)] }
def SmallMakesSaid : Prop := smallMakesRow.holds Tryd.pinned (OpenSpec.ofChange smallMakesSpec)

/-- ITS FALSE NEIGHBOUR: 'it returns false'. Refute it at one input. -/
def smallMakesWrong : ChangeSpec := { name := "smallMakes", fn := fun _ => fun
  | [d] => { results := [.lit (.bool false)], args := [d] }
  | _ => none }
def SmallMakesWrongFalsely : Prop := smallMakesRow.holds Tryd.pinned (OpenSpec.ofChange smallMakesWrong)

/-- 'stilewardlaw2.SmallTells': WHATEVER THE INPUT: true; the input reads as it did. -/
def smallTellsSpec : ChangeSpec := { name := "smallTells", fn := fun _ => fun
  | [d1, d2] => { results := [.lit (.bool true)], args := [d1, d2] }
  | _ => none }
def smallTellsRow : OpenClaim := { program := "ytinehjfanabegaadoor", sum := "36501304cd7f9920b9ce2f9f46c633756898b1ec9a831a8a2bcf275b5900da9a", func := "stileward/stilewardlaw2.SmallTells", spec := "smallTells", inPlace := ["internal/reflectlite.ValueOf", "(internal/reflectlite.Value).Type", "(internal/reflectlite.Value).IsNil", "internal/reflectlite.TypeOf", "(internal/reflectlite.Value).Elem", "(internal/reflectlite.Value).Set"], unfollowed := true, recurses := true, named := ["errors.errorType"], plainKeys := false, apart := false, laid := [("errors.errorType", laid_errors_errorType)] }
def SmallTellsSaid : Prop := smallTellsRow.holds Tryd.pinned (OpenSpec.ofChange smallTellsSpec)

/-- ITS FALSE NEIGHBOUR: 'it returns false'. Refute it at one input. -/
def smallTellsWrong : ChangeSpec := { name := "smallTells", fn := fun _ => fun
  | [d1, d2] => { results := [.lit (.bool false)], args := [d1, d2] }
  | _ => none }
def SmallTellsWrongFalsely : Prop := smallTellsRow.holds Tryd.pinned (OpenSpec.ofChange smallTellsWrong)

/-- 'stilewardlaw2.SmallOne': WHATEVER THE INPUT: true; the input reads as it did. -/
def smallOneSpec : ChangeSpec := { name := "smallOne", fn := fun _ => fun
  | [d1, d2] => { results := [.lit (.bool true)], args := [d1, d2] }
  | _ => none }
def smallOneRow : OpenClaim := { program := "ytinehjfanabegaadoor", sum := "36501304cd7f9920b9ce2f9f46c633756898b1ec9a831a8a2bcf275b5900da9a", func := "stileward/stilewardlaw2.SmallOne", spec := "smallOne", inPlace := ["internal/reflectlite.ValueOf", "(internal/reflectlite.Value).Type", "(internal/reflectlite.Value).IsNil", "internal/reflectlite.TypeOf", "(internal/reflectlite.Value).Elem", "(internal/reflectlite.Value).Set"], unfollowed := true, recurses := true, named := ["errors.errorType"], plainKeys := false, apart := false, laid := [("errors.errorType", laid_errors_errorType)] }
def SmallOneSaid : Prop := smallOneRow.holds Tryd.pinned (OpenSpec.ofChange smallOneSpec)

/-- ITS FALSE NEIGHBOUR: 'it returns false'. Refute it at one input. -/
def smallOneWrong : ChangeSpec := { name := "smallOne", fn := fun _ => fun
  | [d1, d2] => { results := [.lit (.bool false)], args := [d1, d2] }
  | _ => none }
def SmallOneWrongFalsely : Prop := smallOneRow.holds Tryd.pinned (OpenSpec.ofChange smallOneWrong)

/-- 'stilewardlaw2.NfaSays': WHATEVER THE INPUT: true; the input reads as it did. -/
def nfaSaysSpec : ChangeSpec := { name := "nfaSays", fn := fun _ => fun
  | [d1, d2] => { results := [.lit (.bool true)], args := [d1, d2] }
  | _ => none }
def nfaSaysRow : OpenClaim := { program := "ytinehjfanabegaadoor", sum := "36501304cd7f9920b9ce2f9f46c633756898b1ec9a831a8a2bcf275b5900da9a", func := "stileward/stilewardlaw2.NfaSays", spec := "nfaSays", inPlace := ["internal/reflectlite.ValueOf", "(internal/reflectlite.Value).Type", "(internal/reflectlite.Value).IsNil", "internal/reflectlite.TypeOf", "(internal/reflectlite.Value).Elem", "(internal/reflectlite.Value).Set"], unfollowed := true, recurses := true, named := ["errors.errorType"], plainKeys := false, apart := false, laid := [("errors.errorType", laid_errors_errorType)] }
def NfaSaysSaid : Prop := nfaSaysRow.holds Tryd.pinned (OpenSpec.ofChange nfaSaysSpec)

/-- ITS FALSE NEIGHBOUR: 'it returns false'. Refute it at one input. -/
def nfaSaysWrong : ChangeSpec := { name := "nfaSays", fn := fun _ => fun
  | [d1, d2] => { results := [.lit (.bool false)], args := [d1, d2] }
  | _ => none }
def NfaSaysWrongFalsely : Prop := nfaSaysRow.holds Tryd.pinned (OpenSpec.ofChange nfaSaysWrong)

/-- 'stilewardlaw2.NfaMakes': WHATEVER THE INPUT: true; the input reads as it did. -/
def nfaMakesSpec : ChangeSpec := { name := "nfaMakes", fn := fun _ => fun
  | [d1, d2] => { results := [.lit (.bool true)], args := [d1, d2] }
  | _ => none }
def nfaMakesRow : OpenClaim := { program := "ytinehjfanabegaadoor", sum := "36501304cd7f9920b9ce2f9f46c633756898b1ec9a831a8a2bcf275b5900da9a", func := "stileward/stilewardlaw2.NfaMakes", spec := "nfaMakes", inPlace := ["internal/reflectlite.ValueOf", "(internal/reflectlite.Value).Type", "(internal/reflectlite.Value).IsNil", "internal/reflectlite.TypeOf", "(internal/reflectlite.Value).Elem", "(internal/reflectlite.Value).Set"], unfollowed := true, recurses := true, named := ["errors.errorType"], plainKeys := false, apart := false, laid := [("errors.errorType", laid_errors_errorType)] }
def NfaMakesSaid : Prop := nfaMakesRow.holds Tryd.pinned (OpenSpec.ofChange nfaMakesSpec)

/-- ITS FALSE NEIGHBOUR: 'it returns false'. Refute it at one input. -/
def nfaMakesWrong : ChangeSpec := { name := "nfaMakes", fn := fun _ => fun
  | [d1, d2] => { results := [.lit (.bool false)], args := [d1, d2] }
  | _ => none }
def NfaMakesWrongFalsely : Prop := nfaMakesRow.holds Tryd.pinned (OpenSpec.ofChange nfaMakesWrong)

/-- 'stilewardlaw2.NfaMeans': WHATEVER THE INPUT: true; the input reads as it did. -/
def nfaMeansSpec : ChangeSpec := { name := "nfaMeans", fn := fun _ => fun
  | [d1, d2] => { results := [.lit (.bool true)], args := [d1, d2] }
  | _ => none }
def nfaMeansRow : OpenClaim := { program := "ytinehjfanabegaadoor", sum := "36501304cd7f9920b9ce2f9f46c633756898b1ec9a831a8a2bcf275b5900da9a", func := "stileward/stilewardlaw2.NfaMeans", spec := "nfaMeans", inPlace := ["internal/reflectlite.ValueOf", "(internal/reflectlite.Value).Type", "(internal/reflectlite.Value).IsNil", "internal/reflectlite.TypeOf", "(internal/reflectlite.Value).Elem", "(internal/reflectlite.Value).Set"], unfollowed := true, recurses := true, named := ["errors.errorType"], plainKeys := false, apart := false, laid := [("errors.errorType", laid_errors_errorType)] }
def NfaMeansSaid : Prop := nfaMeansRow.holds Tryd.pinned (OpenSpec.ofChange nfaMeansSpec)

/-- ITS FALSE NEIGHBOUR: 'it returns false'. Refute it at one input. -/
def nfaMeansWrong : ChangeSpec := { name := "nfaMeans", fn := fun _ => fun
  | [d1, d2] => { results := [.lit (.bool false)], args := [d1, d2] }
  | _ => none }
def NfaMeansWrongFalsely : Prop := nfaMeansRow.holds Tryd.pinned (OpenSpec.ofChange nfaMeansWrong)

/- THE SECOND FORM. 'bulk': how many values and letters a reading holds, each counted each time it is reached (what is shared counts as often as it is met; a slice's spare places count too). A statement '..UptoSaid' is the law's where the arguments, and the package variables that the reading takes, are together of bulk at most 1048576: NARROWER than '..Said'. Prove '..Said' where nothing that the law and all that it calls make is longer than what came in: it says more and counts as full. Else prove '..UptoSaid'. A law counts once. -/
mutual
def uptoBulk {H : Type} : DataW H → Nat
  | .lit (.string bytes) => bytes.length + 1
  | .lit _ => 1
  | .nil => 1
  | .ptr d => uptoBulk d + 1
  | .slice elems spare => uptoBulkAll elems + uptoBulkAll spare + 1
  | .agg parts => uptoBulkAll parts + 1
  | .iface _ d => uptoBulk d + 1
  | .map entries => uptoBulkEntries entries + 1
  | .held _ => 1
def uptoBulkAll {H : Type} : List (DataW H) → Nat
  | [] => 0
  | d :: r => uptoBulk d + uptoBulkAll r
def uptoBulkEntries {H : Type} : List (Lit × DataW H) → Nat
  | [] => 0
  | x :: r => uptoBulkEntry x + uptoBulkEntries r
def uptoBulkEntry {H : Type} : Lit × DataW H → Nat
  | (.string bytes, d) => bytes.length + uptoBulk d + 1
  | (_, d) => uptoBulk d + 1
 end
def uptoSmall : (H : Type) → List (DataW H) → Bool := fun _ ds => decide (uptoBulkAll ds ≤ 1048576)
def OpenSpec.upto (s : _root_.Go.ChangeSpec) : _root_.Go.OpenSpec := { _root_.Go.OpenSpec.ofChange s with cond := some uptoSmall }

/-- 'stilewardlaw2.DfaSays', WHERE WHAT IT READS IS OF BULK AT MOST 1048576: true; the input reads as it did. -/
def dfaSaysUptoRow : OpenClaim := { program := "ytinehjfanabegaadoor", sum := "36501304cd7f9920b9ce2f9f46c633756898b1ec9a831a8a2bcf275b5900da9a", func := "stileward/stilewardlaw2.DfaSays", spec := "dfaSays", inPlace := ["internal/reflectlite.ValueOf", "(internal/reflectlite.Value).Type", "(internal/reflectlite.Value).IsNil", "internal/reflectlite.TypeOf", "(internal/reflectlite.Value).Elem", "(internal/reflectlite.Value).Set"], unfollowed := true, recurses := true, named := ["errors.errorType"], plainKeys := false, apart := false, laid := [("errors.errorType", laid_errors_errorType)], narrowed := true }
def DfaSaysUptoSaid : Prop := dfaSaysUptoRow.holds Tryd.pinned (OpenSpec.upto dfaSaysSpec)

/-- 'stilewardlaw2.DfaPairs', WHERE WHAT IT READS IS OF BULK AT MOST 1048576: true; the input reads as it did. -/
def dfaPairsUptoRow : OpenClaim := { program := "ytinehjfanabegaadoor", sum := "36501304cd7f9920b9ce2f9f46c633756898b1ec9a831a8a2bcf275b5900da9a", func := "stileward/stilewardlaw2.DfaPairs", spec := "dfaPairs", inPlace := ["internal/reflectlite.ValueOf", "(internal/reflectlite.Value).Type", "(internal/reflectlite.Value).IsNil", "internal/reflectlite.TypeOf", "(internal/reflectlite.Value).Elem", "(internal/reflectlite.Value).Set"], unfollowed := true, recurses := true, named := ["errors.errorType"], plainKeys := false, apart := false, laid := [("errors.errorType", laid_errors_errorType)], narrowed := true }
def DfaPairsUptoSaid : Prop := dfaPairsUptoRow.holds Tryd.pinned (OpenSpec.upto dfaPairsSpec)

/-- 'stilewardlaw2.ReachSays', WHERE WHAT IT READS IS OF BULK AT MOST 1048576: true; the input reads as it did. -/
def reachSaysUptoRow : OpenClaim := { program := "ytinehjfanabegaadoor", sum := "36501304cd7f9920b9ce2f9f46c633756898b1ec9a831a8a2bcf275b5900da9a", func := "stileward/stilewardlaw2.ReachSays", spec := "reachSays", inPlace := ["internal/reflectlite.ValueOf", "(internal/reflectlite.Value).Type", "(internal/reflectlite.Value).IsNil", "internal/reflectlite.TypeOf", "(internal/reflectlite.Value).Elem", "(internal/reflectlite.Value).Set"], unfollowed := true, recurses := true, named := ["errors.errorType"], plainKeys := false, apart := false, laid := [("errors.errorType", laid_errors_errorType)], narrowed := true }
def ReachSaysUptoSaid : Prop := reachSaysUptoRow.holds Tryd.pinned (OpenSpec.upto reachSaysSpec)

/-- 'stilewardlaw2.ReachFirst', WHERE WHAT IT READS IS OF BULK AT MOST 1048576: true; the input reads as it did. -/
def reachFirstUptoRow : OpenClaim := { program := "ytinehjfanabegaadoor", sum := "36501304cd7f9920b9ce2f9f46c633756898b1ec9a831a8a2bcf275b5900da9a", func := "stileward/stilewardlaw2.ReachFirst", spec := "reachFirst", inPlace := ["internal/reflectlite.ValueOf", "(internal/reflectlite.Value).Type", "(internal/reflectlite.Value).IsNil", "internal/reflectlite.TypeOf", "(internal/reflectlite.Value).Elem", "(internal/reflectlite.Value).Set"], unfollowed := true, recurses := true, named := ["errors.errorType"], plainKeys := false, apart := false, laid := [("errors.errorType", laid_errors_errorType)], narrowed := true }
def ReachFirstUptoSaid : Prop := reachFirstUptoRow.holds Tryd.pinned (OpenSpec.upto reachFirstSpec)

/-- 'stilewardlaw2.ReachTrims', WHERE WHAT IT READS IS OF BULK AT MOST 1048576: true; the input reads as it did. -/
def reachTrimsUptoRow : OpenClaim := { program := "ytinehjfanabegaadoor", sum := "36501304cd7f9920b9ce2f9f46c633756898b1ec9a831a8a2bcf275b5900da9a", func := "stileward/stilewardlaw2.ReachTrims", spec := "reachTrims", inPlace := ["internal/reflectlite.ValueOf", "(internal/reflectlite.Value).Type", "(internal/reflectlite.Value).IsNil", "internal/reflectlite.TypeOf", "(internal/reflectlite.Value).Elem", "(internal/reflectlite.Value).Set"], unfollowed := true, recurses := true, named := ["errors.errorType"], plainKeys := false, apart := false, laid := [("errors.errorType", laid_errors_errorType)], narrowed := true }
def ReachTrimsUptoSaid : Prop := reachTrimsUptoRow.holds Tryd.pinned (OpenSpec.upto reachTrimsSpec)

/-- 'stilewardlaw2.ReachCounts', WHERE WHAT IT READS IS OF BULK AT MOST 1048576: true; the input reads as it did. -/
def reachCountsUptoRow : OpenClaim := { program := "ytinehjfanabegaadoor", sum := "36501304cd7f9920b9ce2f9f46c633756898b1ec9a831a8a2bcf275b5900da9a", func := "stileward/stilewardlaw2.ReachCounts", spec := "reachCounts", inPlace := ["internal/reflectlite.ValueOf", "(internal/reflectlite.Value).Type", "(internal/reflectlite.Value).IsNil", "internal/reflectlite.TypeOf", "(internal/reflectlite.Value).Elem", "(internal/reflectlite.Value).Set"], unfollowed := true, recurses := true, named := ["errors.errorType"], plainKeys := false, apart := false, laid := [("errors.errorType", laid_errors_errorType)], narrowed := true }
def ReachCountsUptoSaid : Prop := reachCountsUptoRow.holds Tryd.pinned (OpenSpec.upto reachCountsSpec)

/-- 'stilewardlaw2.ReachLeast', WHERE WHAT IT READS IS OF BULK AT MOST 1048576: true; the input reads as it did. -/
def reachLeastUptoRow : OpenClaim := { program := "ytinehjfanabegaadoor", sum := "36501304cd7f9920b9ce2f9f46c633756898b1ec9a831a8a2bcf275b5900da9a", func := "stileward/stilewardlaw2.ReachLeast", spec := "reachLeast", inPlace := ["internal/reflectlite.ValueOf", "(internal/reflectlite.Value).Type", "(internal/reflectlite.Value).IsNil", "internal/reflectlite.TypeOf", "(internal/reflectlite.Value).Elem", "(internal/reflectlite.Value).Set"], unfollowed := true, recurses := true, named := ["errors.errorType"], plainKeys := false, apart := false, laid := [("errors.errorType", laid_errors_errorType)], narrowed := true }
def ReachLeastUptoSaid : Prop := reachLeastUptoRow.holds Tryd.pinned (OpenSpec.upto reachLeastSpec)

/-- 'stilewardlaw2.SmallMakes', WHERE WHAT IT READS IS OF BULK AT MOST 1048576: true; the input reads as it did. -/
def smallMakesUptoRow : OpenClaim := { program := "ytinehjfanabegaadoor", sum := "36501304cd7f9920b9ce2f9f46c633756898b1ec9a831a8a2bcf275b5900da9a", func := "stileward/stilewardlaw2.SmallMakes", spec := "smallMakes", inPlace := ["internal/reflectlite.ValueOf", "(internal/reflectlite.Value).Type", "(internal/reflectlite.Value).IsNil", "internal/reflectlite.TypeOf", "(internal/reflectlite.Value).Elem", "(internal/reflectlite.Value).Set"], unfollowed := true, recurses := true, named := ["errors.errorType"], plainKeys := false, apart := false, laid := [("errors.errorType", laid_errors_errorType)], narrowed := true }
def SmallMakesUptoSaid : Prop := smallMakesUptoRow.holds Tryd.pinned (OpenSpec.upto smallMakesSpec)

/-- 'stilewardlaw2.SmallTells', WHERE WHAT IT READS IS OF BULK AT MOST 1048576: true; the input reads as it did. -/
def smallTellsUptoRow : OpenClaim := { program := "ytinehjfanabegaadoor", sum := "36501304cd7f9920b9ce2f9f46c633756898b1ec9a831a8a2bcf275b5900da9a", func := "stileward/stilewardlaw2.SmallTells", spec := "smallTells", inPlace := ["internal/reflectlite.ValueOf", "(internal/reflectlite.Value).Type", "(internal/reflectlite.Value).IsNil", "internal/reflectlite.TypeOf", "(internal/reflectlite.Value).Elem", "(internal/reflectlite.Value).Set"], unfollowed := true, recurses := true, named := ["errors.errorType"], plainKeys := false, apart := false, laid := [("errors.errorType", laid_errors_errorType)], narrowed := true }
def SmallTellsUptoSaid : Prop := smallTellsUptoRow.holds Tryd.pinned (OpenSpec.upto smallTellsSpec)

/-- 'stilewardlaw2.SmallOne', WHERE WHAT IT READS IS OF BULK AT MOST 1048576: true; the input reads as it did. -/
def smallOneUptoRow : OpenClaim := { program := "ytinehjfanabegaadoor", sum := "36501304cd7f9920b9ce2f9f46c633756898b1ec9a831a8a2bcf275b5900da9a", func := "stileward/stilewardlaw2.SmallOne", spec := "smallOne", inPlace := ["internal/reflectlite.ValueOf", "(internal/reflectlite.Value).Type", "(internal/reflectlite.Value).IsNil", "internal/reflectlite.TypeOf", "(internal/reflectlite.Value).Elem", "(internal/reflectlite.Value).Set"], unfollowed := true, recurses := true, named := ["errors.errorType"], plainKeys := false, apart := false, laid := [("errors.errorType", laid_errors_errorType)], narrowed := true }
def SmallOneUptoSaid : Prop := smallOneUptoRow.holds Tryd.pinned (OpenSpec.upto smallOneSpec)

/-- 'stilewardlaw2.NfaSays', WHERE WHAT IT READS IS OF BULK AT MOST 1048576: true; the input reads as it did. -/
def nfaSaysUptoRow : OpenClaim := { program := "ytinehjfanabegaadoor", sum := "36501304cd7f9920b9ce2f9f46c633756898b1ec9a831a8a2bcf275b5900da9a", func := "stileward/stilewardlaw2.NfaSays", spec := "nfaSays", inPlace := ["internal/reflectlite.ValueOf", "(internal/reflectlite.Value).Type", "(internal/reflectlite.Value).IsNil", "internal/reflectlite.TypeOf", "(internal/reflectlite.Value).Elem", "(internal/reflectlite.Value).Set"], unfollowed := true, recurses := true, named := ["errors.errorType"], plainKeys := false, apart := false, laid := [("errors.errorType", laid_errors_errorType)], narrowed := true }
def NfaSaysUptoSaid : Prop := nfaSaysUptoRow.holds Tryd.pinned (OpenSpec.upto nfaSaysSpec)

/-- 'stilewardlaw2.NfaMakes', WHERE WHAT IT READS IS OF BULK AT MOST 1048576: true; the input reads as it did. -/
def nfaMakesUptoRow : OpenClaim := { program := "ytinehjfanabegaadoor", sum := "36501304cd7f9920b9ce2f9f46c633756898b1ec9a831a8a2bcf275b5900da9a", func := "stileward/stilewardlaw2.NfaMakes", spec := "nfaMakes", inPlace := ["internal/reflectlite.ValueOf", "(internal/reflectlite.Value).Type", "(internal/reflectlite.Value).IsNil", "internal/reflectlite.TypeOf", "(internal/reflectlite.Value).Elem", "(internal/reflectlite.Value).Set"], unfollowed := true, recurses := true, named := ["errors.errorType"], plainKeys := false, apart := false, laid := [("errors.errorType", laid_errors_errorType)], narrowed := true }
def NfaMakesUptoSaid : Prop := nfaMakesUptoRow.holds Tryd.pinned (OpenSpec.upto nfaMakesSpec)

/-- 'stilewardlaw2.NfaMeans', WHERE WHAT IT READS IS OF BULK AT MOST 1048576: true; the input reads as it did. -/
def nfaMeansUptoRow : OpenClaim := { program := "ytinehjfanabegaadoor", sum := "36501304cd7f9920b9ce2f9f46c633756898b1ec9a831a8a2bcf275b5900da9a", func := "stileward/stilewardlaw2.NfaMeans", spec := "nfaMeans", inPlace := ["internal/reflectlite.ValueOf", "(internal/reflectlite.Value).Type", "(internal/reflectlite.Value).IsNil", "internal/reflectlite.TypeOf", "(internal/reflectlite.Value).Elem", "(internal/reflectlite.Value).Set"], unfollowed := true, recurses := true, named := ["errors.errorType"], plainKeys := false, apart := false, laid := [("errors.errorType", laid_errors_errorType)], narrowed := true }
def NfaMeansUptoSaid : Prop := nfaMeansUptoRow.holds Tryd.pinned (OpenSpec.upto nfaMeansSpec)

end Rows
end Go.Proofs.YtinehjfanabegaaDoor
