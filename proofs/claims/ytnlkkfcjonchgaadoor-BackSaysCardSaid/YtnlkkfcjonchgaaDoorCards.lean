/-
  DERIVED. GIVEN WITH THE SEED: THE CARDS: each row of YtnlkkfcjonchgaaDoorRows.lean that lists a variable, with what it lists TIED to the program's text (the seventh form; the later family's looks); each row that meets fmt, with fmt's text TOLD by the authors' own Lean function (tested against real Go, not proved from fmt's source: count such statements apart). THE CARD IS WHAT COUNTS. Prove the row's statement (the work); the ties are given (YtnlkkfcjonchgaaDoorTie.lean); close each card by the builder's one call (the guide's Derived/Test/ToyasCard.lean, 'card_holds'). Laid BY PROGRAM, IN A SANDBOX (cutbox-door.mjs). By AI agents, Wed Nov 11 2026. No macro, syntax, notation, axiom, sorry.
-/
import Derived.Test.YtnlkkfcjonchgaaDoorRows
import GoSem.ClaimSeven
namespace Go.Proofs.YtnlkkfcjonchgaaDoor
namespace Rows

/-- THE TIED CARD OF 'stilewardlaw3.BackSays'. -/
def backSaysCard : Claim7 := { stood := { row := backSaysRow, standIns := [], harness := (true, "6e8fcf5b8174749e77071be18cc16dd035add814f9efaa52dd7c4b621ac71f9d"), looks := true }, kinds := [], alts := [], laidByText := true, laidKinds := [.handle], laidTests := true, laidLooks := .later }
def BackSaysCardSaid : Prop := Claim7.holds Tryd.pinned (.plain (OpenSpec.ofChange backSaysSpec)) backSaysCard

/-- THE TIED CARD OF 'stilewardlaw3.BackMeans'. -/
def backMeansCard : Claim7 := { stood := { row := backMeansRow, standIns := [], harness := (true, "6e8fcf5b8174749e77071be18cc16dd035add814f9efaa52dd7c4b621ac71f9d"), looks := true }, kinds := [], alts := [], laidByText := true, laidKinds := [.handle], laidTests := true, laidLooks := .later }
def BackMeansCardSaid : Prop := Claim7.holds Tryd.pinned (.plain (OpenSpec.ofChange backMeansSpec)) backMeansCard

/-- THE TIED CARD OF 'stilewardlaw3.BackMakes'. -/
def backMakesCard : Claim7 := { stood := { row := backMakesRow, standIns := [], harness := (true, "6e8fcf5b8174749e77071be18cc16dd035add814f9efaa52dd7c4b621ac71f9d"), looks := true }, kinds := [], alts := [], laidByText := true, laidKinds := [.handle], laidTests := true, laidLooks := .later }
def BackMakesCardSaid : Prop := Claim7.holds Tryd.pinned (.plain (OpenSpec.ofChange backMakesSpec)) backMakesCard

/-- THE SECOND FORM's CARD OF 'stilewardlaw3.BackSays'. -/
def backSaysUptoCard : Claim7 := { stood := { row := backSaysUptoRow, standIns := [], harness := (true, "6e8fcf5b8174749e77071be18cc16dd035add814f9efaa52dd7c4b621ac71f9d"), looks := true }, kinds := [], alts := [], laidByText := true, laidKinds := [.handle], laidTests := true, laidLooks := .later }
def BackSaysUptoCardSaid : Prop := Claim7.holds Tryd.pinned (.plain (OpenSpec.upto backSaysSpec)) backSaysUptoCard

/-- THE SECOND FORM's CARD OF 'stilewardlaw3.BackMeans'. -/
def backMeansUptoCard : Claim7 := { stood := { row := backMeansUptoRow, standIns := [], harness := (true, "6e8fcf5b8174749e77071be18cc16dd035add814f9efaa52dd7c4b621ac71f9d"), looks := true }, kinds := [], alts := [], laidByText := true, laidKinds := [.handle], laidTests := true, laidLooks := .later }
def BackMeansUptoCardSaid : Prop := Claim7.holds Tryd.pinned (.plain (OpenSpec.upto backMeansSpec)) backMeansUptoCard

/-- THE SECOND FORM's CARD OF 'stilewardlaw3.BackMakes'. -/
def backMakesUptoCard : Claim7 := { stood := { row := backMakesUptoRow, standIns := [], harness := (true, "6e8fcf5b8174749e77071be18cc16dd035add814f9efaa52dd7c4b621ac71f9d"), looks := true }, kinds := [], alts := [], laidByText := true, laidKinds := [.handle], laidTests := true, laidLooks := .later }
def BackMakesUptoCardSaid : Prop := Claim7.holds Tryd.pinned (.plain (OpenSpec.upto backMakesSpec)) backMakesUptoCard
end Rows
end Go.Proofs.YtnlkkfcjonchgaaDoor
