/-
  DERIVED. GIVEN WITH THE SEED: THE CARDS: each row of YtendgfbnkpbndaaDoorRows.lean that lists a variable, with what it lists TIED to the program's text (the seventh form; the later family's looks); each row that meets fmt, with fmt's text TOLD by the authors' own Lean function (tested against real Go, not proved from fmt's source: count such statements apart). THE CARD IS WHAT COUNTS. Prove the row's statement (the work); the ties are given (YtendgfbnkpbndaaDoorTie.lean); close each card by the builder's one call (the guide's Derived/Test/ToyasCard.lean, 'card_holds'). Laid BY PROGRAM, IN A SANDBOX (cutbox-door.mjs). By AI agents, Wed Nov 11 2026. No macro, syntax, notation, axiom, sorry.
-/
import Derived.Test.YtendgfbnkpbndaaDoorRows
import GoSem.ClaimSeven
namespace Go.Proofs.YtendgfbnkpbndaaDoor
namespace Rows

/-- THE TIED CARD OF 'stilewardlaw4.EditPlays'. -/
def editPlaysCard : Claim7 := { stood := { row := editPlaysRow, standIns := [], harness := (true, "ce25e56a9d4285ac3e51d993087ffcdfeb74063b23f64275919c4eda404e0c75"), looks := true }, kinds := [], alts := [], laidByText := true, laidKinds := [.handle], laidTests := true, laidLooks := .later }
def EditPlaysCardSaid : Prop := Claim7.holds Tryd.pinned (.plain (OpenSpec.ofChange editPlaysSpec)) editPlaysCard

/-- THE SECOND FORM's CARD OF 'stilewardlaw4.EditPlays'. -/
def editPlaysUptoCard : Claim7 := { stood := { row := editPlaysUptoRow, standIns := [], harness := (true, "ce25e56a9d4285ac3e51d993087ffcdfeb74063b23f64275919c4eda404e0c75"), looks := true }, kinds := [], alts := [], laidByText := true, laidKinds := [.handle], laidTests := true, laidLooks := .later }
def EditPlaysUptoCardSaid : Prop := Claim7.holds Tryd.pinned (.plain (OpenSpec.upto editPlaysSpec)) editPlaysUptoCard
end Rows
end Go.Proofs.YtendgfbnkpbndaaDoor
