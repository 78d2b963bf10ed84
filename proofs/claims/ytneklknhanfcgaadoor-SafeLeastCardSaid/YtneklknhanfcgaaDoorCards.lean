/-
  DERIVED. GIVEN WITH THE SEED: THE CARDS: each row of YtneklknhanfcgaaDoorRows.lean that lists a variable, with what it lists TIED to the program's text (the seventh form; the later family's looks); each row that meets fmt, with fmt's text TOLD by the authors' own Lean function (tested against real Go, not proved from fmt's source: count such statements apart). THE CARD IS WHAT COUNTS. Prove the row's statement (the work); the ties are given (YtneklknhanfcgaaDoorTie.lean); close each card by the builder's one call (the guide's Derived/Test/ToyasCard.lean, 'card_holds'). Laid BY PROGRAM, IN A SANDBOX (cutbox-door.mjs). By AI agents, Wed Nov 11 2026. No macro, syntax, notation, axiom, sorry.
-/
import Derived.Test.YtneklknhanfcgaaDoorRows
import GoSem.ClaimSeven
namespace Go.Proofs.YtneklknhanfcgaaDoor
namespace Rows

/-- THE TIED CARD OF 'stilewardlaw4.SafeLeast'. -/
def safeLeastCard : Claim7 := { stood := { row := safeLeastRow, standIns := [], harness := (true, "f32b710fc94d1131a59bd63ecfa1217a82345e7aab2ae14fa3982127797a03f9"), looks := true }, kinds := [], alts := [], laidByText := true, laidKinds := [.handle], laidTests := true, laidLooks := .later }
def SafeLeastCardSaid : Prop := Claim7.holds Tryd.pinned (.plain (OpenSpec.ofChange safeLeastSpec)) safeLeastCard

/-- THE SECOND FORM's CARD OF 'stilewardlaw4.SafeLeast'. -/
def safeLeastUptoCard : Claim7 := { stood := { row := safeLeastUptoRow, standIns := [], harness := (true, "f32b710fc94d1131a59bd63ecfa1217a82345e7aab2ae14fa3982127797a03f9"), looks := true }, kinds := [], alts := [], laidByText := true, laidKinds := [.handle], laidTests := true, laidLooks := .later }
def SafeLeastUptoCardSaid : Prop := Claim7.holds Tryd.pinned (.plain (OpenSpec.upto safeLeastSpec)) safeLeastUptoCard
end Rows
end Go.Proofs.YtneklknhanfcgaaDoor
