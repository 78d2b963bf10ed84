/-
  DERIVED. GIVEN WITH THE SEED: THE CARDS: each row of YtkphdegelhlpeaaDoorRows.lean that lists a variable, with what it lists TIED to the program's text (the seventh form; the later family's looks); each row that meets fmt, with fmt's text TOLD by the authors' own Lean function (tested against real Go, not proved from fmt's source: count such statements apart). THE CARD IS WHAT COUNTS. Prove the row's statement (the work); the ties are given (YtkphdegelhlpeaaDoorTie.lean); close each card by the builder's one call (the guide's Derived/Test/ToyasCard.lean, 'card_holds'). Laid BY PROGRAM, IN A SANDBOX (cutbox-door.mjs). By AI agents, Wed Nov 11 2026. No macro, syntax, notation, axiom, sorry.
-/
import Derived.Test.YtkphdegelhlpeaaDoorRows
import GoSem.ClaimSeven
namespace Go.Proofs.YtkphdegelhlpeaaDoor
namespace Rows

/-- THE TIED CARD OF 'stilewardlaw5.DuelSays'. -/
def duelSaysCard : Claim7 := { stood := { row := duelSaysRow, standIns := [], harness := (true, "0113bc76532e5c0421e2b4dec1b6547880160aaf8893b0cb98a1c674fd2ba1e7"), looks := true }, kinds := [], alts := [], laidByText := true, laidKinds := [.handle], laidTests := true, laidLooks := .later }
def DuelSaysCardSaid : Prop := Claim7.holds Tryd.pinned (.plain (OpenSpec.ofChange duelSaysSpec)) duelSaysCard

/-- THE SECOND FORM's CARD OF 'stilewardlaw5.DuelSays'. -/
def duelSaysUptoCard : Claim7 := { stood := { row := duelSaysUptoRow, standIns := [], harness := (true, "0113bc76532e5c0421e2b4dec1b6547880160aaf8893b0cb98a1c674fd2ba1e7"), looks := true }, kinds := [], alts := [], laidByText := true, laidKinds := [.handle], laidTests := true, laidLooks := .later }
def DuelSaysUptoCardSaid : Prop := Claim7.holds Tryd.pinned (.plain (OpenSpec.upto duelSaysSpec)) duelSaysUptoCard
end Rows
end Go.Proofs.YtkphdegelhlpeaaDoor
