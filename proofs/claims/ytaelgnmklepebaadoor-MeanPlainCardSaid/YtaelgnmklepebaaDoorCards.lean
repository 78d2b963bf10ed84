/-
  DERIVED. GIVEN WITH THE SEED: THE CARDS: each row of YtaelgnmklepebaaDoorRows.lean that lists a variable, with what it lists TIED to the program's text (the seventh form; the later family's looks); each row that meets fmt, with fmt's text TOLD by the authors' own Lean function (tested against real Go, not proved from fmt's source: count such statements apart). THE CARD IS WHAT COUNTS. Prove the row's statement (the work); the ties are given (YtaelgnmklepebaaDoorTie.lean); close each card by the builder's one call (the guide's Derived/Test/ToyasCard.lean, 'card_holds'). Laid BY PROGRAM, IN A SANDBOX (cutbox-door.mjs). By AI agents, Wed Nov 11 2026. No macro, syntax, notation, axiom, sorry.
-/
import Derived.Test.YtaelgnmklepebaaDoorRows
import GoSem.ClaimSeven
namespace Go.Proofs.YtaelgnmklepebaaDoor
namespace Rows

/-- THE TIED CARD OF 'stilewardlaw3.FormBack'. -/
def formBackCard : Claim7 := { stood := { row := formBackRow, standIns := [], harness := (true, "9e209e03e2101e425315f778f1ed901e182aeb03f23aa0e81980e2b727e93541"), looks := true }, kinds := [], alts := [], laidByText := true, laidKinds := [.data, .handle, .pinned], laidTests := true, laidLooks := .later }
def FormBackCardSaid : Prop := Claim7.holds Tryd.pinned (.plain (OpenSpec.ofChange formBackSpec)) formBackCard

/-- THE TIED CARD OF 'stilewardlaw3.MeanSays'. -/
def meanSaysCard : Claim7 := { stood := { row := meanSaysRow, standIns := [], harness := (true, "9e209e03e2101e425315f778f1ed901e182aeb03f23aa0e81980e2b727e93541"), looks := true }, kinds := [], alts := [], laidByText := true, laidKinds := [.handle], laidTests := true, laidLooks := .later }
def MeanSaysCardSaid : Prop := Claim7.holds Tryd.pinned (.plain (OpenSpec.ofChange meanSaysSpec)) meanSaysCard

/-- THE TIED CARD OF 'stilewardlaw3.MeanPlain'. -/
def meanPlainCard : Claim7 := { stood := { row := meanPlainRow, standIns := [], harness := (true, "9e209e03e2101e425315f778f1ed901e182aeb03f23aa0e81980e2b727e93541"), looks := true }, kinds := [], alts := [], laidByText := true, laidKinds := [.handle, .data], laidTests := true, laidLooks := .later }
def MeanPlainCardSaid : Prop := Claim7.holds Tryd.pinned (.plain (OpenSpec.ofChange meanPlainSpec)) meanPlainCard

/-- THE TIED CARD OF 'stilewardlaw3.MeanTurned'. -/
def meanTurnedCard : Claim7 := { stood := { row := meanTurnedRow, standIns := [], harness := (true, "9e209e03e2101e425315f778f1ed901e182aeb03f23aa0e81980e2b727e93541"), looks := true }, kinds := [], alts := [], laidByText := true, laidKinds := [.handle, .data], laidTests := true, laidLooks := .later }
def MeanTurnedCardSaid : Prop := Claim7.holds Tryd.pinned (.plain (OpenSpec.ofChange meanTurnedSpec)) meanTurnedCard

/-- THE SECOND FORM's CARD OF 'stilewardlaw3.FormBack'. -/
def formBackUptoCard : Claim7 := { stood := { row := formBackUptoRow, standIns := [], harness := (true, "9e209e03e2101e425315f778f1ed901e182aeb03f23aa0e81980e2b727e93541"), looks := true }, kinds := [], alts := [], laidByText := true, laidKinds := [.data, .handle, .pinned], laidTests := true, laidLooks := .later }
def FormBackUptoCardSaid : Prop := Claim7.holds Tryd.pinned (.plain (OpenSpec.upto formBackSpec)) formBackUptoCard

/-- THE SECOND FORM's CARD OF 'stilewardlaw3.MeanSays'. -/
def meanSaysUptoCard : Claim7 := { stood := { row := meanSaysUptoRow, standIns := [], harness := (true, "9e209e03e2101e425315f778f1ed901e182aeb03f23aa0e81980e2b727e93541"), looks := true }, kinds := [], alts := [], laidByText := true, laidKinds := [.handle], laidTests := true, laidLooks := .later }
def MeanSaysUptoCardSaid : Prop := Claim7.holds Tryd.pinned (.plain (OpenSpec.upto meanSaysSpec)) meanSaysUptoCard

/-- THE SECOND FORM's CARD OF 'stilewardlaw3.MeanPlain'. -/
def meanPlainUptoCard : Claim7 := { stood := { row := meanPlainUptoRow, standIns := [], harness := (true, "9e209e03e2101e425315f778f1ed901e182aeb03f23aa0e81980e2b727e93541"), looks := true }, kinds := [], alts := [], laidByText := true, laidKinds := [.handle, .data], laidTests := true, laidLooks := .later }
def MeanPlainUptoCardSaid : Prop := Claim7.holds Tryd.pinned (.plain (OpenSpec.upto meanPlainSpec)) meanPlainUptoCard

/-- THE SECOND FORM's CARD OF 'stilewardlaw3.MeanTurned'. -/
def meanTurnedUptoCard : Claim7 := { stood := { row := meanTurnedUptoRow, standIns := [], harness := (true, "9e209e03e2101e425315f778f1ed901e182aeb03f23aa0e81980e2b727e93541"), looks := true }, kinds := [], alts := [], laidByText := true, laidKinds := [.handle, .data], laidTests := true, laidLooks := .later }
def MeanTurnedUptoCardSaid : Prop := Claim7.holds Tryd.pinned (.plain (OpenSpec.upto meanTurnedSpec)) meanTurnedUptoCard
end Rows
end Go.Proofs.YtaelgnmklepebaaDoor
