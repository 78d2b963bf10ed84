/-
  DERIVED. GIVEN WITH THE SEED: THE CARDS: each row of YtblkaegnnokedaaDoorRows.lean that lists a variable, with what it lists TIED to the program's text (the seventh form; the later family's looks); each row that meets fmt, with fmt's text TOLD by the authors' own Lean function (tested against real Go, not proved from fmt's source: count such statements apart). THE CARD IS WHAT COUNTS. Prove the row's statement (the work); the ties are given (YtblkaegnnokedaaDoorTie.lean); close each card by the builder's one call (the guide's Derived/Test/ToyasCard.lean, 'card_holds'). Laid BY PROGRAM, IN A SANDBOX (cutbox-door.mjs). By AI agents, Wed Nov 11 2026. No macro, syntax, notation, axiom, sorry.
-/
import Derived.Test.YtblkaegnnokedaaDoorRows
import GoSem.ClaimSeven
namespace Go.Proofs.YtblkaegnnokedaaDoor
namespace Rows

/-- THE TIED CARD OF 'stilewardlaw4.VerdictSays'. -/
def verdictSaysCard : Claim7 := { stood := { row := verdictSaysRow, standIns := [], harness := (true, "e34c0bb72ea66d068c9c5f9a0bdeb40975989f46962b80c4834b7e61b2ae7e94"), looks := true }, kinds := [], alts := [], laidByText := true, laidKinds := [.handle], laidTests := true, laidLooks := .later }
def VerdictSaysCardSaid : Prop := Claim7.holds Tryd.pinned (.plain (OpenSpec.ofChange verdictSaysSpec)) verdictSaysCard

/-- THE TIED CARD OF 'stilewardlaw4.VerdictEarly'. -/
def verdictEarlyCard : Claim7 := { stood := { row := verdictEarlyRow, standIns := [], harness := (true, "e34c0bb72ea66d068c9c5f9a0bdeb40975989f46962b80c4834b7e61b2ae7e94"), looks := true }, kinds := [], alts := [], laidByText := true, laidKinds := [.handle], laidTests := true, laidLooks := .later }
def VerdictEarlyCardSaid : Prop := Claim7.holds Tryd.pinned (.plain (OpenSpec.ofChange verdictEarlySpec)) verdictEarlyCard

/-- THE TIED CARD OF 'stilewardlaw4.VerdictSoonest'. -/
def verdictSoonestCard : Claim7 := { stood := { row := verdictSoonestRow, standIns := [], harness := (true, "e34c0bb72ea66d068c9c5f9a0bdeb40975989f46962b80c4834b7e61b2ae7e94"), looks := true }, kinds := [], alts := [], laidByText := true, laidKinds := [.handle], laidTests := true, laidLooks := .later }
def VerdictSoonestCardSaid : Prop := Claim7.holds Tryd.pinned (.plain (OpenSpec.ofChange verdictSoonestSpec)) verdictSoonestCard

/-- THE TIED CARD OF 'stilewardlaw4.VerdictWatch'. -/
def verdictWatchCard : Claim7 := { stood := { row := verdictWatchRow, standIns := [], harness := (true, "e34c0bb72ea66d068c9c5f9a0bdeb40975989f46962b80c4834b7e61b2ae7e94"), looks := true }, kinds := [], alts := [], laidByText := true, laidKinds := [.handle], laidTests := true, laidLooks := .later }
def VerdictWatchCardSaid : Prop := Claim7.holds Tryd.pinned (.plain (OpenSpec.ofChange verdictWatchSpec)) verdictWatchCard

/-- THE SECOND FORM's CARD OF 'stilewardlaw4.VerdictSays'. -/
def verdictSaysUptoCard : Claim7 := { stood := { row := verdictSaysUptoRow, standIns := [], harness := (true, "e34c0bb72ea66d068c9c5f9a0bdeb40975989f46962b80c4834b7e61b2ae7e94"), looks := true }, kinds := [], alts := [], laidByText := true, laidKinds := [.handle], laidTests := true, laidLooks := .later }
def VerdictSaysUptoCardSaid : Prop := Claim7.holds Tryd.pinned (.plain (OpenSpec.upto verdictSaysSpec)) verdictSaysUptoCard

/-- THE SECOND FORM's CARD OF 'stilewardlaw4.VerdictEarly'. -/
def verdictEarlyUptoCard : Claim7 := { stood := { row := verdictEarlyUptoRow, standIns := [], harness := (true, "e34c0bb72ea66d068c9c5f9a0bdeb40975989f46962b80c4834b7e61b2ae7e94"), looks := true }, kinds := [], alts := [], laidByText := true, laidKinds := [.handle], laidTests := true, laidLooks := .later }
def VerdictEarlyUptoCardSaid : Prop := Claim7.holds Tryd.pinned (.plain (OpenSpec.upto verdictEarlySpec)) verdictEarlyUptoCard

/-- THE SECOND FORM's CARD OF 'stilewardlaw4.VerdictSoonest'. -/
def verdictSoonestUptoCard : Claim7 := { stood := { row := verdictSoonestUptoRow, standIns := [], harness := (true, "e34c0bb72ea66d068c9c5f9a0bdeb40975989f46962b80c4834b7e61b2ae7e94"), looks := true }, kinds := [], alts := [], laidByText := true, laidKinds := [.handle], laidTests := true, laidLooks := .later }
def VerdictSoonestUptoCardSaid : Prop := Claim7.holds Tryd.pinned (.plain (OpenSpec.upto verdictSoonestSpec)) verdictSoonestUptoCard

/-- THE SECOND FORM's CARD OF 'stilewardlaw4.VerdictWatch'. -/
def verdictWatchUptoCard : Claim7 := { stood := { row := verdictWatchUptoRow, standIns := [], harness := (true, "e34c0bb72ea66d068c9c5f9a0bdeb40975989f46962b80c4834b7e61b2ae7e94"), looks := true }, kinds := [], alts := [], laidByText := true, laidKinds := [.handle], laidTests := true, laidLooks := .later }
def VerdictWatchUptoCardSaid : Prop := Claim7.holds Tryd.pinned (.plain (OpenSpec.upto verdictWatchSpec)) verdictWatchUptoCard
end Rows
end Go.Proofs.YtblkaegnnokedaaDoor
