/-
  DERIVED. GIVEN WITH THE SEED: THE CARDS: each row of YtpjcpdpekmmjdaaDoorRows.lean that lists a variable, with what it lists TIED to the program's text (the seventh form; the later family's looks); each row that meets fmt, with fmt's text TOLD by the authors' own Lean function (tested against real Go, not proved from fmt's source: count such statements apart). THE CARD IS WHAT COUNTS. Prove the row's statement (the work); the ties are given (YtpjcpdpekmmjdaaDoorTie.lean); close each card by the builder's one call (the guide's Derived/Test/ToyasCard.lean, 'card_holds'). Laid BY PROGRAM, IN A SANDBOX (cutbox-door.mjs). By AI agents, Wed Nov 11 2026. No macro, syntax, notation, axiom, sorry.
-/
import Derived.Test.YtpjcpdpekmmjdaaDoorRows
import GoSem.ClaimSeven
namespace Go.Proofs.YtpjcpdpekmmjdaaDoor
namespace Rows

/-- THE TIED CARD OF 'stilewardlaw2.DfaSays'. -/
def dfaSaysCard : Claim7 := { stood := { row := dfaSaysRow, standIns := [], harness := (true, "118db1fb9c7415e0005e6e36e0b676462f7532b34255fbfcd58fce61cb60924c"), looks := true }, kinds := [], alts := [], laidByText := true, laidKinds := [.handle], laidTests := true, laidLooks := .later }
def DfaSaysCardSaid : Prop := Claim7.holds Tryd.pinned (.plain (OpenSpec.ofChange dfaSaysSpec)) dfaSaysCard

/-- THE TIED CARD OF 'stilewardlaw2.DfaPairs'. -/
def dfaPairsCard : Claim7 := { stood := { row := dfaPairsRow, standIns := [], harness := (true, "118db1fb9c7415e0005e6e36e0b676462f7532b34255fbfcd58fce61cb60924c"), looks := true }, kinds := [], alts := [], laidByText := true, laidKinds := [.handle], laidTests := true, laidLooks := .later }
def DfaPairsCardSaid : Prop := Claim7.holds Tryd.pinned (.plain (OpenSpec.ofChange dfaPairsSpec)) dfaPairsCard

/-- THE SECOND FORM's CARD OF 'stilewardlaw2.DfaSays'. -/
def dfaSaysUptoCard : Claim7 := { stood := { row := dfaSaysUptoRow, standIns := [], harness := (true, "118db1fb9c7415e0005e6e36e0b676462f7532b34255fbfcd58fce61cb60924c"), looks := true }, kinds := [], alts := [], laidByText := true, laidKinds := [.handle], laidTests := true, laidLooks := .later }
def DfaSaysUptoCardSaid : Prop := Claim7.holds Tryd.pinned (.plain (OpenSpec.upto dfaSaysSpec)) dfaSaysUptoCard

/-- THE SECOND FORM's CARD OF 'stilewardlaw2.DfaPairs'. -/
def dfaPairsUptoCard : Claim7 := { stood := { row := dfaPairsUptoRow, standIns := [], harness := (true, "118db1fb9c7415e0005e6e36e0b676462f7532b34255fbfcd58fce61cb60924c"), looks := true }, kinds := [], alts := [], laidByText := true, laidKinds := [.handle], laidTests := true, laidLooks := .later }
def DfaPairsUptoCardSaid : Prop := Claim7.holds Tryd.pinned (.plain (OpenSpec.upto dfaPairsSpec)) dfaPairsUptoCard
end Rows
end Go.Proofs.YtpjcpdpekmmjdaaDoor
