/-
  DERIVED. GIVEN WITH THE SEED: THE CARDS: each row of YtlhhhdgkdbplmaaDoorRows.lean that lists a variable, with what it lists TIED to the program's text (the seventh form; the later family's looks); each row that meets fmt, with fmt's text TOLD by the authors' own Lean function (tested against real Go, not proved from fmt's source: count such statements apart). THE CARD IS WHAT COUNTS. Prove the row's statement (the work); the ties are given (YtlhhhdgkdbplmaaDoorTie.lean); close each card by the builder's one call (the guide's Derived/Test/ToyasCard.lean, 'card_holds'). Laid BY PROGRAM, IN A SANDBOX (cutbox-door.mjs). By AI agents, Wed Nov 11 2026. No macro, syntax, notation, axiom, sorry.
-/
import Derived.Test.YtlhhhdgkdbplmaaDoorRows
import GoSem.ClaimSeven
namespace Go.Proofs.YtlhhhdgkdbplmaaDoor
namespace Rows

/-- THE TIED CARD OF 'stilewardlaw2.NfaMakes'. -/
def nfaMakesCard : Claim7 := { stood := { row := nfaMakesRow, standIns := [], harness := (true, "e4d600c29fbf4c5fac612e47c5a6a81574e1e854991dc9fc02f52c8b403bfaa7"), looks := true }, kinds := [], alts := [], laidByText := true, laidKinds := [.handle], laidTests := true, laidLooks := .later }
def NfaMakesCardSaid : Prop := Claim7.holds Tryd.pinned (.plain (OpenSpec.ofChange nfaMakesSpec)) nfaMakesCard

/-- THE TIED CARD OF 'stilewardlaw3.FormSays'. -/
def formSaysCard : Claim7 := { stood := { row := formSaysRow, standIns := [], harness := (true, "e4d600c29fbf4c5fac612e47c5a6a81574e1e854991dc9fc02f52c8b403bfaa7"), looks := true }, kinds := [], alts := [], laidByText := true, laidKinds := [.handle], laidTests := true, laidLooks := .later }
def FormSaysCardSaid : Prop := Claim7.holds Tryd.pinned (.plain (OpenSpec.ofChange formSaysSpec)) formSaysCard

/-- THE TIED CARD OF 'stilewardlaw3.FormReads'. -/
def formReadsCard : Claim7 := { stood := { row := formReadsRow, standIns := [], harness := (true, "e4d600c29fbf4c5fac612e47c5a6a81574e1e854991dc9fc02f52c8b403bfaa7"), looks := true }, kinds := [], alts := [], laidByText := true, laidKinds := [.data, .handle, .pinned], laidTests := true, laidLooks := .later }
def FormReadsCardSaid : Prop := Claim7.holds Tryd.pinned (.plain (OpenSpec.ofChange formReadsSpec)) formReadsCard

/-- THE TIED CARD OF 'stilewardlaw3.FormAgain'. -/
def formAgainCard : Claim7 := { stood := { row := formAgainRow, standIns := [], harness := (true, "e4d600c29fbf4c5fac612e47c5a6a81574e1e854991dc9fc02f52c8b403bfaa7"), looks := true }, kinds := [], alts := [], laidByText := true, laidKinds := [.data, .handle, .pinned], laidTests := true, laidLooks := .later }
def FormAgainCardSaid : Prop := Claim7.holds Tryd.pinned (.plain (OpenSpec.ofChange formAgainSpec)) formAgainCard

/-- THE TIED CARD OF 'stilewardlaw3.FormBlank'. -/
def formBlankCard : Claim7 := { stood := { row := formBlankRow, standIns := [], harness := (true, "e4d600c29fbf4c5fac612e47c5a6a81574e1e854991dc9fc02f52c8b403bfaa7"), looks := true }, kinds := [], alts := [], laidByText := true, laidKinds := [.data, .pinned], laidTests := true, laidLooks := .later }
def FormBlankCardSaid : Prop := Claim7.holds Tryd.pinned (.plain (OpenSpec.ofChange formBlankSpec)) formBlankCard

/-- THE SECOND FORM's CARD OF 'stilewardlaw2.NfaMakes'. -/
def nfaMakesUptoCard : Claim7 := { stood := { row := nfaMakesUptoRow, standIns := [], harness := (true, "e4d600c29fbf4c5fac612e47c5a6a81574e1e854991dc9fc02f52c8b403bfaa7"), looks := true }, kinds := [], alts := [], laidByText := true, laidKinds := [.handle], laidTests := true, laidLooks := .later }
def NfaMakesUptoCardSaid : Prop := Claim7.holds Tryd.pinned (.plain (OpenSpec.upto nfaMakesSpec)) nfaMakesUptoCard

/-- THE SECOND FORM's CARD OF 'stilewardlaw3.FormSays'. -/
def formSaysUptoCard : Claim7 := { stood := { row := formSaysUptoRow, standIns := [], harness := (true, "e4d600c29fbf4c5fac612e47c5a6a81574e1e854991dc9fc02f52c8b403bfaa7"), looks := true }, kinds := [], alts := [], laidByText := true, laidKinds := [.handle], laidTests := true, laidLooks := .later }
def FormSaysUptoCardSaid : Prop := Claim7.holds Tryd.pinned (.plain (OpenSpec.upto formSaysSpec)) formSaysUptoCard

/-- THE SECOND FORM's CARD OF 'stilewardlaw3.FormReads'. -/
def formReadsUptoCard : Claim7 := { stood := { row := formReadsUptoRow, standIns := [], harness := (true, "e4d600c29fbf4c5fac612e47c5a6a81574e1e854991dc9fc02f52c8b403bfaa7"), looks := true }, kinds := [], alts := [], laidByText := true, laidKinds := [.data, .handle, .pinned], laidTests := true, laidLooks := .later }
def FormReadsUptoCardSaid : Prop := Claim7.holds Tryd.pinned (.plain (OpenSpec.upto formReadsSpec)) formReadsUptoCard

/-- THE SECOND FORM's CARD OF 'stilewardlaw3.FormAgain'. -/
def formAgainUptoCard : Claim7 := { stood := { row := formAgainUptoRow, standIns := [], harness := (true, "e4d600c29fbf4c5fac612e47c5a6a81574e1e854991dc9fc02f52c8b403bfaa7"), looks := true }, kinds := [], alts := [], laidByText := true, laidKinds := [.data, .handle, .pinned], laidTests := true, laidLooks := .later }
def FormAgainUptoCardSaid : Prop := Claim7.holds Tryd.pinned (.plain (OpenSpec.upto formAgainSpec)) formAgainUptoCard

/-- THE SECOND FORM's CARD OF 'stilewardlaw3.FormBlank'. -/
def formBlankUptoCard : Claim7 := { stood := { row := formBlankUptoRow, standIns := [], harness := (true, "e4d600c29fbf4c5fac612e47c5a6a81574e1e854991dc9fc02f52c8b403bfaa7"), looks := true }, kinds := [], alts := [], laidByText := true, laidKinds := [.data, .pinned], laidTests := true, laidLooks := .later }
def FormBlankUptoCardSaid : Prop := Claim7.holds Tryd.pinned (.plain (OpenSpec.upto formBlankSpec)) formBlankUptoCard
end Rows
end Go.Proofs.YtlhhhdgkdbplmaaDoor
