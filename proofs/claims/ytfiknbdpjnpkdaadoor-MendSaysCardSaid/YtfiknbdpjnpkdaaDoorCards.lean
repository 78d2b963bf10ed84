/-
  DERIVED. GIVEN WITH THE SEED: THE CARDS: each row of YtfiknbdpjnpkdaaDoorRows.lean that lists a variable, with what it lists TIED to the program's text (the seventh form; the later family's looks); each row that meets fmt, with fmt's text TOLD by the authors' own Lean function (tested against real Go, not proved from fmt's source: count such statements apart). THE CARD IS WHAT COUNTS. Prove the row's statement (the work); the ties are given (YtfiknbdpjnpkdaaDoorTie.lean); close each card by the builder's one call (the guide's Derived/Test/ToyasCard.lean, 'card_holds'). Laid BY PROGRAM, IN A SANDBOX (cutbox-door.mjs). By AI agents, Wed Nov 11 2026. No macro, syntax, notation, axiom, sorry.
-/
import Derived.Test.YtfiknbdpjnpkdaaDoorRows
import GoSem.ClaimSeven
namespace Go.Proofs.YtfiknbdpjnpkdaaDoor
namespace Rows

/-- THE TIED CARD OF 'stilewardlaw4.MendSays'. -/
def mendSaysCard : Claim7 := { stood := { row := mendSaysRow, standIns := [], harness := (true, "40a282adc493d4c8acbf3f0bcad454e62a5c808698ec6aa269d6144ae7a916ac"), looks := true }, kinds := [], alts := [], laidByText := true, laidKinds := [.handle], laidTests := true, laidLooks := .later }
def MendSaysCardSaid : Prop := Claim7.holds Tryd.pinned (.plain (OpenSpec.ofChange mendSaysSpec)) mendSaysCard

/-- THE TIED CARD OF 'stilewardlaw4.MendLeast'. -/
def mendLeastCard : Claim7 := { stood := { row := mendLeastRow, standIns := [], harness := (true, "40a282adc493d4c8acbf3f0bcad454e62a5c808698ec6aa269d6144ae7a916ac"), looks := true }, kinds := [], alts := [], laidByText := true, laidKinds := [.handle], laidTests := true, laidLooks := .later }
def MendLeastCardSaid : Prop := Claim7.holds Tryd.pinned (.plain (OpenSpec.ofChange mendLeastSpec)) mendLeastCard

/-- THE TIED CARD OF 'stilewardlaw4.MendNone'. -/
def mendNoneCard : Claim7 := { stood := { row := mendNoneRow, standIns := [], harness := (true, "40a282adc493d4c8acbf3f0bcad454e62a5c808698ec6aa269d6144ae7a916ac"), looks := true }, kinds := [], alts := [], laidByText := true, laidKinds := [.handle], laidTests := true, laidLooks := .later }
def MendNoneCardSaid : Prop := Claim7.holds Tryd.pinned (.plain (OpenSpec.ofChange mendNoneSpec)) mendNoneCard

/-- THE TIED CARD OF 'stilewardlaw4.MendMore'. -/
def mendMoreCard : Claim7 := { stood := { row := mendMoreRow, standIns := [], harness := (true, "40a282adc493d4c8acbf3f0bcad454e62a5c808698ec6aa269d6144ae7a916ac"), looks := true }, kinds := [], alts := [], laidByText := true, laidKinds := [.handle], laidTests := true, laidLooks := .later }
def MendMoreCardSaid : Prop := Claim7.holds Tryd.pinned (.plain (OpenSpec.ofChange mendMoreSpec)) mendMoreCard

/-- THE SECOND FORM's CARD OF 'stilewardlaw4.MendSays'. -/
def mendSaysUptoCard : Claim7 := { stood := { row := mendSaysUptoRow, standIns := [], harness := (true, "40a282adc493d4c8acbf3f0bcad454e62a5c808698ec6aa269d6144ae7a916ac"), looks := true }, kinds := [], alts := [], laidByText := true, laidKinds := [.handle], laidTests := true, laidLooks := .later }
def MendSaysUptoCardSaid : Prop := Claim7.holds Tryd.pinned (.plain (OpenSpec.upto mendSaysSpec)) mendSaysUptoCard

/-- THE SECOND FORM's CARD OF 'stilewardlaw4.MendLeast'. -/
def mendLeastUptoCard : Claim7 := { stood := { row := mendLeastUptoRow, standIns := [], harness := (true, "40a282adc493d4c8acbf3f0bcad454e62a5c808698ec6aa269d6144ae7a916ac"), looks := true }, kinds := [], alts := [], laidByText := true, laidKinds := [.handle], laidTests := true, laidLooks := .later }
def MendLeastUptoCardSaid : Prop := Claim7.holds Tryd.pinned (.plain (OpenSpec.upto mendLeastSpec)) mendLeastUptoCard

/-- THE SECOND FORM's CARD OF 'stilewardlaw4.MendNone'. -/
def mendNoneUptoCard : Claim7 := { stood := { row := mendNoneUptoRow, standIns := [], harness := (true, "40a282adc493d4c8acbf3f0bcad454e62a5c808698ec6aa269d6144ae7a916ac"), looks := true }, kinds := [], alts := [], laidByText := true, laidKinds := [.handle], laidTests := true, laidLooks := .later }
def MendNoneUptoCardSaid : Prop := Claim7.holds Tryd.pinned (.plain (OpenSpec.upto mendNoneSpec)) mendNoneUptoCard

/-- THE SECOND FORM's CARD OF 'stilewardlaw4.MendMore'. -/
def mendMoreUptoCard : Claim7 := { stood := { row := mendMoreUptoRow, standIns := [], harness := (true, "40a282adc493d4c8acbf3f0bcad454e62a5c808698ec6aa269d6144ae7a916ac"), looks := true }, kinds := [], alts := [], laidByText := true, laidKinds := [.handle], laidTests := true, laidLooks := .later }
def MendMoreUptoCardSaid : Prop := Claim7.holds Tryd.pinned (.plain (OpenSpec.upto mendMoreSpec)) mendMoreUptoCard
end Rows
end Go.Proofs.YtfiknbdpjnpkdaaDoor
