/-
  DERIVED. GIVEN WITH THE SEED: THE CARDS: each row of YtfpebmnmiplooaaDoorRows.lean that lists a variable, with what it lists TIED to the program's text (the seventh form; the later family's looks); each row that meets fmt, with fmt's text TOLD by the authors' own Lean function (tested against real Go, not proved from fmt's source: count such statements apart). THE CARD IS WHAT COUNTS. Prove the row's statement (the work); the ties are given (YtfpebmnmiplooaaDoorTie.lean); close each card by the builder's one call (the guide's Derived/Test/ToyasCard.lean, 'card_holds'). Laid BY PROGRAM, IN A SANDBOX (cutbox-door.mjs). By AI agents, Wed Nov 11 2026. No macro, syntax, notation, axiom, sorry.
-/
import Derived.Test.YtfpebmnmiplooaaDoorRows
import GoSem.ClaimSeven
namespace Go.Proofs.YtfpebmnmiplooaaDoor
namespace Rows

/-- THE TIED CARD OF 'stilewardlaw1.PackSays'. -/
def packSaysCard : Claim7 := { stood := { row := packSaysRow, standIns := [], harness := (true, "7de4069c6059feff6597f4bcd9e2b2f1c6a8aae214d5afdd2dc24f047b427873"), looks := true }, kinds := [], alts := [], laidByText := true, laidKinds := [.handle], laidTests := true, laidLooks := .later }
def PackSaysCardSaid : Prop := Claim7.holds Tryd.pinned (.plain (OpenSpec.ofChange packSaysSpec)) packSaysCard

/-- THE TIED CARD OF 'stilewardlaw1.PackLists'. -/
def packListsCard : Claim7 := { stood := { row := packListsRow, standIns := [], harness := (true, "7de4069c6059feff6597f4bcd9e2b2f1c6a8aae214d5afdd2dc24f047b427873"), looks := true }, kinds := [], alts := [], laidByText := true, laidKinds := [.handle], laidTests := true, laidLooks := .later }
def PackListsCardSaid : Prop := Claim7.holds Tryd.pinned (.plain (OpenSpec.ofChange packListsSpec)) packListsCard

/-- THE TIED CARD OF 'stilewardlaw1.PackCut'. -/
def packCutCard : Claim7 := { stood := { row := packCutRow, standIns := [], harness := (true, "7de4069c6059feff6597f4bcd9e2b2f1c6a8aae214d5afdd2dc24f047b427873"), looks := true }, kinds := [], alts := [], laidByText := true, laidKinds := [.handle], laidTests := true, laidLooks := .later }
def PackCutCardSaid : Prop := Claim7.holds Tryd.pinned (.plain (OpenSpec.ofChange packCutSpec)) packCutCard

/-- THE SECOND FORM's CARD OF 'stilewardlaw1.PackSays'. -/
def packSaysUptoCard : Claim7 := { stood := { row := packSaysUptoRow, standIns := [], harness := (true, "7de4069c6059feff6597f4bcd9e2b2f1c6a8aae214d5afdd2dc24f047b427873"), looks := true }, kinds := [], alts := [], laidByText := true, laidKinds := [.handle], laidTests := true, laidLooks := .later }
def PackSaysUptoCardSaid : Prop := Claim7.holds Tryd.pinned (.plain (OpenSpec.upto packSaysSpec)) packSaysUptoCard

/-- THE SECOND FORM's CARD OF 'stilewardlaw1.PackLists'. -/
def packListsUptoCard : Claim7 := { stood := { row := packListsUptoRow, standIns := [], harness := (true, "7de4069c6059feff6597f4bcd9e2b2f1c6a8aae214d5afdd2dc24f047b427873"), looks := true }, kinds := [], alts := [], laidByText := true, laidKinds := [.handle], laidTests := true, laidLooks := .later }
def PackListsUptoCardSaid : Prop := Claim7.holds Tryd.pinned (.plain (OpenSpec.upto packListsSpec)) packListsUptoCard

/-- THE SECOND FORM's CARD OF 'stilewardlaw1.PackCut'. -/
def packCutUptoCard : Claim7 := { stood := { row := packCutUptoRow, standIns := [], harness := (true, "7de4069c6059feff6597f4bcd9e2b2f1c6a8aae214d5afdd2dc24f047b427873"), looks := true }, kinds := [], alts := [], laidByText := true, laidKinds := [.handle], laidTests := true, laidLooks := .later }
def PackCutUptoCardSaid : Prop := Claim7.holds Tryd.pinned (.plain (OpenSpec.upto packCutSpec)) packCutUptoCard
end Rows
end Go.Proofs.YtfpebmnmiplooaaDoor
