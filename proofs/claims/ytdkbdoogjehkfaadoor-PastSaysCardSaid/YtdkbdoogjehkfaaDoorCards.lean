/-
  DERIVED. GIVEN WITH THE SEED: THE CARDS: each row of YtdkbdoogjehkfaaDoorRows.lean that lists a variable, with what it lists TIED to the program's text (the seventh form; the later family's looks); each row that meets fmt, with fmt's text TOLD by the authors' own Lean function (tested against real Go, not proved from fmt's source: count such statements apart). THE CARD IS WHAT COUNTS. Prove the row's statement (the work); the ties are given (YtdkbdoogjehkfaaDoorTie.lean); close each card by the builder's one call (the guide's Derived/Test/ToyasCard.lean, 'card_holds'). Laid BY PROGRAM, IN A SANDBOX (cutbox-door.mjs). By AI agents, Wed Nov 11 2026. No macro, syntax, notation, axiom, sorry.
-/
import Derived.Test.YtdkbdoogjehkfaaDoorRows
import GoSem.ClaimSeven
namespace Go.Proofs.YtdkbdoogjehkfaaDoor
namespace Rows

/-- THE TIED CARD OF 'stilewardlaw3.PastSays'. -/
def pastSaysCard : Claim7 := { stood := { row := pastSaysRow, standIns := [], harness := (true, "052976ef47c006fc6db55b391aee047266882a13868b527c28e54604fc64ad30"), looks := true }, kinds := [], alts := [], laidByText := true, laidKinds := [.handle], laidTests := true, laidLooks := .later }
def PastSaysCardSaid : Prop := Claim7.holds Tryd.pinned (.plain (OpenSpec.ofChange pastSaysSpec)) pastSaysCard

/-- THE TIED CARD OF 'stilewardlaw3.PastMirrors'. -/
def pastMirrorsCard : Claim7 := { stood := { row := pastMirrorsRow, standIns := [], harness := (true, "052976ef47c006fc6db55b391aee047266882a13868b527c28e54604fc64ad30"), looks := true }, kinds := [], alts := [], laidByText := true, laidKinds := [.handle], laidTests := true, laidLooks := .later }
def PastMirrorsCardSaid : Prop := Claim7.holds Tryd.pinned (.plain (OpenSpec.ofChange pastMirrorsSpec)) pastMirrorsCard

/-- THE TIED CARD OF 'stilewardlaw3.PastBack'. -/
def pastBackCard : Claim7 := { stood := { row := pastBackRow, standIns := [], harness := (true, "052976ef47c006fc6db55b391aee047266882a13868b527c28e54604fc64ad30"), looks := true }, kinds := [], alts := [], laidByText := true, laidKinds := [.handle], laidTests := true, laidLooks := .later }
def PastBackCardSaid : Prop := Claim7.holds Tryd.pinned (.plain (OpenSpec.ofChange pastBackSpec)) pastBackCard

/-- THE SECOND FORM's CARD OF 'stilewardlaw3.PastSays'. -/
def pastSaysUptoCard : Claim7 := { stood := { row := pastSaysUptoRow, standIns := [], harness := (true, "052976ef47c006fc6db55b391aee047266882a13868b527c28e54604fc64ad30"), looks := true }, kinds := [], alts := [], laidByText := true, laidKinds := [.handle], laidTests := true, laidLooks := .later }
def PastSaysUptoCardSaid : Prop := Claim7.holds Tryd.pinned (.plain (OpenSpec.upto pastSaysSpec)) pastSaysUptoCard

/-- THE SECOND FORM's CARD OF 'stilewardlaw3.PastMirrors'. -/
def pastMirrorsUptoCard : Claim7 := { stood := { row := pastMirrorsUptoRow, standIns := [], harness := (true, "052976ef47c006fc6db55b391aee047266882a13868b527c28e54604fc64ad30"), looks := true }, kinds := [], alts := [], laidByText := true, laidKinds := [.handle], laidTests := true, laidLooks := .later }
def PastMirrorsUptoCardSaid : Prop := Claim7.holds Tryd.pinned (.plain (OpenSpec.upto pastMirrorsSpec)) pastMirrorsUptoCard

/-- THE SECOND FORM's CARD OF 'stilewardlaw3.PastBack'. -/
def pastBackUptoCard : Claim7 := { stood := { row := pastBackUptoRow, standIns := [], harness := (true, "052976ef47c006fc6db55b391aee047266882a13868b527c28e54604fc64ad30"), looks := true }, kinds := [], alts := [], laidByText := true, laidKinds := [.handle], laidTests := true, laidLooks := .later }
def PastBackUptoCardSaid : Prop := Claim7.holds Tryd.pinned (.plain (OpenSpec.upto pastBackSpec)) pastBackUptoCard
end Rows
end Go.Proofs.YtdkbdoogjehkfaaDoor
