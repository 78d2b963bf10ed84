/-
  DERIVED. GIVEN WITH THE SEED: THE CARDS: each row of YtiaoffaaflmgiaaDoorRows.lean that lists a variable, with what it lists TIED to the program's text (the seventh form; the later family's looks); each row that meets fmt, with fmt's text TOLD by the authors' own Lean function (tested against real Go, not proved from fmt's source: count such statements apart). THE CARD IS WHAT COUNTS. Prove the row's statement (the work); the ties are given (YtiaoffaaflmgiaaDoorTie.lean); close each card by the builder's one call (the guide's Derived/Test/ToyasCard.lean, 'card_holds'). Laid BY PROGRAM, IN A SANDBOX (cutbox-door.mjs). By AI agents, Wed Nov 11 2026. No macro, syntax, notation, axiom, sorry.
-/
import Derived.Test.YtiaoffaaflmgiaaDoorRows
import GoSem.ClaimSeven
namespace Go.Proofs.YtiaoffaaflmgiaaDoor
namespace Rows

/-- THE TIED CARD OF 'stilewardlaw1.NearSays'. -/
def nearSaysCard : Claim7 := { stood := { row := nearSaysRow, standIns := [], harness := (true, "224a83bf86924c57f63540f87663c7d2858e9b602d8e831391a03dc2ca960cce"), looks := true }, kinds := [], alts := [], laidByText := true, laidKinds := [.handle], laidTests := true, laidLooks := .later }
def NearSaysCardSaid : Prop := Claim7.holds Tryd.pinned (.plain (OpenSpec.ofChange nearSaysSpec)) nearSaysCard

/-- THE TIED CARD OF 'stilewardlaw1.NearCommon'. -/
def nearCommonCard : Claim7 := { stood := { row := nearCommonRow, standIns := [], harness := (true, "224a83bf86924c57f63540f87663c7d2858e9b602d8e831391a03dc2ca960cce"), looks := true }, kinds := [], alts := [], laidByText := true, laidKinds := [.handle], laidTests := true, laidLooks := .later }
def NearCommonCardSaid : Prop := Claim7.holds Tryd.pinned (.plain (OpenSpec.ofChange nearCommonSpec)) nearCommonCard

/-- THE SECOND FORM's CARD OF 'stilewardlaw1.NearSays'. -/
def nearSaysUptoCard : Claim7 := { stood := { row := nearSaysUptoRow, standIns := [], harness := (true, "224a83bf86924c57f63540f87663c7d2858e9b602d8e831391a03dc2ca960cce"), looks := true }, kinds := [], alts := [], laidByText := true, laidKinds := [.handle], laidTests := true, laidLooks := .later }
def NearSaysUptoCardSaid : Prop := Claim7.holds Tryd.pinned (.plain (OpenSpec.upto nearSaysSpec)) nearSaysUptoCard

/-- THE SECOND FORM's CARD OF 'stilewardlaw1.NearCommon'. -/
def nearCommonUptoCard : Claim7 := { stood := { row := nearCommonUptoRow, standIns := [], harness := (true, "224a83bf86924c57f63540f87663c7d2858e9b602d8e831391a03dc2ca960cce"), looks := true }, kinds := [], alts := [], laidByText := true, laidKinds := [.handle], laidTests := true, laidLooks := .later }
def NearCommonUptoCardSaid : Prop := Claim7.holds Tryd.pinned (.plain (OpenSpec.upto nearCommonSpec)) nearCommonUptoCard
end Rows
end Go.Proofs.YtiaoffaaflmgiaaDoor
