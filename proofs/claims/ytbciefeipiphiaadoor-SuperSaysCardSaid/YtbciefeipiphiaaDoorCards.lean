/-
  DERIVED. GIVEN WITH THE SEED: THE CARDS: each row of YtbciefeipiphiaaDoorRows.lean that lists a variable, with what it lists TIED to the program's text (the seventh form; the later family's looks); each row that meets fmt, with fmt's text TOLD by the authors' own Lean function (tested against real Go, not proved from fmt's source: count such statements apart). THE CARD IS WHAT COUNTS. Prove the row's statement (the work); the ties are given (YtbciefeipiphiaaDoorTie.lean); close each card by the builder's one call (the guide's Derived/Test/ToyasCard.lean, 'card_holds'). Laid BY PROGRAM, IN A SANDBOX (cutbox-door.mjs). By AI agents, Wed Nov 11 2026. No macro, syntax, notation, axiom, sorry.
-/
import Derived.Test.YtbciefeipiphiaaDoorRows
import GoSem.ClaimSeven
namespace Go.Proofs.YtbciefeipiphiaaDoor
namespace Rows

/-- THE TIED CARD OF 'stilewardlaw5.SuperSays'. -/
def superSaysCard : Claim7 := { stood := { row := superSaysRow, standIns := [], harness := (true, "c3c2691986dcf8376a3b39a7a8830a4e36d6487361fa87e728924180ccfc0bb1"), looks := true }, kinds := [], alts := [], laidByText := true, laidKinds := [.handle], laidTests := true, laidLooks := .later }
def SuperSaysCardSaid : Prop := Claim7.holds Tryd.pinned (.plain (OpenSpec.ofChange superSaysSpec)) superSaysCard

/-- THE TIED CARD OF 'stilewardlaw5.SuperMost'. -/
def superMostCard : Claim7 := { stood := { row := superMostRow, standIns := [], harness := (true, "c3c2691986dcf8376a3b39a7a8830a4e36d6487361fa87e728924180ccfc0bb1"), looks := true }, kinds := [], alts := [], laidByText := true, laidKinds := [.handle], laidTests := true, laidLooks := .later }
def SuperMostCardSaid : Prop := Claim7.holds Tryd.pinned (.plain (OpenSpec.ofChange superMostSpec)) superMostCard

/-- THE TIED CARD OF 'stilewardlaw5.SuperAgain'. -/
def superAgainCard : Claim7 := { stood := { row := superAgainRow, standIns := [], harness := (true, "c3c2691986dcf8376a3b39a7a8830a4e36d6487361fa87e728924180ccfc0bb1"), looks := true }, kinds := [], alts := [], laidByText := true, laidKinds := [.handle], laidTests := true, laidLooks := .later }
def SuperAgainCardSaid : Prop := Claim7.holds Tryd.pinned (.plain (OpenSpec.ofChange superAgainSpec)) superAgainCard

/-- THE SECOND FORM's CARD OF 'stilewardlaw5.SuperSays'. -/
def superSaysUptoCard : Claim7 := { stood := { row := superSaysUptoRow, standIns := [], harness := (true, "c3c2691986dcf8376a3b39a7a8830a4e36d6487361fa87e728924180ccfc0bb1"), looks := true }, kinds := [], alts := [], laidByText := true, laidKinds := [.handle], laidTests := true, laidLooks := .later }
def SuperSaysUptoCardSaid : Prop := Claim7.holds Tryd.pinned (.plain (OpenSpec.upto superSaysSpec)) superSaysUptoCard

/-- THE SECOND FORM's CARD OF 'stilewardlaw5.SuperMost'. -/
def superMostUptoCard : Claim7 := { stood := { row := superMostUptoRow, standIns := [], harness := (true, "c3c2691986dcf8376a3b39a7a8830a4e36d6487361fa87e728924180ccfc0bb1"), looks := true }, kinds := [], alts := [], laidByText := true, laidKinds := [.handle], laidTests := true, laidLooks := .later }
def SuperMostUptoCardSaid : Prop := Claim7.holds Tryd.pinned (.plain (OpenSpec.upto superMostSpec)) superMostUptoCard

/-- THE SECOND FORM's CARD OF 'stilewardlaw5.SuperAgain'. -/
def superAgainUptoCard : Claim7 := { stood := { row := superAgainUptoRow, standIns := [], harness := (true, "c3c2691986dcf8376a3b39a7a8830a4e36d6487361fa87e728924180ccfc0bb1"), looks := true }, kinds := [], alts := [], laidByText := true, laidKinds := [.handle], laidTests := true, laidLooks := .later }
def SuperAgainUptoCardSaid : Prop := Claim7.holds Tryd.pinned (.plain (OpenSpec.upto superAgainSpec)) superAgainUptoCard
end Rows
end Go.Proofs.YtbciefeipiphiaaDoor
