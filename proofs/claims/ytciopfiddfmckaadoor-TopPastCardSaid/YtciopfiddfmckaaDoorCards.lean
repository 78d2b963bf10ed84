/-
  DERIVED. GIVEN WITH THE SEED: THE CARDS: each row of YtciopfiddfmckaaDoorRows.lean that lists a variable, with what it lists TIED to the program's text (the seventh form; the later family's looks); each row that meets fmt, with fmt's text TOLD by the authors' own Lean function (tested against real Go, not proved from fmt's source: count such statements apart). THE CARD IS WHAT COUNTS. Prove the row's statement (the work); the ties are given (YtciopfiddfmckaaDoorTie.lean); close each card by the builder's one call (the guide's Derived/Test/ToyasCard.lean, 'card_holds'). Laid BY PROGRAM, IN A SANDBOX (cutbox-door.mjs). By AI agents, Wed Nov 11 2026. No macro, syntax, notation, axiom, sorry.
-/
import Derived.Test.YtciopfiddfmckaaDoorRows
import GoSem.ClaimSeven
namespace Go.Proofs.YtciopfiddfmckaaDoor
namespace Rows

/-- THE TIED CARD OF 'stilewardlaw4.SafeSays'. -/
def safeSaysCard : Claim7 := { stood := { row := safeSaysRow, standIns := [], harness := (true, "981ca546801be8388c7bf9378d1b5059e79c51583c5f07ade6ebbebc5cd8e8da"), looks := true }, kinds := [], alts := [], laidByText := true, laidKinds := [.handle], laidTests := true, laidLooks := .later }
def SafeSaysCardSaid : Prop := Claim7.holds Tryd.pinned (.plain (OpenSpec.ofChange safeSaysSpec)) safeSaysCard

/-- THE TIED CARD OF 'stilewardlaw4.GatePlays'. -/
def gatePlaysCard : Claim7 := { stood := { row := gatePlaysRow, standIns := [], harness := (true, "981ca546801be8388c7bf9378d1b5059e79c51583c5f07ade6ebbebc5cd8e8da"), looks := true }, kinds := [], alts := [], laidByText := true, laidKinds := [.handle], laidTests := true, laidLooks := .later }
def GatePlaysCardSaid : Prop := Claim7.holds Tryd.pinned (.plain (OpenSpec.ofChange gatePlaysSpec)) gatePlaysCard

/-- THE TIED CARD OF 'stilewardtop.TopPast'. -/
def topPastCard : Claim7 := { stood := { row := topPastRow, standIns := [], harness := (true, "981ca546801be8388c7bf9378d1b5059e79c51583c5f07ade6ebbebc5cd8e8da"), looks := true }, kinds := [], alts := [], laidByText := true, laidKinds := [.handle], laidTests := true, laidLooks := .later }
def TopPastCardSaid : Prop := Claim7.holds Tryd.pinned (.plain (OpenSpec.ofChange topPastSpec)) topPastCard

/-- THE SECOND FORM's CARD OF 'stilewardlaw4.SafeSays'. -/
def safeSaysUptoCard : Claim7 := { stood := { row := safeSaysUptoRow, standIns := [], harness := (true, "981ca546801be8388c7bf9378d1b5059e79c51583c5f07ade6ebbebc5cd8e8da"), looks := true }, kinds := [], alts := [], laidByText := true, laidKinds := [.handle], laidTests := true, laidLooks := .later }
def SafeSaysUptoCardSaid : Prop := Claim7.holds Tryd.pinned (.plain (OpenSpec.upto safeSaysSpec)) safeSaysUptoCard

/-- THE SECOND FORM's CARD OF 'stilewardlaw4.GatePlays'. -/
def gatePlaysUptoCard : Claim7 := { stood := { row := gatePlaysUptoRow, standIns := [], harness := (true, "981ca546801be8388c7bf9378d1b5059e79c51583c5f07ade6ebbebc5cd8e8da"), looks := true }, kinds := [], alts := [], laidByText := true, laidKinds := [.handle], laidTests := true, laidLooks := .later }
def GatePlaysUptoCardSaid : Prop := Claim7.holds Tryd.pinned (.plain (OpenSpec.upto gatePlaysSpec)) gatePlaysUptoCard

/-- THE SECOND FORM's CARD OF 'stilewardtop.TopPast'. -/
def topPastUptoCard : Claim7 := { stood := { row := topPastUptoRow, standIns := [], harness := (true, "981ca546801be8388c7bf9378d1b5059e79c51583c5f07ade6ebbebc5cd8e8da"), looks := true }, kinds := [], alts := [], laidByText := true, laidKinds := [.handle], laidTests := true, laidLooks := .later }
def TopPastUptoCardSaid : Prop := Claim7.holds Tryd.pinned (.plain (OpenSpec.upto topPastSpec)) topPastUptoCard
end Rows
end Go.Proofs.YtciopfiddfmckaaDoor
