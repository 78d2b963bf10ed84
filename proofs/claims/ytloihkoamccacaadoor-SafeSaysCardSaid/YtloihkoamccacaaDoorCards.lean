/-
  DERIVED. GIVEN WITH THE SEED: THE CARDS: each row of YtloihkoamccacaaDoorRows.lean that lists a variable, with what it lists TIED to the program's text (the seventh form; the later family's looks); each row that meets fmt, with fmt's text TOLD by the authors' own Lean function (tested against real Go, not proved from fmt's source: count such statements apart). THE CARD IS WHAT COUNTS. Prove the row's statement (the work); the ties are given (YtloihkoamccacaaDoorTie.lean); close each card by the builder's one call (the guide's Derived/Test/ToyasCard.lean, 'card_holds'). Laid BY PROGRAM, IN A SANDBOX (cutbox-door.mjs). By AI agents, Wed Nov 11 2026. No macro, syntax, notation, axiom, sorry.
-/
import Derived.Test.YtloihkoamccacaaDoorRows
import GoSem.ClaimSeven
namespace Go.Proofs.YtloihkoamccacaaDoor
namespace Rows

/-- THE TIED CARD OF 'stilewardlaw2.DfaPairs'. -/
def dfaPairsCard : Claim7 := { stood := { row := dfaPairsRow, standIns := [], harness := (true, "c94cc83f5dd7841045424cdf6d17788601952d9661a14660a15d5bfc90368eca"), looks := true }, kinds := [], alts := [], laidByText := true, laidKinds := [.handle], laidTests := true, laidLooks := .later }
def DfaPairsCardSaid : Prop := Claim7.holds Tryd.pinned (.plain (OpenSpec.ofChange dfaPairsSpec)) dfaPairsCard

/-- THE TIED CARD OF 'stilewardlaw4.SafeSays'. -/
def safeSaysCard : Claim7 := { stood := { row := safeSaysRow, standIns := [], harness := (true, "c94cc83f5dd7841045424cdf6d17788601952d9661a14660a15d5bfc90368eca"), looks := true }, kinds := [], alts := [], laidByText := true, laidKinds := [.handle], laidTests := true, laidLooks := .later }
def SafeSaysCardSaid : Prop := Claim7.holds Tryd.pinned (.plain (OpenSpec.ofChange safeSaysSpec)) safeSaysCard

/-- THE TIED CARD OF 'stilewardlaw4.SafeLeast'. -/
def safeLeastCard : Claim7 := { stood := { row := safeLeastRow, standIns := [], harness := (true, "c94cc83f5dd7841045424cdf6d17788601952d9661a14660a15d5bfc90368eca"), looks := true }, kinds := [], alts := [], laidByText := true, laidKinds := [.handle], laidTests := true, laidLooks := .later }
def SafeLeastCardSaid : Prop := Claim7.holds Tryd.pinned (.plain (OpenSpec.ofChange safeLeastSpec)) safeLeastCard

/-- THE SECOND FORM's CARD OF 'stilewardlaw2.DfaPairs'. -/
def dfaPairsUptoCard : Claim7 := { stood := { row := dfaPairsUptoRow, standIns := [], harness := (true, "c94cc83f5dd7841045424cdf6d17788601952d9661a14660a15d5bfc90368eca"), looks := true }, kinds := [], alts := [], laidByText := true, laidKinds := [.handle], laidTests := true, laidLooks := .later }
def DfaPairsUptoCardSaid : Prop := Claim7.holds Tryd.pinned (.plain (OpenSpec.upto dfaPairsSpec)) dfaPairsUptoCard

/-- THE SECOND FORM's CARD OF 'stilewardlaw4.SafeSays'. -/
def safeSaysUptoCard : Claim7 := { stood := { row := safeSaysUptoRow, standIns := [], harness := (true, "c94cc83f5dd7841045424cdf6d17788601952d9661a14660a15d5bfc90368eca"), looks := true }, kinds := [], alts := [], laidByText := true, laidKinds := [.handle], laidTests := true, laidLooks := .later }
def SafeSaysUptoCardSaid : Prop := Claim7.holds Tryd.pinned (.plain (OpenSpec.upto safeSaysSpec)) safeSaysUptoCard

/-- THE SECOND FORM's CARD OF 'stilewardlaw4.SafeLeast'. -/
def safeLeastUptoCard : Claim7 := { stood := { row := safeLeastUptoRow, standIns := [], harness := (true, "c94cc83f5dd7841045424cdf6d17788601952d9661a14660a15d5bfc90368eca"), looks := true }, kinds := [], alts := [], laidByText := true, laidKinds := [.handle], laidTests := true, laidLooks := .later }
def SafeLeastUptoCardSaid : Prop := Claim7.holds Tryd.pinned (.plain (OpenSpec.upto safeLeastSpec)) safeLeastUptoCard
end Rows
end Go.Proofs.YtloihkoamccacaaDoor
