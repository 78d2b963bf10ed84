/-
  DERIVED. GIVEN WITH THE SEED: THE CARDS: each row of YtjecphfjkpinlaaDoorRows.lean that lists a variable, with what it lists TIED to the program's text (the seventh form; the later family's looks); each row that meets fmt, with fmt's text TOLD by the authors' own Lean function (tested against real Go, not proved from fmt's source: count such statements apart). THE CARD IS WHAT COUNTS. Prove the row's statement (the work); the ties are given (YtjecphfjkpinlaaDoorTie.lean); close each card by the builder's one call (the guide's Derived/Test/ToyasCard.lean, 'card_holds'). Laid BY PROGRAM, IN A SANDBOX (cutbox-door.mjs). By AI agents, Wed Nov 11 2026. No macro, syntax, notation, axiom, sorry.
-/
import Derived.Test.YtjecphfjkpinlaaDoorRows
import GoSem.ClaimSeven
namespace Go.Proofs.YtjecphfjkpinlaaDoor
namespace Rows

/-- THE TIED CARD OF 'stilewardlaw2.SmallMakes'. -/
def smallMakesCard : Claim7 := { stood := { row := smallMakesRow, standIns := [], harness := (true, "d5adff9012c19dd64deeab559e07cf4c61ccc4075b13297381e4d2a1865b2453"), looks := true }, kinds := [], alts := [], laidByText := true, laidKinds := [.handle], laidTests := true, laidLooks := .later }
def SmallMakesCardSaid : Prop := Claim7.holds Tryd.pinned (.plain (OpenSpec.ofChange smallMakesSpec)) smallMakesCard

/-- THE TIED CARD OF 'stilewardlaw2.SmallTells'. -/
def smallTellsCard : Claim7 := { stood := { row := smallTellsRow, standIns := [], harness := (true, "d5adff9012c19dd64deeab559e07cf4c61ccc4075b13297381e4d2a1865b2453"), looks := true }, kinds := [], alts := [], laidByText := true, laidKinds := [.handle], laidTests := true, laidLooks := .later }
def SmallTellsCardSaid : Prop := Claim7.holds Tryd.pinned (.plain (OpenSpec.ofChange smallTellsSpec)) smallTellsCard

/-- THE TIED CARD OF 'stilewardlaw2.SmallOne'. -/
def smallOneCard : Claim7 := { stood := { row := smallOneRow, standIns := [], harness := (true, "d5adff9012c19dd64deeab559e07cf4c61ccc4075b13297381e4d2a1865b2453"), looks := true }, kinds := [], alts := [], laidByText := true, laidKinds := [.handle], laidTests := true, laidLooks := .later }
def SmallOneCardSaid : Prop := Claim7.holds Tryd.pinned (.plain (OpenSpec.ofChange smallOneSpec)) smallOneCard

/-- THE TIED CARD OF 'stilewardlaw2.DfaPairs'. -/
def dfaPairsCard : Claim7 := { stood := { row := dfaPairsRow, standIns := [], harness := (true, "d5adff9012c19dd64deeab559e07cf4c61ccc4075b13297381e4d2a1865b2453"), looks := true }, kinds := [], alts := [], laidByText := true, laidKinds := [.handle], laidTests := true, laidLooks := .later }
def DfaPairsCardSaid : Prop := Claim7.holds Tryd.pinned (.plain (OpenSpec.ofChange dfaPairsSpec)) dfaPairsCard

/-- THE SECOND FORM's CARD OF 'stilewardlaw2.SmallMakes'. -/
def smallMakesUptoCard : Claim7 := { stood := { row := smallMakesUptoRow, standIns := [], harness := (true, "d5adff9012c19dd64deeab559e07cf4c61ccc4075b13297381e4d2a1865b2453"), looks := true }, kinds := [], alts := [], laidByText := true, laidKinds := [.handle], laidTests := true, laidLooks := .later }
def SmallMakesUptoCardSaid : Prop := Claim7.holds Tryd.pinned (.plain (OpenSpec.upto smallMakesSpec)) smallMakesUptoCard

/-- THE SECOND FORM's CARD OF 'stilewardlaw2.SmallTells'. -/
def smallTellsUptoCard : Claim7 := { stood := { row := smallTellsUptoRow, standIns := [], harness := (true, "d5adff9012c19dd64deeab559e07cf4c61ccc4075b13297381e4d2a1865b2453"), looks := true }, kinds := [], alts := [], laidByText := true, laidKinds := [.handle], laidTests := true, laidLooks := .later }
def SmallTellsUptoCardSaid : Prop := Claim7.holds Tryd.pinned (.plain (OpenSpec.upto smallTellsSpec)) smallTellsUptoCard

/-- THE SECOND FORM's CARD OF 'stilewardlaw2.SmallOne'. -/
def smallOneUptoCard : Claim7 := { stood := { row := smallOneUptoRow, standIns := [], harness := (true, "d5adff9012c19dd64deeab559e07cf4c61ccc4075b13297381e4d2a1865b2453"), looks := true }, kinds := [], alts := [], laidByText := true, laidKinds := [.handle], laidTests := true, laidLooks := .later }
def SmallOneUptoCardSaid : Prop := Claim7.holds Tryd.pinned (.plain (OpenSpec.upto smallOneSpec)) smallOneUptoCard

/-- THE SECOND FORM's CARD OF 'stilewardlaw2.DfaPairs'. -/
def dfaPairsUptoCard : Claim7 := { stood := { row := dfaPairsUptoRow, standIns := [], harness := (true, "d5adff9012c19dd64deeab559e07cf4c61ccc4075b13297381e4d2a1865b2453"), looks := true }, kinds := [], alts := [], laidByText := true, laidKinds := [.handle], laidTests := true, laidLooks := .later }
def DfaPairsUptoCardSaid : Prop := Claim7.holds Tryd.pinned (.plain (OpenSpec.upto dfaPairsSpec)) dfaPairsUptoCard
end Rows
end Go.Proofs.YtjecphfjkpinlaaDoor
