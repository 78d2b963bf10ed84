/-
  DERIVED. GIVEN WITH THE SEED: THE CARDS: each row of YtinehjfanabegaaDoorRows.lean that lists a variable, with what it lists TIED to the program's text (the seventh form; the later family's looks); each row that meets fmt, with fmt's text TOLD by the authors' own Lean function (tested against real Go, not proved from fmt's source: count such statements apart). THE CARD IS WHAT COUNTS. Prove the row's statement (the work); the ties are given (YtinehjfanabegaaDoorTie.lean); close each card by the builder's one call (the guide's Derived/Test/ToyasCard.lean, 'card_holds'). Laid BY PROGRAM, IN A SANDBOX (cutbox-door.mjs). By AI agents, Wed Nov 11 2026. No macro, syntax, notation, axiom, sorry.
-/
import Derived.Test.YtinehjfanabegaaDoorRows
import GoSem.ClaimSeven
namespace Go.Proofs.YtinehjfanabegaaDoor
namespace Rows

/-- THE TIED CARD OF 'stilewardlaw2.DfaSays'. -/
def dfaSaysCard : Claim7 := { stood := { row := dfaSaysRow, standIns := [], harness := (true, "79422bc317647e98da3515ddd54c616c62872d918dc64e134f53a2f36d3d9ecc"), looks := true }, kinds := [], alts := [], laidByText := true, laidKinds := [.handle], laidTests := true, laidLooks := .later }
def DfaSaysCardSaid : Prop := Claim7.holds Tryd.pinned (.plain (OpenSpec.ofChange dfaSaysSpec)) dfaSaysCard

/-- THE TIED CARD OF 'stilewardlaw2.DfaPairs'. -/
def dfaPairsCard : Claim7 := { stood := { row := dfaPairsRow, standIns := [], harness := (true, "79422bc317647e98da3515ddd54c616c62872d918dc64e134f53a2f36d3d9ecc"), looks := true }, kinds := [], alts := [], laidByText := true, laidKinds := [.handle], laidTests := true, laidLooks := .later }
def DfaPairsCardSaid : Prop := Claim7.holds Tryd.pinned (.plain (OpenSpec.ofChange dfaPairsSpec)) dfaPairsCard

/-- THE TIED CARD OF 'stilewardlaw2.ReachSays'. -/
def reachSaysCard : Claim7 := { stood := { row := reachSaysRow, standIns := [], harness := (true, "79422bc317647e98da3515ddd54c616c62872d918dc64e134f53a2f36d3d9ecc"), looks := true }, kinds := [], alts := [], laidByText := true, laidKinds := [.handle], laidTests := true, laidLooks := .later }
def ReachSaysCardSaid : Prop := Claim7.holds Tryd.pinned (.plain (OpenSpec.ofChange reachSaysSpec)) reachSaysCard

/-- THE TIED CARD OF 'stilewardlaw2.ReachFirst'. -/
def reachFirstCard : Claim7 := { stood := { row := reachFirstRow, standIns := [], harness := (true, "79422bc317647e98da3515ddd54c616c62872d918dc64e134f53a2f36d3d9ecc"), looks := true }, kinds := [], alts := [], laidByText := true, laidKinds := [.handle], laidTests := true, laidLooks := .later }
def ReachFirstCardSaid : Prop := Claim7.holds Tryd.pinned (.plain (OpenSpec.ofChange reachFirstSpec)) reachFirstCard

/-- THE TIED CARD OF 'stilewardlaw2.ReachTrims'. -/
def reachTrimsCard : Claim7 := { stood := { row := reachTrimsRow, standIns := [], harness := (true, "79422bc317647e98da3515ddd54c616c62872d918dc64e134f53a2f36d3d9ecc"), looks := true }, kinds := [], alts := [], laidByText := true, laidKinds := [.handle], laidTests := true, laidLooks := .later }
def ReachTrimsCardSaid : Prop := Claim7.holds Tryd.pinned (.plain (OpenSpec.ofChange reachTrimsSpec)) reachTrimsCard

/-- THE TIED CARD OF 'stilewardlaw2.ReachCounts'. -/
def reachCountsCard : Claim7 := { stood := { row := reachCountsRow, standIns := [], harness := (true, "79422bc317647e98da3515ddd54c616c62872d918dc64e134f53a2f36d3d9ecc"), looks := true }, kinds := [], alts := [], laidByText := true, laidKinds := [.handle], laidTests := true, laidLooks := .later }
def ReachCountsCardSaid : Prop := Claim7.holds Tryd.pinned (.plain (OpenSpec.ofChange reachCountsSpec)) reachCountsCard

/-- THE TIED CARD OF 'stilewardlaw2.ReachLeast'. -/
def reachLeastCard : Claim7 := { stood := { row := reachLeastRow, standIns := [], harness := (true, "79422bc317647e98da3515ddd54c616c62872d918dc64e134f53a2f36d3d9ecc"), looks := true }, kinds := [], alts := [], laidByText := true, laidKinds := [.handle], laidTests := true, laidLooks := .later }
def ReachLeastCardSaid : Prop := Claim7.holds Tryd.pinned (.plain (OpenSpec.ofChange reachLeastSpec)) reachLeastCard

/-- THE TIED CARD OF 'stilewardlaw2.SmallMakes'. -/
def smallMakesCard : Claim7 := { stood := { row := smallMakesRow, standIns := [], harness := (true, "79422bc317647e98da3515ddd54c616c62872d918dc64e134f53a2f36d3d9ecc"), looks := true }, kinds := [], alts := [], laidByText := true, laidKinds := [.handle], laidTests := true, laidLooks := .later }
def SmallMakesCardSaid : Prop := Claim7.holds Tryd.pinned (.plain (OpenSpec.ofChange smallMakesSpec)) smallMakesCard

/-- THE TIED CARD OF 'stilewardlaw2.SmallTells'. -/
def smallTellsCard : Claim7 := { stood := { row := smallTellsRow, standIns := [], harness := (true, "79422bc317647e98da3515ddd54c616c62872d918dc64e134f53a2f36d3d9ecc"), looks := true }, kinds := [], alts := [], laidByText := true, laidKinds := [.handle], laidTests := true, laidLooks := .later }
def SmallTellsCardSaid : Prop := Claim7.holds Tryd.pinned (.plain (OpenSpec.ofChange smallTellsSpec)) smallTellsCard

/-- THE TIED CARD OF 'stilewardlaw2.SmallOne'. -/
def smallOneCard : Claim7 := { stood := { row := smallOneRow, standIns := [], harness := (true, "79422bc317647e98da3515ddd54c616c62872d918dc64e134f53a2f36d3d9ecc"), looks := true }, kinds := [], alts := [], laidByText := true, laidKinds := [.handle], laidTests := true, laidLooks := .later }
def SmallOneCardSaid : Prop := Claim7.holds Tryd.pinned (.plain (OpenSpec.ofChange smallOneSpec)) smallOneCard

/-- THE TIED CARD OF 'stilewardlaw2.NfaSays'. -/
def nfaSaysCard : Claim7 := { stood := { row := nfaSaysRow, standIns := [], harness := (true, "79422bc317647e98da3515ddd54c616c62872d918dc64e134f53a2f36d3d9ecc"), looks := true }, kinds := [], alts := [], laidByText := true, laidKinds := [.handle], laidTests := true, laidLooks := .later }
def NfaSaysCardSaid : Prop := Claim7.holds Tryd.pinned (.plain (OpenSpec.ofChange nfaSaysSpec)) nfaSaysCard

/-- THE TIED CARD OF 'stilewardlaw2.NfaMakes'. -/
def nfaMakesCard : Claim7 := { stood := { row := nfaMakesRow, standIns := [], harness := (true, "79422bc317647e98da3515ddd54c616c62872d918dc64e134f53a2f36d3d9ecc"), looks := true }, kinds := [], alts := [], laidByText := true, laidKinds := [.handle], laidTests := true, laidLooks := .later }
def NfaMakesCardSaid : Prop := Claim7.holds Tryd.pinned (.plain (OpenSpec.ofChange nfaMakesSpec)) nfaMakesCard

/-- THE TIED CARD OF 'stilewardlaw2.NfaMeans'. -/
def nfaMeansCard : Claim7 := { stood := { row := nfaMeansRow, standIns := [], harness := (true, "79422bc317647e98da3515ddd54c616c62872d918dc64e134f53a2f36d3d9ecc"), looks := true }, kinds := [], alts := [], laidByText := true, laidKinds := [.handle], laidTests := true, laidLooks := .later }
def NfaMeansCardSaid : Prop := Claim7.holds Tryd.pinned (.plain (OpenSpec.ofChange nfaMeansSpec)) nfaMeansCard

/-- THE SECOND FORM's CARD OF 'stilewardlaw2.DfaSays'. -/
def dfaSaysUptoCard : Claim7 := { stood := { row := dfaSaysUptoRow, standIns := [], harness := (true, "79422bc317647e98da3515ddd54c616c62872d918dc64e134f53a2f36d3d9ecc"), looks := true }, kinds := [], alts := [], laidByText := true, laidKinds := [.handle], laidTests := true, laidLooks := .later }
def DfaSaysUptoCardSaid : Prop := Claim7.holds Tryd.pinned (.plain (OpenSpec.upto dfaSaysSpec)) dfaSaysUptoCard

/-- THE SECOND FORM's CARD OF 'stilewardlaw2.DfaPairs'. -/
def dfaPairsUptoCard : Claim7 := { stood := { row := dfaPairsUptoRow, standIns := [], harness := (true, "79422bc317647e98da3515ddd54c616c62872d918dc64e134f53a2f36d3d9ecc"), looks := true }, kinds := [], alts := [], laidByText := true, laidKinds := [.handle], laidTests := true, laidLooks := .later }
def DfaPairsUptoCardSaid : Prop := Claim7.holds Tryd.pinned (.plain (OpenSpec.upto dfaPairsSpec)) dfaPairsUptoCard

/-- THE SECOND FORM's CARD OF 'stilewardlaw2.ReachSays'. -/
def reachSaysUptoCard : Claim7 := { stood := { row := reachSaysUptoRow, standIns := [], harness := (true, "79422bc317647e98da3515ddd54c616c62872d918dc64e134f53a2f36d3d9ecc"), looks := true }, kinds := [], alts := [], laidByText := true, laidKinds := [.handle], laidTests := true, laidLooks := .later }
def ReachSaysUptoCardSaid : Prop := Claim7.holds Tryd.pinned (.plain (OpenSpec.upto reachSaysSpec)) reachSaysUptoCard

/-- THE SECOND FORM's CARD OF 'stilewardlaw2.ReachFirst'. -/
def reachFirstUptoCard : Claim7 := { stood := { row := reachFirstUptoRow, standIns := [], harness := (true, "79422bc317647e98da3515ddd54c616c62872d918dc64e134f53a2f36d3d9ecc"), looks := true }, kinds := [], alts := [], laidByText := true, laidKinds := [.handle], laidTests := true, laidLooks := .later }
def ReachFirstUptoCardSaid : Prop := Claim7.holds Tryd.pinned (.plain (OpenSpec.upto reachFirstSpec)) reachFirstUptoCard

/-- THE SECOND FORM's CARD OF 'stilewardlaw2.ReachTrims'. -/
def reachTrimsUptoCard : Claim7 := { stood := { row := reachTrimsUptoRow, standIns := [], harness := (true, "79422bc317647e98da3515ddd54c616c62872d918dc64e134f53a2f36d3d9ecc"), looks := true }, kinds := [], alts := [], laidByText := true, laidKinds := [.handle], laidTests := true, laidLooks := .later }
def ReachTrimsUptoCardSaid : Prop := Claim7.holds Tryd.pinned (.plain (OpenSpec.upto reachTrimsSpec)) reachTrimsUptoCard

/-- THE SECOND FORM's CARD OF 'stilewardlaw2.ReachCounts'. -/
def reachCountsUptoCard : Claim7 := { stood := { row := reachCountsUptoRow, standIns := [], harness := (true, "79422bc317647e98da3515ddd54c616c62872d918dc64e134f53a2f36d3d9ecc"), looks := true }, kinds := [], alts := [], laidByText := true, laidKinds := [.handle], laidTests := true, laidLooks := .later }
def ReachCountsUptoCardSaid : Prop := Claim7.holds Tryd.pinned (.plain (OpenSpec.upto reachCountsSpec)) reachCountsUptoCard

/-- THE SECOND FORM's CARD OF 'stilewardlaw2.ReachLeast'. -/
def reachLeastUptoCard : Claim7 := { stood := { row := reachLeastUptoRow, standIns := [], harness := (true, "79422bc317647e98da3515ddd54c616c62872d918dc64e134f53a2f36d3d9ecc"), looks := true }, kinds := [], alts := [], laidByText := true, laidKinds := [.handle], laidTests := true, laidLooks := .later }
def ReachLeastUptoCardSaid : Prop := Claim7.holds Tryd.pinned (.plain (OpenSpec.upto reachLeastSpec)) reachLeastUptoCard

/-- THE SECOND FORM's CARD OF 'stilewardlaw2.SmallMakes'. -/
def smallMakesUptoCard : Claim7 := { stood := { row := smallMakesUptoRow, standIns := [], harness := (true, "79422bc317647e98da3515ddd54c616c62872d918dc64e134f53a2f36d3d9ecc"), looks := true }, kinds := [], alts := [], laidByText := true, laidKinds := [.handle], laidTests := true, laidLooks := .later }
def SmallMakesUptoCardSaid : Prop := Claim7.holds Tryd.pinned (.plain (OpenSpec.upto smallMakesSpec)) smallMakesUptoCard

/-- THE SECOND FORM's CARD OF 'stilewardlaw2.SmallTells'. -/
def smallTellsUptoCard : Claim7 := { stood := { row := smallTellsUptoRow, standIns := [], harness := (true, "79422bc317647e98da3515ddd54c616c62872d918dc64e134f53a2f36d3d9ecc"), looks := true }, kinds := [], alts := [], laidByText := true, laidKinds := [.handle], laidTests := true, laidLooks := .later }
def SmallTellsUptoCardSaid : Prop := Claim7.holds Tryd.pinned (.plain (OpenSpec.upto smallTellsSpec)) smallTellsUptoCard

/-- THE SECOND FORM's CARD OF 'stilewardlaw2.SmallOne'. -/
def smallOneUptoCard : Claim7 := { stood := { row := smallOneUptoRow, standIns := [], harness := (true, "79422bc317647e98da3515ddd54c616c62872d918dc64e134f53a2f36d3d9ecc"), looks := true }, kinds := [], alts := [], laidByText := true, laidKinds := [.handle], laidTests := true, laidLooks := .later }
def SmallOneUptoCardSaid : Prop := Claim7.holds Tryd.pinned (.plain (OpenSpec.upto smallOneSpec)) smallOneUptoCard

/-- THE SECOND FORM's CARD OF 'stilewardlaw2.NfaSays'. -/
def nfaSaysUptoCard : Claim7 := { stood := { row := nfaSaysUptoRow, standIns := [], harness := (true, "79422bc317647e98da3515ddd54c616c62872d918dc64e134f53a2f36d3d9ecc"), looks := true }, kinds := [], alts := [], laidByText := true, laidKinds := [.handle], laidTests := true, laidLooks := .later }
def NfaSaysUptoCardSaid : Prop := Claim7.holds Tryd.pinned (.plain (OpenSpec.upto nfaSaysSpec)) nfaSaysUptoCard

/-- THE SECOND FORM's CARD OF 'stilewardlaw2.NfaMakes'. -/
def nfaMakesUptoCard : Claim7 := { stood := { row := nfaMakesUptoRow, standIns := [], harness := (true, "79422bc317647e98da3515ddd54c616c62872d918dc64e134f53a2f36d3d9ecc"), looks := true }, kinds := [], alts := [], laidByText := true, laidKinds := [.handle], laidTests := true, laidLooks := .later }
def NfaMakesUptoCardSaid : Prop := Claim7.holds Tryd.pinned (.plain (OpenSpec.upto nfaMakesSpec)) nfaMakesUptoCard

/-- THE SECOND FORM's CARD OF 'stilewardlaw2.NfaMeans'. -/
def nfaMeansUptoCard : Claim7 := { stood := { row := nfaMeansUptoRow, standIns := [], harness := (true, "79422bc317647e98da3515ddd54c616c62872d918dc64e134f53a2f36d3d9ecc"), looks := true }, kinds := [], alts := [], laidByText := true, laidKinds := [.handle], laidTests := true, laidLooks := .later }
def NfaMeansUptoCardSaid : Prop := Claim7.holds Tryd.pinned (.plain (OpenSpec.upto nfaMeansSpec)) nfaMeansUptoCard
end Rows
end Go.Proofs.YtinehjfanabegaaDoor
