/-
  DERIVED. GIVEN WITH THE SEED: THE CARDS: each row of YtniiecjeflnhlaaDoorRows.lean that lists a variable, with what it lists TIED to the program's text (the seventh form; the later family's looks); each row that meets fmt, with fmt's text TOLD by the authors' own Lean function (tested against real Go, not proved from fmt's source: count such statements apart). THE CARD IS WHAT COUNTS. Prove the row's statement (the work); the ties are given (YtniiecjeflnhlaaDoorTie.lean); close each card by the builder's one call (the guide's Derived/Test/ToyasCard.lean, 'card_holds'). Laid BY PROGRAM, IN A SANDBOX (cutbox-door.mjs). By AI agents, Wed Nov 11 2026. No macro, syntax, notation, axiom, sorry.
-/
import Derived.Test.YtniiecjeflnhlaaDoorRows
import GoSem.ClaimSeven
namespace Go.Proofs.YtniiecjeflnhlaaDoor
namespace Rows

/-- THE TIED CARD OF 'stilewardlaw2.ReachSays'. -/
def reachSaysCard : Claim7 := { stood := { row := reachSaysRow, standIns := [], harness := (true, "453ffc416b26eff81f3be93990b0b533b5e4760ad0a841b548352a28b15c4c11"), looks := true }, kinds := [], alts := [], laidByText := true, laidKinds := [.handle], laidTests := true, laidLooks := .later }
def ReachSaysCardSaid : Prop := Claim7.holds Tryd.pinned (.plain (OpenSpec.ofChange reachSaysSpec)) reachSaysCard

/-- THE TIED CARD OF 'stilewardlaw2.ReachFirst'. -/
def reachFirstCard : Claim7 := { stood := { row := reachFirstRow, standIns := [], harness := (true, "453ffc416b26eff81f3be93990b0b533b5e4760ad0a841b548352a28b15c4c11"), looks := true }, kinds := [], alts := [], laidByText := true, laidKinds := [.handle], laidTests := true, laidLooks := .later }
def ReachFirstCardSaid : Prop := Claim7.holds Tryd.pinned (.plain (OpenSpec.ofChange reachFirstSpec)) reachFirstCard

/-- THE TIED CARD OF 'stilewardlaw2.ReachTrims'. -/
def reachTrimsCard : Claim7 := { stood := { row := reachTrimsRow, standIns := [], harness := (true, "453ffc416b26eff81f3be93990b0b533b5e4760ad0a841b548352a28b15c4c11"), looks := true }, kinds := [], alts := [], laidByText := true, laidKinds := [.handle], laidTests := true, laidLooks := .later }
def ReachTrimsCardSaid : Prop := Claim7.holds Tryd.pinned (.plain (OpenSpec.ofChange reachTrimsSpec)) reachTrimsCard

/-- THE TIED CARD OF 'stilewardlaw2.ReachCounts'. -/
def reachCountsCard : Claim7 := { stood := { row := reachCountsRow, standIns := [], harness := (true, "453ffc416b26eff81f3be93990b0b533b5e4760ad0a841b548352a28b15c4c11"), looks := true }, kinds := [], alts := [], laidByText := true, laidKinds := [.handle], laidTests := true, laidLooks := .later }
def ReachCountsCardSaid : Prop := Claim7.holds Tryd.pinned (.plain (OpenSpec.ofChange reachCountsSpec)) reachCountsCard

/-- THE TIED CARD OF 'stilewardlaw2.ReachLeast'. -/
def reachLeastCard : Claim7 := { stood := { row := reachLeastRow, standIns := [], harness := (true, "453ffc416b26eff81f3be93990b0b533b5e4760ad0a841b548352a28b15c4c11"), looks := true }, kinds := [], alts := [], laidByText := true, laidKinds := [.handle], laidTests := true, laidLooks := .later }
def ReachLeastCardSaid : Prop := Claim7.holds Tryd.pinned (.plain (OpenSpec.ofChange reachLeastSpec)) reachLeastCard

/-- THE SECOND FORM's CARD OF 'stilewardlaw2.ReachSays'. -/
def reachSaysUptoCard : Claim7 := { stood := { row := reachSaysUptoRow, standIns := [], harness := (true, "453ffc416b26eff81f3be93990b0b533b5e4760ad0a841b548352a28b15c4c11"), looks := true }, kinds := [], alts := [], laidByText := true, laidKinds := [.handle], laidTests := true, laidLooks := .later }
def ReachSaysUptoCardSaid : Prop := Claim7.holds Tryd.pinned (.plain (OpenSpec.upto reachSaysSpec)) reachSaysUptoCard

/-- THE SECOND FORM's CARD OF 'stilewardlaw2.ReachFirst'. -/
def reachFirstUptoCard : Claim7 := { stood := { row := reachFirstUptoRow, standIns := [], harness := (true, "453ffc416b26eff81f3be93990b0b533b5e4760ad0a841b548352a28b15c4c11"), looks := true }, kinds := [], alts := [], laidByText := true, laidKinds := [.handle], laidTests := true, laidLooks := .later }
def ReachFirstUptoCardSaid : Prop := Claim7.holds Tryd.pinned (.plain (OpenSpec.upto reachFirstSpec)) reachFirstUptoCard

/-- THE SECOND FORM's CARD OF 'stilewardlaw2.ReachTrims'. -/
def reachTrimsUptoCard : Claim7 := { stood := { row := reachTrimsUptoRow, standIns := [], harness := (true, "453ffc416b26eff81f3be93990b0b533b5e4760ad0a841b548352a28b15c4c11"), looks := true }, kinds := [], alts := [], laidByText := true, laidKinds := [.handle], laidTests := true, laidLooks := .later }
def ReachTrimsUptoCardSaid : Prop := Claim7.holds Tryd.pinned (.plain (OpenSpec.upto reachTrimsSpec)) reachTrimsUptoCard

/-- THE SECOND FORM's CARD OF 'stilewardlaw2.ReachCounts'. -/
def reachCountsUptoCard : Claim7 := { stood := { row := reachCountsUptoRow, standIns := [], harness := (true, "453ffc416b26eff81f3be93990b0b533b5e4760ad0a841b548352a28b15c4c11"), looks := true }, kinds := [], alts := [], laidByText := true, laidKinds := [.handle], laidTests := true, laidLooks := .later }
def ReachCountsUptoCardSaid : Prop := Claim7.holds Tryd.pinned (.plain (OpenSpec.upto reachCountsSpec)) reachCountsUptoCard

/-- THE SECOND FORM's CARD OF 'stilewardlaw2.ReachLeast'. -/
def reachLeastUptoCard : Claim7 := { stood := { row := reachLeastUptoRow, standIns := [], harness := (true, "453ffc416b26eff81f3be93990b0b533b5e4760ad0a841b548352a28b15c4c11"), looks := true }, kinds := [], alts := [], laidByText := true, laidKinds := [.handle], laidTests := true, laidLooks := .later }
def ReachLeastUptoCardSaid : Prop := Claim7.holds Tryd.pinned (.plain (OpenSpec.upto reachLeastSpec)) reachLeastUptoCard
end Rows
end Go.Proofs.YtniiecjeflnhlaaDoor
