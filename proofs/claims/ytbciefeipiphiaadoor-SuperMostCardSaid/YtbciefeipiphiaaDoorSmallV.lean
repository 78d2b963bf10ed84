/- The contracts of package small as the laws' walks use them. -/
import Derived.Test.YtbciefeipiphiaaDoorSame2
import Derived.Test.YtbciefeipiphiaaDoorLeast
namespace Go.Proofs.YtbciefeipiphiaaDoor.Mp
open Go.RowKit Go.IntWalk Go.Proofs.YtbciefeipiphiaaDoor.Wd Go.Proofs.YtbciefeipiphiaaDoor.Wo Go.Proofs.YtbciefeipiphiaaDoor.Df Go.Proofs.YtbciefeipiphiaaDoor.Rc Go.Proofs.YtbciefeipiphiaaDoor.Sm

theorem sameOut_small (a b : Aut) : ∀ x ∈ (sameOut a b).2.1, Small x := by
  unfold sameOut
  split
  · rename_i h
    have g := chkD2_iff.1 h
    rcases hd : diffW a b a.s.toNat b.s.toNat with _ | u
    · intro x hx; simp at hx
    · exact word_small g.ga.l6 (diffW_some g g.ga.s_lt g.gb.s_lt hd).1
  · intro x hx; simp at hx
theorem good2_turn {a b : Aut} (g : Good2 a b) : Good2 b a := ⟨g.gb, g.ga, g.eL.symm⟩
theorem chkD2_turn {a b : Aut} : chkD2 a b = 0 ↔ chkD2 b a = 0 := by rw [chkD2_iff, chkD2_iff]; exact ⟨good2_turn, good2_turn⟩
/-- The same the other way round. -/
theorem sameOut_turn {a b : Aut} (h : chkD2 a b = 0) : sameOut b a = sameOut a b := by
  have g := chkD2_iff.1 h
  unfold sameOut
  rw [if_pos h, if_pos (chkD2_turn.1 h), diffW_turn g g.ga.s_lt g.gb.s_lt]
end Go.Proofs.YtbciefeipiphiaaDoor.Mp
