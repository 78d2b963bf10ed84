/- The contracts of package small as the laws' walks use them. -/
import Derived.Test.YtbciefeipiphiaaSame2
import Derived.Test.YtbciefeipiphiaaLeast
namespace Go.Proofs.Ytbciefeipiphiaa.Mp
open Go.RowKit Go.IntWalk Go.Proofs.Ytbciefeipiphiaa.Wd Go.Proofs.Ytbciefeipiphiaa.Wo Go.Proofs.Ytbciefeipiphiaa.Df Go.Proofs.Ytbciefeipiphiaa.Rc Go.Proofs.Ytbciefeipiphiaa.Sm

theorem sameOut_small (a b : Aut) : ∀ x ∈ (sameOut a b).2.1, Small x := by
  unfold sameOut
  split
  · rename_i h
    have g := chkD2_iff.1 h
    rcases hd : diffW a b a.s.toNat b.s.toNat with _ | u
    · intro x hx; simp at hx
    · exact word_small g.ga.l6 (diffW_some g g.ga.s_lt g.gb.s_lt hd).1
  · intro x hx; simp at hx
/-- What Same gives. -/
def GivesS (args : Array Value) (W : World) (b : Bool) (l : List Int) (E : Value) : Prop :=
  Calls Try.prog 57 args W fun e w' => ∃ A c, e = .returned (.tuple #[.bool b, .slice A l.length c, E]) ∧ Hid (IntsAt w' w'.heap.size A l) ∧ Below W.heap.size W w'
theorem same_gives2 {W : World} {v z : Value} {a b : Aut} (h : DfaAt W W.heap.size v a) (h2 : DfaAt W W.heap.size z b) {x : Bool} {l : List Int} {k : Nat} {E : Value} (hr : sameOut a b = (x, l, k)) (hE : errV k = E) : GivesS #[v, z] W x l E := by
  refine (same_any v z a b W h h2).mono fun e w' he => ?_
  obtain ⟨wv, h1, ho, _⟩ := he.out
  have hs := sameOut_small a b
  rw [hr] at h1 ho hs
  simp only at h1 ho hs
  obtain ⟨A, c, rfl, _, _, hA⟩ := own_ints_at ho (List.mem_append_right _ List.mem_cons_self) hs
  exact ⟨A, c, by rw [h1, hE], hA, ho.below⟩
theorem good2_turn {a b : Aut} (g : Good2 a b) : Good2 b a := ⟨g.gb, g.ga, g.eL.symm⟩
theorem chkD2_turn {a b : Aut} : chkD2 a b = 0 ↔ chkD2 b a = 0 := by rw [chkD2_iff, chkD2_iff]; exact ⟨good2_turn, good2_turn⟩
/-- The same the other way round. -/
theorem sameOut_turn {a b : Aut} (h : chkD2 a b = 0) : sameOut b a = sameOut a b := by
  have g := chkD2_iff.1 h
  unfold sameOut
  rw [if_pos h, if_pos (chkD2_turn.1 h), diffW_turn g g.ga.s_lt g.gb.s_lt]
end Go.Proofs.Ytbciefeipiphiaa.Mp
