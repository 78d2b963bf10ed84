/- Plain mathematics: the least number, the first word, of those that something holds of. -/
import Derived.Test.YtbciefeipiphiaaDoorDfaM
namespace Go.Proofs.YtbciefeipiphiaaDoor.Me
open Go.Proofs.YtbciefeipiphiaaDoor.Df Go.Proofs.YtbciefeipiphiaaDoor.Wo Go.Proofs.YtbciefeipiphiaaDoor.Rc

theorem nat_min {P : Nat → Prop} (h : ∃ n, P n) : ∃ n, P n ∧ ∀ m, m < n → ¬ P m := by
  obtain ⟨n, hn⟩ := h
  induction n using Nat.strongRecOn with
  | ind n ih =>
    by_cases h : ∃ m, m < n ∧ P m
    · obtain ⟨m, hm, hp⟩ := h
      exact ih m hm hp
    · exact ⟨n, hn, fun m hm hp => h ⟨m, hm, hp⟩⟩
theorem lx_least {L : Int} : ∀ (k : Nat) (P : List Int → Prop), (∃ v, v.length = k ∧ Word L v ∧ P v) → ∃ v, v.length = k ∧ Word L v ∧ P v ∧ ∀ u, u.length = k → Word L u → P u → lx u v = false
  | 0, P, ⟨v, hv, hw, hp⟩ => ⟨v, hv, hw, hp, fun u hu _ _ => by
      obtain rfl := List.length_eq_zero_iff.1 hu
      unfold lx; rfl⟩
  | k + 1, P, ⟨v, hv, hw, hp⟩ => by
    have hex : ∃ n : Nat, (n : Int) < L ∧ ∃ v', v'.length = k ∧ Word L v' ∧ P ((n : Int) :: v') := by
      rcases v with _ | ⟨a, v⟩
      · simp at hv
      · have ha := hw a List.mem_cons_self
        obtain ⟨n, rfl⟩ := Int.eq_ofNat_of_zero_le ha.1
        exact ⟨n, ha.2, v, by simpa using hv, fun x hx => hw x (List.mem_cons_of_mem _ hx), hp⟩
    obtain ⟨n, ⟨hn, hv2⟩, hmin⟩ := nat_min hex
    obtain ⟨v', h1, h2, h3, h4⟩ := lx_least k (fun v' => P ((n : Int) :: v')) hv2
    refine ⟨(n : Int) :: v', by simp [h1], fun x hx => ?_, h3, fun u hu hw hp => ?_⟩
    · rcases List.mem_cons.1 hx with rfl | hx
      · exact ⟨by omega, hn⟩
      · exact h2 x hx
    · rcases u with _ | ⟨b, u⟩
      · simp at hu
      · have hb := hw b List.mem_cons_self
        have hu' : Word L u := fun x hx => hw x (List.mem_cons_of_mem _ hx)
        obtain ⟨m, rfl⟩ := Int.eq_ofNat_of_zero_le hb.1
        have hge : ¬ m < n := fun h => hmin m h ⟨hb.2, u, by simpa using hu, hu', hp⟩
        rw [lx]
        by_cases e : (m : Int) = (n : Int)
        · rw [if_pos e]
          rw [e] at hp
          exact h4 u (by simpa using hu) hu' hp
        · rw [if_neg e]; simp; omega
theorem least_word {L : Int} {P : List Int → Prop} (h : ∃ v, Word L v ∧ P v) : ∃ v, Word L v ∧ P v ∧ ∀ u, Word L u → P u → lss u v = false := by
  obtain ⟨v, hw, hp⟩ := h
  obtain ⟨k, ⟨v2, hk, hw2, hp2⟩, hmin⟩ := nat_min (P := fun k => ∃ v, v.length = k ∧ Word L v ∧ P v) ⟨_, v, rfl, hw, hp⟩
  obtain ⟨u, h1, h2, h3, h4⟩ := lx_least k P ⟨v2, hk, hw2, hp2⟩
  refine ⟨u, h2, h3, fun x hx hpx => ?_⟩
  unfold lss
  by_cases e : x.length = u.length
  · rw [if_pos e]; exact h4 x (by omega) hx hpx
  · rw [if_neg e]
    have : ¬ x.length < k := fun h => hmin _ h ⟨x, rfl, hx, hpx⟩
    simp; omega
end Go.Proofs.YtbciefeipiphiaaDoor.Me
