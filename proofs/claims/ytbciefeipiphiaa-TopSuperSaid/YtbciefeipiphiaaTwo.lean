/- Automata of two states and two letters that a function makes: stilewardtop.pairs, stilewardlaw4.pairs. -/
import Derived.Test.YtbciefeipiphiaaDfaK
namespace Go.Proofs.Ytbciefeipiphiaa.Df
open Go.RowKit Go.IntWalk Go.Proofs.Ytbciefeipiphiaa.Wd Go.Proofs.Ytbciefeipiphiaa.Wo

def pairsA : Aut := ⟨2, 0, [[1, 1], [0, 0]], [true, false]⟩
theorem two_own (a b c d : Int) (p q : Bool) (ha : Small a) (hb : Small b) (hc : Small c) (hd : Small d) (w w6 : World) (g : Nat) (hg : g = w.heap.size)
    (hw : w6 = ((((w.alloc (.cells #[.int .i64 2, .int .i64 0, .slice (some ⟨g + 1 + 1 + 1, 0, none⟩) 2 2, .slice (some ⟨g + 1 + 1 + 1 + 1, 0, none⟩) 2 2] 25)).alloc (.cells #[.int .i64 a, .int .i64 b] 3)).alloc (.cells #[.int .i64 c, .int .i64 d] 3)).alloc
      (.cells #[.slice (some ⟨g + 1, 0, none⟩) 2 2, .slice (some ⟨g + 1 + 1, 0, none⟩) 2 2] 26)).alloc (.cells #[.bool p, .bool q] 4)) :
    DfaOwn w w6 (.agg #[.int .i64 2, .int .i64 0, .slice (some ⟨g + 1 + 1 + 1, 0, none⟩) 2 2, .slice (some ⟨g + 1 + 1 + 1 + 1, 0, none⟩) 2 2]) ⟨2, 0, [[a, b], [c, d]], [p, q]⟩ ∧
      w6.cell? ⟨g, 0, none⟩ = some (.int .i64 2) ∧ w6.cell? ⟨g, 1, none⟩ = some (.int .i64 0) ∧ w6.cell? ⟨g, 2, none⟩ = some (.slice (some ⟨g + 1 + 1 + 1, 0, none⟩) 2 2) ∧ w6.cell? ⟨g, 3, none⟩ = some (.slice (some ⟨g + 1 + 1 + 1 + 1, 0, none⟩) 2 2) := by
  have h0 := (own_start w).dfa (.int .i64 2) (.int .i64 0) (.slice (some ⟨g + 1 + 1 + 1, 0, none⟩) 2 2) (.slice (some ⟨g + 1 + 1 + 1 + 1, 0, none⟩) 2 2)
  have h1 := h0.lit 3 1 2 #[.int .i64 a, .int .i64 b] rfl (by simp [maxLen])
  have h2 := h1.lit 3 1 2 #[.int .i64 c, .int .i64 d] rfl (by simp [maxLen])
  have h3 := h2.lit 26 1 2 #[.slice (some ⟨g + 1, 0, none⟩) 2 2, .slice (some ⟨g + 1 + 1, 0, none⟩) 2 2] rfl (by simp [maxLen])
  have h4 := h3.lit 4 1 2 #[.bool p, .bool q] rfl (by simp [maxLen])
  simp only [size_al] at h4
  rw [← hg] at h4
  have h5 := h4.five
  subst hw
  have hcell := fun (j : Nat) (u : Value) (hj : [.int .i64 2, .int .i64 0, .slice (some ⟨g + 1 + 1 + 1, 0, none⟩) 2 2, .slice (some ⟨g + 1 + 1 + 1 + 1, 0, none⟩) 2 2][j]? = some u) => (h5.dcell (g := g) (l := [.int .i64 2, .int .i64 0, .slice (some ⟨g + 1 + 1 + 1, 0, none⟩) 2 2, .slice (some ⟨g + 1 + 1 + 1 + 1, 0, none⟩) 2 2]) (by simp [eDfa]) hj).1
  refine ⟨⟨_, _, [(.slice (some ⟨g + 1, 0, none⟩) 2 2, [a, b]), (.slice (some ⟨g + 1 + 1, 0, none⟩) 2 2, [c, d])], rfl, rfl, h5.tail.fin.fin.fin.fin.weak (fun e he => ?_), ?_, (show Small 2 from ⟨by decide, by decide⟩), (show Small 0 from ⟨by decide, by decide⟩)⟩, hcell 0 _ rfl, hcell 1 _ rfl, hcell 2 _ rfl, hcell 3 _ rfl⟩
  · simp only [eEach, List.map_cons, List.map_nil, List.mem_cons, List.not_mem_nil, or_false] at he ⊢
    rcases he with rfl | rfl | rfl | rfl
    · exact .inr (.inr (.inl rfl))
    · exact .inr (.inr (.inr rfl))
    · exact .inl rfl
    · exact .inr (.inl rfl)
  · intro p hp x hx
    simp only [List.mem_cons, List.not_mem_nil, or_false] at hp
    rcases hp with rfl | rfl
    all_goals
      simp only [List.mem_cons, List.not_mem_nil, or_false] at hx
      rcases hx with rfl | rfl <;> assumption
theorem small01 : Small 0 ∧ Small 1 := ⟨⟨by decide, by decide⟩, ⟨by decide, by decide⟩⟩
set_option maxRecDepth 100000 in
set_option maxHeartbeats 1000000 in
theorem pairs_any (w : World) : Calls Try.prog 15 #[] w fun e w' => Hid (∃ x, e = .returned x ∧ DfaOwn w w' x pairsA) := by
  go_enter Try.func15, Try.ntmps15
  go_wp2
  obtain ⟨k1, k3, k4, k5, k6⟩ := two_own 1 1 0 0 true false small01.2 small01.2 small01.1 small01.1 w _ _ rfl rfl
  exact bodyPost_ret (res_dfa rfl _ rfl k3 k4 k5 k6) rfl ⟨_, rfl, k1⟩
end Go.Proofs.Ytbciefeipiphiaa.Df
