/- The walks of the closed facts of package stilewardlaw4: few and known. -/
import Derived.Test.YtbciefeipiphiaaDfaK
import Derived.Test.YtbciefeipiphiaaSafeM
namespace Go.Proofs.Ytbciefeipiphiaa.Sa
open Go.RowKit Go.IntWalk Go.Proofs.Ytbciefeipiphiaa.Wd Go.Proofs.Ytbciefeipiphiaa.Wo Go.Proofs.Ytbciefeipiphiaa.Df

/-- What few makes. -/
theorem few_own (w w6 : World) (g : Nat) (hg : g = w.heap.size) (hw : w6 = ((((((w.alloc (.cells #[.int .i64 2, .int .i64 0, .slice (some ⟨g + 1 + 1 + 1 + 1 + 1, 0, none⟩) 4 4, .slice (some ⟨g + 1 + 1 + 1 + 1 + 1 + 1, 0, none⟩) 4 4] 25)).alloc (.cells #[.int .i64 0, .int .i64 1] 3)).alloc (.cells #[.int .i64 1, .int .i64 2] 3)).alloc (.cells #[.int .i64 2, .int .i64 3] 3)).alloc (.cells #[.int .i64 3, .int .i64 3] 3)).alloc (.cells #[.slice (some ⟨g + 1, 0, none⟩) 2 2, .slice (some ⟨g + 1 + 1, 0, none⟩) 2 2, .slice (some ⟨g + 1 + 1 + 1, 0, none⟩) 2 2, .slice (some ⟨g + 1 + 1 + 1 + 1, 0, none⟩) 2 2] 26)).alloc (.cells #[.bool true, .bool true, .bool true, .bool false] 4)) :
    DfaOwn w w6 (.agg #[.int .i64 2, .int .i64 0, .slice (some ⟨g + 1 + 1 + 1 + 1 + 1, 0, none⟩) 4 4, .slice (some ⟨g + 1 + 1 + 1 + 1 + 1 + 1, 0, none⟩) 4 4]) fewA ∧
      w6.cell? ⟨g, 0, none⟩ = some (.int .i64 2) ∧ w6.cell? ⟨g, 1, none⟩ = some (.int .i64 0) ∧ w6.cell? ⟨g, 2, none⟩ = some (.slice (some ⟨g + 1 + 1 + 1 + 1 + 1, 0, none⟩) 4 4) ∧ w6.cell? ⟨g, 3, none⟩ = some (.slice (some ⟨g + 1 + 1 + 1 + 1 + 1 + 1, 0, none⟩) 4 4) := by
  have h0 := (own_start w).dfa (.int .i64 2) (.int .i64 0) (.slice (some ⟨g + 1 + 1 + 1 + 1 + 1, 0, none⟩) 4 4) (.slice (some ⟨g + 1 + 1 + 1 + 1 + 1 + 1, 0, none⟩) 4 4)
  have h1 := h0.lit 3 1 2 #[.int .i64 0, .int .i64 1] rfl (by simp [maxLen])
  have h2 := h1.lit 3 1 2 #[.int .i64 1, .int .i64 2] rfl (by simp [maxLen])
  have h3 := h2.lit 3 1 2 #[.int .i64 2, .int .i64 3] rfl (by simp [maxLen])
  have h4 := h3.lit 3 1 2 #[.int .i64 3, .int .i64 3] rfl (by simp [maxLen])
  have h5 := h4.lit 26 1 4 #[.slice (some ⟨g + 1, 0, none⟩) 2 2, .slice (some ⟨g + 1 + 1, 0, none⟩) 2 2, .slice (some ⟨g + 1 + 1 + 1, 0, none⟩) 2 2, .slice (some ⟨g + 1 + 1 + 1 + 1, 0, none⟩) 2 2] rfl (by simp [maxLen])
  have h6 := h5.lit 4 1 4 #[.bool true, .bool true, .bool true, .bool false] rfl (by simp [maxLen])
  simp only [size_al] at h6
  rw [← hg] at h6
  have h7 := h6.pull 6 (by simp)
  simp only [List.getElem_cons_succ, List.getElem_cons_zero, List.eraseIdx_cons_succ, List.eraseIdx_cons_zero] at h7
  subst hw
  have hc := fun (j : Nat) (u : Value) (hj : [.int .i64 2, .int .i64 0, .slice (some ⟨g + 1 + 1 + 1 + 1 + 1, 0, none⟩) 4 4, .slice (some ⟨g + 1 + 1 + 1 + 1 + 1 + 1, 0, none⟩) 4 4][j]? = some u) => (h7.dcell (g := g) (l := [.int .i64 2, .int .i64 0, .slice (some ⟨g + 1 + 1 + 1 + 1 + 1, 0, none⟩) 4 4, .slice (some ⟨g + 1 + 1 + 1 + 1 + 1 + 1, 0, none⟩) 4 4]) (by simp [eDfa]) hj).1
  refine ⟨⟨_, _, [(.slice (some ⟨g + 1, 0, none⟩) 2 2, [0, 1]), (.slice (some ⟨g + 1 + 1, 0, none⟩) 2 2, [1, 2]), (.slice (some ⟨g + 1 + 1 + 1, 0, none⟩) 2 2, [2, 3]), (.slice (some ⟨g + 1 + 1 + 1 + 1, 0, none⟩) 2 2, [3, 3])], rfl, rfl, h7.tail.fin.fin.fin.fin.fin.fin.weak (fun e he => ?_), ?_, ⟨by decide, by decide⟩, ⟨by decide, by decide⟩⟩, hc 0 _ rfl, hc 1 _ rfl, hc 2 _ rfl, hc 3 _ rfl⟩
  · simp only [eEach, List.map_cons, List.map_nil, List.mem_cons, List.not_mem_nil, or_false] at he ⊢
    rcases he with rfl | rfl | rfl | rfl | rfl | rfl
    · exact .inr (.inr (.inr (.inr (.inl rfl))))
    · exact .inr (.inr (.inr (.inr (.inr rfl))))
    · exact .inl rfl
    · exact .inr (.inl rfl)
    · exact .inr (.inr (.inl rfl))
    · exact .inr (.inr (.inr (.inl rfl)))
  · intro p hp x hx
    simp only [List.mem_cons, List.not_mem_nil, or_false] at hp
    rcases hp with rfl | rfl | rfl | rfl
    all_goals
      simp only [List.mem_cons, List.not_mem_nil, or_false] at hx
      rcases hx with rfl | rfl <;> exact ⟨by decide, by decide⟩
set_option maxRecDepth 100000 in
theorem few_class : classA fewA = 1 := by
  unfold classA
  rw [begunB_seen few_good, goesB_seen few_good]
  decide +kernel
end Go.Proofs.Ytbciefeipiphiaa.Sa
