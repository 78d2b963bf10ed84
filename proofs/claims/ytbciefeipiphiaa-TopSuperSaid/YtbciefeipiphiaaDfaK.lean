/- The walks of the laws' closed fact: even and known. -/
import Derived.Test.YtbciefeipiphiaaDfaV
namespace Go.Proofs.Ytbciefeipiphiaa.Df
open Go.RowKit Go.IntWalk Go.Proofs.Ytbciefeipiphiaa.Wd Go.Proofs.Ytbciefeipiphiaa.Wo

def evenA : Aut := ⟨2, 0, [[1, 0], [0, 1]], [true, false]⟩
theorem res_dfa {fn : Func} {t : Tmp} (h : fn.results = #[.cell t 25]) (tmps : Array Value) {w : World} {g : Nat} {v0 v1 v2 v3 : Value} (hp : tmps.getD t undef = .pointer (some ⟨g, 0, none⟩))
    (c0 : w.cell? ⟨g, 0, none⟩ = some v0) (c1 : w.cell? ⟨g, 1, none⟩ = some v1) (c2 : w.cell? ⟨g, 2, none⟩ = some v2) (c3 : w.cell? ⟨g, 3, none⟩ = some v3) :
    (results fn tmps).run Try.prog w = .ok (.agg #[v0, v1, v2, v3]) w := by
  have hp' : tmps[t]?.getD undef = .pointer (some ⟨g, 0, none⟩) := by simpa using hp
  simp [results, h, hp', go_sem, c0, c1, c2, c3]
theorem size_al (w : World) (o : Obj) : (w.alloc o).heap.size = w.heap.size + 1 := by simp
/-- What even makes. -/
theorem even_own (w w6 : World) (g : Nat) (hg : g = w.heap.size)
    (hw : w6 = ((((w.alloc (.cells #[.int .i64 2, .int .i64 0, .slice (some ⟨g + 1 + 1 + 1, 0, none⟩) 2 2, .slice (some ⟨g + 1 + 1 + 1 + 1, 0, none⟩) 2 2] 25)).alloc (.cells #[.int .i64 1, .int .i64 0] 3)).alloc (.cells #[.int .i64 0, .int .i64 1] 3)).alloc
      (.cells #[.slice (some ⟨g + 1, 0, none⟩) 2 2, .slice (some ⟨g + 1 + 1, 0, none⟩) 2 2] 26)).alloc (.cells #[.bool true, .bool false] 4)) :
    DfaOwn w w6 (.agg #[.int .i64 2, .int .i64 0, .slice (some ⟨g + 1 + 1 + 1, 0, none⟩) 2 2, .slice (some ⟨g + 1 + 1 + 1 + 1, 0, none⟩) 2 2]) evenA ∧
      w6.cell? ⟨g, 0, none⟩ = some (.int .i64 2) ∧ w6.cell? ⟨g, 1, none⟩ = some (.int .i64 0) ∧ w6.cell? ⟨g, 2, none⟩ = some (.slice (some ⟨g + 1 + 1 + 1, 0, none⟩) 2 2) ∧ w6.cell? ⟨g, 3, none⟩ = some (.slice (some ⟨g + 1 + 1 + 1 + 1, 0, none⟩) 2 2) := by
  have h0 := (own_start w).dfa (.int .i64 2) (.int .i64 0) (.slice (some ⟨g + 1 + 1 + 1, 0, none⟩) 2 2) (.slice (some ⟨g + 1 + 1 + 1 + 1, 0, none⟩) 2 2)
  have h1 := h0.lit 3 1 2 #[.int .i64 1, .int .i64 0] rfl (by simp [maxLen])
  have h2 := h1.lit 3 1 2 #[.int .i64 0, .int .i64 1] rfl (by simp [maxLen])
  have h3 := h2.lit 26 1 2 #[.slice (some ⟨g + 1, 0, none⟩) 2 2, .slice (some ⟨g + 1 + 1, 0, none⟩) 2 2] rfl (by simp [maxLen])
  have h4 := h3.lit 4 1 2 #[.bool true, .bool false] rfl (by simp [maxLen])
  simp only [size_al] at h4
  rw [← hg] at h4
  have h5 := h4.five
  subst hw
  refine ⟨⟨_, _, [(.slice (some ⟨g + 1, 0, none⟩) 2 2, [1, 0]), (.slice (some ⟨g + 1 + 1, 0, none⟩) 2 2, [0, 1])], rfl, rfl, h5.tail.fin.fin.fin.fin.weak (fun e he => ?_), ?_, ⟨by decide, by decide⟩, ⟨by decide, by decide⟩⟩,
    (h5.dcell (g := g) (l := [.int .i64 2, .int .i64 0, .slice (some ⟨g + 1 + 1 + 1, 0, none⟩) 2 2, .slice (some ⟨g + 1 + 1 + 1 + 1, 0, none⟩) 2 2]) (by simp) rfl).1, (h5.dcell (g := g) (l := [.int .i64 2, .int .i64 0, .slice (some ⟨g + 1 + 1 + 1, 0, none⟩) 2 2, .slice (some ⟨g + 1 + 1 + 1 + 1, 0, none⟩) 2 2]) (by simp) rfl).1,
    (h5.dcell (g := g) (l := [.int .i64 2, .int .i64 0, .slice (some ⟨g + 1 + 1 + 1, 0, none⟩) 2 2, .slice (some ⟨g + 1 + 1 + 1 + 1, 0, none⟩) 2 2]) (by simp) rfl).1, (h5.dcell (g := g) (l := [.int .i64 2, .int .i64 0, .slice (some ⟨g + 1 + 1 + 1, 0, none⟩) 2 2, .slice (some ⟨g + 1 + 1 + 1 + 1, 0, none⟩) 2 2]) (by simp) rfl).1⟩
  · simp only [eEach, List.map_cons, List.map_nil, List.mem_cons, List.not_mem_nil, or_false] at he ⊢
    rcases he with rfl | rfl | rfl | rfl
    · exact .inr (.inr (.inl rfl))
    · exact .inr (.inr (.inr rfl))
    · exact .inl rfl
    · exact .inr (.inl rfl)
  · intro p hp x hx
    simp only [List.mem_cons, List.not_mem_nil, or_false] at hp
    rcases hp with rfl | rfl
    all_goals
      simp only [List.mem_cons, List.not_mem_nil, or_false] at hx
      rcases hx with rfl | rfl <;> exact ⟨by decide, by decide⟩
/-- A row of ints laid into a block of its own. -/
theorem lit_ints (w : World) (l : List Int) (hs : ∀ x ∈ l, Small x) (hl : l.length ≤ 1024) : IntsAt (w.alloc (.cells (l.map i64).toArray 3)) (w.alloc (.cells (l.map i64).toArray 3)).heap.size (some ⟨w.heap.size, 0, none⟩) l := by
  have h := (own_start w).lit 3 1 l.length (l.map i64).toArray (by simp) (by unfold maxLen; omega)
  exact ⟨by simpa using h.cells (t := 3) (sz := 1) (n := l.length) (cap := l.length) (A := some ⟨w.heap.size, 0, none⟩) (xs := l.map i64) (by simp), hs⟩
end Go.Proofs.Ytbciefeipiphiaa.Df
