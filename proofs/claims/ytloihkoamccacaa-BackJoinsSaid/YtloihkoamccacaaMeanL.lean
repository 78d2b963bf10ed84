/- What laws about meanings ask: formulas with more nodes behind, the contracts of Holds by their two ways. -/
import Derived.Test.YtloihkoamccacaaMore
namespace Go.Proofs.Ytloihkoamccacaa.Fm
open Go.RowKit Go.IntWalk Go.Proofs.Ytloihkoamccacaa.Wd Go.Proofs.Ytloihkoamccacaa.Wo

/-! ### one node more -/
theorem more_good {L : Int} {f : List Nd} (g : FGood L f) (h : f.length < 40) {n : Nd} (hn : NdGood L f.length n) : FGood L (f ++ [n]) := by
  refine ⟨g.l1, g.l6, by simp, by simp; omega, fun j m hm => ?_⟩
  by_cases hj : j < f.length
  · rw [List.getElem?_append_left hj] at hm; exact g.nd j m hm
  · have h2 := (List.getElem?_eq_some_iff.1 hm).1
    rw [List.length_append, List.length_singleton] at h2
    obtain rfl : j = f.length := by omega
    rw [List.getElem?_append_right (Nat.le_refl _), Nat.sub_self] at hm
    simp at hm; subst hm; exact hn
theorem un_good {L : Int} {k : Int} (hk : k = 3 ∨ k = 6 ∨ k = 7) {i : Nat} {a : Int} (ha : 0 ≤ a ∧ a < (i : Int)) : NdGood L i (k, a, 0) := by
  have ho : ops k = 1 := by rcases hk with rfl | rfl | rfl <;> rfl
  refine ⟨show 0 ≤ k by omega, show k ≤ 9 by omega, fun h => ?_, fun _ h => ?_, fun _ => ha, fun _ => rfl, fun h => ?_⟩
  · have : k = 2 := h
    omega
  · have : ops k = 0 := h
    omega
  · have : ops k = 2 := h
    omega
theorem bin_good {L : Int} {k : Int} (hk : k = 4 ∨ k = 5 ∨ k = 8 ∨ k = 9) {i : Nat} {a b : Int} (ha : 0 ≤ a ∧ a < (i : Int)) (hb : 0 ≤ b ∧ b < (i : Int)) : NdGood L i (k, a, b) := by
  have ho : ops k = 2 := by rcases hk with rfl | rfl | rfl | rfl <;> rfl
  refine ⟨show 0 ≤ k by omega, show k ≤ 9 by omega, fun h => ?_, fun _ h => ?_, fun _ => ha, fun h => absurd ho h, fun _ => hb⟩
  · have : k = 2 := h
    omega
  · have : ops k = 0 := h
    omega
theorem vat_more {f g : List Nd} {z : List Int} {i p : Nat} (h : i < f.length) : vat (f ++ g) z i p = vat f z i p := by unfold vat; rw [tre_more f g h]
theorem fval_root (f : List Nd) (z : List Int) : fval f z = val1 z (root f) 0 := rfl
theorem root_un {L : Int} {f : List Nd} (g : FGood L f) (h : f.length < 40) {k : Int} (hk : k = 3 ∨ k = 6 ∨ k = 7) : FGood L (f ++ [(k, (f.length : Int) - 1, 0)]) ∧ root (f ++ [(k, (f.length : Int) - 1, 0)]) = .un k.toNat (root f) := by
  have h0 := g.ne
  have g2 := more_good g h (n := (k, (f.length : Int) - 1, 0)) (un_good hk (i := f.length) ⟨by omega, by omega⟩)
  refine ⟨g2, ?_⟩
  have hl : (f ++ [(k, (f.length : Int) - 1, (0 : Int))]).length - 1 = f.length := by simp
  show tre _ ((f ++ [(k, (f.length : Int) - 1, (0 : Int))]).length - 1) = _
  rw [hl, tre_un g2.nd (i := f.length) (k := k) (a := (f.length : Int) - 1) (by rw [List.getElem?_append_right (Nat.le_refl _), Nat.sub_self]; rfl) hk, show ((f.length : Int) - 1).toNat = f.length - 1 by omega, tre_more _ _ (by omega)]
  rfl
theorem many_bad {L : Int} {f : List Nd} (g : FGood L f) (h : ¬ f.length < 40) (n : Nd) : fchk L (f ++ [n]) = 4 :=
  fchk_many (by have := g.l1; have := g.l6; omega) (by simp; omega)
theorem next_none {L : Int} {f : List Nd} (g : FGood L f) (h : f.length < 40) : fval (f ++ [(6, (f.length : Int) - 1, 0)]) [] = false := by rw [fval_root, (root_un g h (.inr (.inl rfl))).2]; rfl
theorem weak_none {L : Int} {f : List Nd} (g : FGood L f) (h : f.length < 40) : fval (f ++ [(7, (f.length : Int) - 1, 0)]) [] = true := by rw [fval_root, (root_un g h (.inr (.inr rfl))).2]; rfl
theorem next_some {L : Int} {f : List Nd} (g : FGood L f) (h : f.length < 40) (a : Int) (z : List Int) : fval (f ++ [(6, (f.length : Int) - 1, 0)]) (a :: z) = fval f z := by
  rw [fval_root, (root_un g h (.inr (.inl rfl))).2]
  show (decide (0 < (a :: z).length) && val1 (a :: z) (root f) (0 + 1)) = _
  rw [val_shift]; simp [fval_root]
theorem weak_some {L : Int} {f : List Nd} (g : FGood L f) (h : f.length < 40) (a : Int) (z : List Int) : fval (f ++ [(7, (f.length : Int) - 1, 0)]) (a :: z) = fval f z := by
  rw [fval_root, (root_un g h (.inr (.inr rfl))).2]
  show (decide ((a :: z).length ≤ 0) || val1 (a :: z) (root f) (0 + 1)) = _
  rw [val_shift]; simp [fval_root]
theorem not_some {L : Int} {f : List Nd} (g : FGood L f) (h : f.length < 40) (z : List Int) : fval (f ++ [(3, (f.length : Int) - 1, 0)]) z = !fval f z := by
  rw [fval_root, (root_un g h (.inl rfl)).2]; rfl

/-! ### contracts -/
theorem nds_small {L : Int} {f : List Nd} (g : FGood L f) : ∀ m ∈ f, NdSmall m := by
  intro m hm
  obtain ⟨i, hi⟩ := List.getElem?_of_mem hm
  have := (List.getElem?_eq_some_iff.1 hi).1
  exact good_small g.l6 (by have := g.le; omega) (g.nd i m hi)
theorem small_nd {k a b : Int} (hk : 0 ≤ k ∧ k ≤ 11) (ha : -1000 ≤ a ∧ a ≤ 5864062014805) (hb : -1000 ≤ b ∧ b ≤ 5864062014805) : NdSmall (k, a, b) :=
  ⟨⟨by show _ ≤ k; omega, by show k ≤ _; omega⟩, ⟨by show _ ≤ a; omega, by show a ≤ _; omega⟩, ⟨by show _ ≤ b; omega, by show b ≤ _; omega⟩⟩
/-- 'more(f, x)' of one node that is a literal. -/
theorem more_one {f : List Nd} (hf : 0 < f.length) (hb : f.length < 5864062014805) {n : Nat} (hn : f.length = n) (hs : ∀ m ∈ f, NdSmall m) (k a b : Int) (hm : NdSmall (k, a, b)) (A : Option Addr) (c : Nat) (W : World) (hA : NodesAt W W.heap.size A f) :
    Calls Try.prog 21 #[.slice A n c, .slice (some ⟨W.heap.size, 0, none⟩) 1 1] (W.alloc (.cells #[.int .i64 k, .int .i64 a, .int .i64 b] 44)) fun e w' =>
      Hid (∃ A' c', e = .returned (.slice A' (n + 1) c') ∧ Hid (NodesAt w' w'.heap.size A' (f ++ [(k, a, b)]))) ∧ Below W.heap.size W w' := by
  subst hn
  have hb1 := bel_alloc W (.cells #[.int .i64 k, .int .i64 a, .int .i64 b] 44)
  refine (more_any A c f _ 1 [(k, a, b)] _ (hA.on hb1) (lit_one W (k, a, b) 44 hm) hf (by simp) (by simp; omega)).mono fun e w' he => ?_
  obtain ⟨v, rfl, ho⟩ := he.out
  obtain ⟨A', c', rfl, _, _, h3⟩ := more_at ho (fun m hm' => by
    rcases List.mem_append.1 hm' with h | h
    · exact hs m h
    · simp at h; rw [h]; exact hm)
  exact ⟨⟨A', c', by rw [List.length_append]; rfl, h3⟩, hb1.trans (ho.below.mono hb1.size)⟩
theorem verr_four {L : Int} {f : List Nd} {z : List Int} (h : fchk L f = 4) : verr L f z = 4 := by unfold verr; rw [if_neg (by omega), h]
theorem fine_nil {L : Int} {f : List Nd} (g : FGood L f) : Fine L [] := ⟨⟨g.l1, g.l6⟩, by simp, fun a h => by simp at h⟩
/-- A row's cell, by the letter of its length. -/
theorem row_cell {w w' : World} {g n : Nat} {l : List Bool} (h : Own w w' [eBools (.slice (some ⟨g, 0, none⟩) n n) l] []) (hl : l.length = n) {i : Nat} {b : Bool} (hb : l[i]? = some b) : w'.cell? ⟨g, i, none⟩ = some (.bool b) :=
  (Rc.own_bools_cell (g := g) (n := n) (cap := n) (l := l) h (by simp) hl hb).1
/-- 'more(f, x...)' of nodes that are a literal. -/
theorem more_lit {f : List Nd} (hf : 0 < f.length) {n k : Nat} (ms : List Nd) (hk : ms.length = k) (hk0 : 0 < k) (hb : f.length + k ≤ 5864062014805) (hn : f.length = n) (hs : ∀ m ∈ f, NdSmall m) (hm : ∀ m ∈ ms, NdSmall m) (cs : Array Value) (hc : cs.toList = ncells ms) (A : Option Addr) (c : Nat) (W : World) (hA : NodesAt W W.heap.size A f) :
    Calls Try.prog 21 #[.slice A n c, .slice (some ⟨W.heap.size, 0, none⟩) k k] (W.alloc (.cells cs 44)) fun e w' =>
      Hid (∃ A' c', e = .returned (.slice A' (n + k) c') ∧ Hid (NodesAt w' w'.heap.size A' (f ++ ms))) ∧ Below W.heap.size W w' := by
  subst hn hk
  have hb1 := bel_alloc W (.cells cs 44)
  refine (more_any A c f _ ms.length ms _ (hA.on hb1) (lit_nodes W ms 44 hm cs hc) hf hk0 hb).mono fun e w' he => ?_
  obtain ⟨v, rfl, ho⟩ := he.out
  obtain ⟨A', c', rfl, _, _, h3⟩ := more_at ho (fun m hm' => by
    rcases List.mem_append.1 hm' with h | h
    · exact hs m h
    · exact hm m h)
  exact ⟨⟨A', c', by rw [List.length_append], h3⟩, hb1.trans (ho.below.mono hb1.size)⟩
/-- Other nodes behind. -/
theorem swap_good {L : Int} {f ns ms : List Nd} (h : FGood L (f ++ ns)) (hl : ns.length = ms.length) (hm : ∀ j n, ms[j]? = some n → NdGood L (f.length + j) n) : FGood L (f ++ ms) := by
  have h1 := h.ne
  have h2 := h.le
  rw [List.length_append] at h1 h2
  refine ⟨h.l1, h.l6, by rw [List.length_append]; omega, by rw [List.length_append]; omega, fun j n hj => ?_⟩
  by_cases hlt : j < f.length
  · rw [List.getElem?_append_left hlt] at hj
    exact h.nd j n (by rw [List.getElem?_append_left hlt]; exact hj)
  · rw [List.getElem?_append_right (by omega)] at hj
    have := hm _ n hj
    rwa [show f.length + (j - f.length) = j by omega] at this
end Go.Proofs.Ytloihkoamccacaa.Fm
