/- What laws about meanings ask: formulas with more nodes behind, the contracts of Holds by their two ways. -/
import Derived.Test.YtdkbdoogjehkfaaDoorMore
namespace Go.Proofs.YtdkbdoogjehkfaaDoor.Fm
open Go.RowKit Go.IntWalk Go.Proofs.YtdkbdoogjehkfaaDoor.Wd Go.Proofs.YtdkbdoogjehkfaaDoor.Wo

/-! ### one node more -/
theorem more_good {L : Int} {f : List Nd} (g : FGood L f) (h : f.length < 40) {n : Nd} (hn : NdGood L f.length n) : FGood L (f ++ [n]) := by
  refine ⟨g.l1, g.l6, by simp, by simp; omega, fun j m hm => ?_⟩
  by_cases hj : j < f.length
  · rw [List.getElem?_append_left hj] at hm; exact g.nd j m hm
  · have h2 := (List.getElem?_eq_some_iff.1 hm).1
    rw [List.length_append, List.length_singleton] at h2
    obtain rfl : j = f.length := by omega
    rw [List.getElem?_append_right (Nat.le_refl _), Nat.sub_self] at hm
    simp at hm; subst hm; exact hn
theorem un_good {L : Int} {k : Int} (hk : k = 3 ∨ k = 6 ∨ k = 7) {i : Nat} {a : Int} (ha : 0 ≤ a ∧ a < (i : Int)) : NdGood L i (k, a, 0) := by
  have ho : ops k = 1 := by rcases hk with rfl | rfl | rfl <;> rfl
  refine ⟨show 0 ≤ k by omega, show k ≤ 9 by omega, fun h => ?_, fun _ h => ?_, fun _ => ha, fun _ => rfl, fun h => ?_⟩
  · have : k = 2 := h
    omega
  · have : ops k = 0 := h
    omega
  · have : ops k = 2 := h
    omega
theorem bin_good {L : Int} {k : Int} (hk : k = 4 ∨ k = 5 ∨ k = 8 ∨ k = 9) {i : Nat} {a b : Int} (ha : 0 ≤ a ∧ a < (i : Int)) (hb : 0 ≤ b ∧ b < (i : Int)) : NdGood L i (k, a, b) := by
  have ho : ops k = 2 := by rcases hk with rfl | rfl | rfl | rfl <;> rfl
  refine ⟨show 0 ≤ k by omega, show k ≤ 9 by omega, fun h => ?_, fun _ h => ?_, fun _ => ha, fun h => absurd ho h, fun _ => hb⟩
  · have : k = 2 := h
    omega
  · have : ops k = 0 := h
    omega
theorem vat_more {f g : List Nd} {z : List Int} {i p : Nat} (h : i < f.length) : vat (f ++ g) z i p = vat f z i p := by unfold vat; rw [tre_more f g h]
theorem fval_root (f : List Nd) (z : List Int) : fval f z = val1 z (root f) 0 := rfl
theorem root_un {L : Int} {f : List Nd} (g : FGood L f) (h : f.length < 40) {k : Int} (hk : k = 3 ∨ k = 6 ∨ k = 7) : FGood L (f ++ [(k, (f.length : Int) - 1, 0)]) ∧ root (f ++ [(k, (f.length : Int) - 1, 0)]) = .un k.toNat (root f) := by
  have h0 := g.ne
  have g2 := more_good g h (n := (k, (f.length : Int) - 1, 0)) (un_good hk (i := f.length) ⟨by omega, by omega⟩)
  refine ⟨g2, ?_⟩
  have hl : (f ++ [(k, (f.length : Int) - 1, (0 : Int))]).length - 1 = f.length := by simp
  show tre _ ((f ++ [(k, (f.length : Int) - 1, (0 : Int))]).length - 1) = _
  rw [hl, tre_un g2.nd (i := f.length) (k := k) (a := (f.length : Int) - 1) (by rw [List.getElem?_append_right (Nat.le_refl _), Nat.sub_self]; rfl) hk, show ((f.length : Int) - 1).toNat = f.length - 1 by omega, tre_more _ _ (by omega)]
  rfl
theorem many_bad {L : Int} {f : List Nd} (g : FGood L f) (h : ¬ f.length < 40) (n : Nd) : fchk L (f ++ [n]) = 4 :=
  fchk_many (by have := g.l1; have := g.l6; omega) (by simp; omega)
theorem next_none {L : Int} {f : List Nd} (g : FGood L f) (h : f.length < 40) : fval (f ++ [(6, (f.length : Int) - 1, 0)]) [] = false := by rw [fval_root, (root_un g h (.inr (.inl rfl))).2]; rfl
theorem weak_none {L : Int} {f : List Nd} (g : FGood L f) (h : f.length < 40) : fval (f ++ [(7, (f.length : Int) - 1, 0)]) [] = true := by rw [fval_root, (root_un g h (.inr (.inr rfl))).2]; rfl
theorem next_some {L : Int} {f : List Nd} (g : FGood L f) (h : f.length < 40) (a : Int) (z : List Int) : fval (f ++ [(6, (f.length : Int) - 1, 0)]) (a :: z) = fval f z := by
  rw [fval_root, (root_un g h (.inr (.inl rfl))).2]
  show (decide (0 < (a :: z).length) && val1 (a :: z) (root f) (0 + 1)) = _
  rw [val_shift]; simp [fval_root]
theorem weak_some {L : Int} {f : List Nd} (g : FGood L f) (h : f.length < 40) (a : Int) (z : List Int) : fval (f ++ [(7, (f.length : Int) - 1, 0)]) (a :: z) = fval f z := by
  rw [fval_root, (root_un g h (.inr (.inr rfl))).2]
  show (decide ((a :: z).length ≤ 0) || val1 (a :: z) (root f) (0 + 1)) = _
  rw [val_shift]; simp [fval_root]
theorem not_some {L : Int} {f : List Nd} (g : FGood L f) (h : f.length < 40) (z : List Int) : fval (f ++ [(3, (f.length : Int) - 1, 0)]) z = !fval f z := by
  rw [fval_root, (root_un g h (.inl rfl)).2]; rfl

/-! ### contracts -/
theorem nds_small {L : Int} {f : List Nd} (g : FGood L f) : ∀ m ∈ f, NdSmall m := by
  intro m hm
  obtain ⟨i, hi⟩ := List.getElem?_of_mem hm
  have := (List.getElem?_eq_some_iff.1 hi).1
  exact good_small g.l6 (by have := g.le; omega) (g.nd i m hi)
theorem small_nd {k a b : Int} (hk : 0 ≤ k ∧ k ≤ 11) (ha : -1000 ≤ a ∧ a ≤ 5864062014805) (hb : -1000 ≤ b ∧ b ≤ 5864062014805) : NdSmall (k, a, b) :=
  ⟨⟨by show _ ≤ k; omega, by show k ≤ _; omega⟩, ⟨by show _ ≤ a; omega, by show a ≤ _; omega⟩, ⟨by show _ ≤ b; omega, by show b ≤ _; omega⟩⟩
/-- Holds, for a law: the whole formula's value, or an error. -/
theorem holds_is {L : Int} (hL : Small L) {f : List Nd} (hf : f.length ≤ 9223372036854775807) {z : List Int} (hz : z.length ≤ 17592186044416) {n M : Nat} (hn : f.length = n) (hM : z.length = M) {b : Bool} {E : Value}
    (h : (verr L f z = 0 ∧ b = fval f z ∧ E = .nilIface) ∨ (verr L f z ≠ 0 ∧ b = false ∧ E = errV (verr L f z))) (A : Option Addr) (c : Nat) (B : Option Addr) (cb : Nat) (W : World) (hA : NodesAt W W.heap.size A f) (hB : IntsAt W W.heap.size B z) :
    Calls Tryd.prog 30 #[.int .i64 L, .slice A n c, .slice B M cb] W fun e w' => e = .returned (.tuple #[.bool b, E]) ∧ Below W.heap.size W w' := by
  subst hn hM
  rcases h with ⟨h1, rfl, rfl⟩ | ⟨h1, rfl, rfl⟩
  · obtain ⟨g, hw⟩ := verr_iff.1 h1
    exact holds_ok L A c f B cb z W hL hA hB g hw
  · exact holds_bad L A c f B cb z W hL hA hf hB hz h1
theorem verr_four {L : Int} {f : List Nd} {z : List Int} (h : fchk L f = 4) : verr L f z = 4 := by unfold verr; rw [if_neg (by omega), h]
theorem fine_nil {L : Int} {f : List Nd} (g : FGood L f) : Fine L [] := ⟨⟨g.l1, g.l6⟩, by simp, fun a h => by simp at h⟩
/-- Values, for a law. -/
theorem values_yes {L : Int} (hL : Small L) {f : List Nd} {z : List Int} {n M : Nat} (hn : f.length = n) (hM : z.length = M) (h : verr L f z = 0) (A : Option Addr) (c : Nat) (B : Option Addr) (cb : Nat) (W : World) (hA : NodesAt W W.heap.size A f) (hB : IntsAt W W.heap.size B z) :
    Calls Tryd.prog 44 #[.int .i64 L, .slice A n c, .slice B M cb] W fun e w' => Hid (∃ g, e = .returned (.tuple #[.slice (some ⟨g, 0, none⟩) n n, .nilIface]) ∧ Own W w' [eBools (.slice (some ⟨g, 0, none⟩) n n) (vec f z)] []) := by
  subst hn hM
  obtain ⟨g, hw⟩ := verr_iff.1 h
  refine (values_ok L A c f B cb z W hL hA hB g hw).mono fun e w' he => ?_
  obtain ⟨v, rfl, g2, rfl, ho⟩ := he.out
  rw [vec_length] at ho ⊢
  exact ⟨g2, rfl, ho⟩
theorem values_no {L : Int} (hL : Small L) {f : List Nd} (hf : f.length ≤ 9223372036854775807) {z : List Int} (hz : z.length ≤ 17592186044416) {n M : Nat} (hn : f.length = n) (hM : z.length = M) (h : verr L f z ≠ 0) (A : Option Addr) (c : Nat) (B : Option Addr) (cb : Nat) (W : World) (hA : NodesAt W W.heap.size A f) (hB : IntsAt W W.heap.size B z) :
    Calls Tryd.prog 44 #[.int .i64 L, .slice A n c, .slice B M cb] W fun e w' => e = .returned (.tuple #[.slice none 0 0, errV (verr L f z)]) ∧ Below W.heap.size W w' := by
  subst hn hM
  exact values_bad L A c f B cb z W hL hA hf hB hz h
/-- A row's cell, by the letter of its length. -/
theorem row_cell {w w' : World} {g n : Nat} {l : List Bool} (h : Own w w' [eBools (.slice (some ⟨g, 0, none⟩) n n) l] []) (hl : l.length = n) {i : Nat} {b : Bool} (hb : l[i]? = some b) : w'.cell? ⟨g, i, none⟩ = some (.bool b) :=
  (Rc.own_bools_cell (g := g) (n := n) (cap := n) (l := l) h (by simp) hl hb).1
/-- Other nodes behind. -/
theorem swap_good {L : Int} {f ns ms : List Nd} (h : FGood L (f ++ ns)) (hl : ns.length = ms.length) (hm : ∀ j n, ms[j]? = some n → NdGood L (f.length + j) n) : FGood L (f ++ ms) := by
  have h1 := h.ne
  have h2 := h.le
  rw [List.length_append] at h1 h2
  refine ⟨h.l1, h.l6, by rw [List.length_append]; omega, by rw [List.length_append]; omega, fun j n hj => ?_⟩
  by_cases hlt : j < f.length
  · rw [List.getElem?_append_left hlt] at hj
    exact h.nd j n (by rw [List.getElem?_append_left hlt]; exact hj)
  · rw [List.getElem?_append_right (by omega)] at hj
    have := hm _ n hj
    rwa [show f.length + (j - f.length) = j by omega] at this
end Go.Proofs.YtdkbdoogjehkfaaDoor.Fm
