/- The walk of the document's answer for the values at the beginning: At. -/
import Derived.Test.YtdkbdoogjehkfaaDoorRefTab
namespace Go.Proofs.YtdkbdoogjehkfaaDoor.Fm
open Go.RowKit Go.IntWalk Go.Proofs.YtdkbdoogjehkfaaDoor.Wd Go.Proofs.YtdkbdoogjehkfaaDoor.Wo

theorem to_at {w0 w' : World} {N k cap : Nat} {A : Option Addr} {M : Nat → Nat → Bool} (h : TO w0 w' N (.slice A k cap) k M) (hN : 0 < N) (wr : World) (hb : Below w'.heap.size w' wr) {i : Nat} (hi : i < k) :
    ∃ ad g, A = some ad ∧ ad.block < wr.heap.size ∧ wr.cell? (ad.add i) = some (.slice (some ⟨g, 0, none⟩) N N) ∧ g < wr.heap.size ∧ (∀ q, q < N → wr.cell? ⟨g, q, none⟩ = some (.bool (M i q))) := by
  obtain ⟨rs, hT, hl, hM⟩ := h
  subst hl
  have hT := (Rc.ownT_tab hN hT).on hb
  obtain ⟨r, hr⟩ : ∃ r, rs[i]? = some r := ⟨_, List.getElem?_eq_getElem hi⟩
  obtain ⟨_, ⟨ad, e, h2, h3⟩, h4, h5⟩ := hT i r hr
  exact ⟨ad, r.1, e, h2, h3, h4, fun q hq => h5 q _ (by rw [hM i r hr]; exact Rc.bF_get _ hq)⟩
theorem TO.below {w0 w' : World} {N k : Nat} {tv : Value} {M : Nat → Nat → Bool} (h : TO w0 w' N tv k M) : Below w0.heap.size w0 w' := by
  obtain ⟨rs, hT, _⟩ := h
  exact hT.1.below
end Go.Proofs.YtdkbdoogjehkfaaDoor.Fm
