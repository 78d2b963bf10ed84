/- Plain mathematics of formulas that look back: what they say of a word is what their mirrors say of the word's mirror. -/
import Derived.Test.YtdkbdoogjehkfaaDoorFormM
namespace Go.Proofs.YtdkbdoogjehkfaaDoor.Fm

/-- What a kind becomes in the mirror; -1 where it looks back nowhere. -/
def mrk (k : Int) : Int := if k = 10 then 6 else if k = 11 then 8 else if 6 ≤ k ∧ k ≤ 9 then -1 else k
def mrN (n : Nd) : Nd := (mrk n.1, n.2.1, n.2.2)
def mrF (f : List Nd) : List Nd := f.map mrN
theorem mrF_length (f : List Nd) : (mrF f).length = f.length := by simp [mrF]
theorem mrF_at {f : List Nd} {i : Nat} {n : Nd} (h : f[i]? = some n) : (mrF f)[i]? = some (mrN n) := by simp [mrF, h]
theorem mrF_snoc {f : List Nd} {i : Nat} {n : Nd} (h : f[i]? = some n) : (mrF f).take (i + 1) = (mrF f).take i ++ [mrN n] := by
  have hk := (List.getElem?_eq_some_iff.1 (mrF_at h)).1
  rw [← List.take_append_getElem hk, (List.getElem?_eq_some_iff.1 (mrF_at h)).2]
theorem fchk_cut (L : Int) (f : List Nd) : fchk L (f.take 41) = fchk L f := by
  by_cases h : f.length ≤ 41
  · rw [List.take_of_length_le h]
  · unfold fchk
    have : (f.take 41).length = 41 := by rw [List.length_take]; omega
    rw [this, if_neg (show ¬ (41 : Nat) = 0 by decide), if_pos (show (40 : Nat) < 41 by decide), if_neg (show ¬ f.length = 0 by omega), if_pos (show 40 < f.length by omega)]
theorem mrk_two {k : Int} : mrk k = 2 ↔ k = 2 := by unfold mrk; split <;> (try split) <;> (try split) <;> omega
/-- The kinds of a formula that looks back. -/
theorem past_kinds {L : Int} {i : Nat} {n : Nd} (g : NdGood L i (mrN n)) : n.1 = 0 ∨ n.1 = 1 ∨ n.1 = 2 ∨ n.1 = 3 ∨ n.1 = 4 ∨ n.1 = 5 ∨ n.1 = 10 ∨ n.1 = 11 := by
  have h0 : 0 ≤ mrk n.1 := g.k0
  have h9 : mrk n.1 ≤ 9 := g.k9
  unfold mrk at h0 h9
  split at h0 <;> (try split at h0) <;> (try split at h0) <;> simp_all <;> omega

/-! ### what is said of the first letters of a word -/
def snc (A B : Nat → Bool) : Nat → Bool
  | 0 => false
  | q + 1 => B (q + 1) || (A (q + 1) && snc A B q)
/-- A node's value for the first letters of a word, out of those of the nodes ahead of it. -/
def patN (n : Nd) (z : List Int) (M : Nat → Nat → Bool) (p : Nat) : Bool :=
  if n.1 = 0 then true
  else if n.1 = 2 then decide (0 < p) && n.2.1.toNat.testBit (z.getD (p - 1) 0).toNat
  else if n.1 = 3 then !M n.2.1.toNat p
  else if n.1 = 4 then M n.2.1.toNat p && M n.2.2.toNat p
  else if n.1 = 5 then M n.2.1.toNat p || M n.2.2.toNat p
  else if n.1 = 10 then decide (0 < p) && M n.2.1.toNat (p - 1)
  else if n.1 = 11 then snc (M n.2.1.toNat) (M n.2.2.toNat) p
  else false
def pat (f : List Nd) (z : List Int) (i p : Nat) : Bool := vat (mrF f) (z.take p).reverse i 0
theorem take_rev {z : List Int} {p : Nat} (h : p < z.length) : (z.take (p + 1)).reverse = z.getD p 0 :: (z.take p).reverse := by
  rw [← List.take_append_getElem h, List.reverse_append, List.getD_eq_getElem?_getD, List.getElem?_eq_getElem h]; rfl
theorem pat_next {L : Int} {f : List Nd} (hg : ∀ j n, (mrF f)[j]? = some n → NdGood L j n) {k : Nat} {n : Nd} (hn : f[k]? = some n) {z : List Int} {p : Nat} (hp : p < z.length) :
    pat f z k (p + 1) = nodeK (mrN n) (z.getD p 0) k (vec (mrF f) (z.take (p + 1)).reverse) (vec (mrF f) (z.take p).reverse) := by
  unfold pat
  rw [take_rev hp]
  refine (nodeK_ok hg _ _ (mrF_at hn) fun i hi => ?_).symm
  exact vec_get _ _ (by rw [mrF_length]; have := (List.getElem?_eq_some_iff.1 hn).1; omega)
theorem pat_none {L : Int} {f : List Nd} (hg : ∀ j n, (mrF f)[j]? = some n → NdGood L j n) {k : Nat} {n : Nd} (hn : f[k]? = some n) (z : List Int) :
    pat f z k 0 = nodeE (mrN n) (vec (mrF f) []) := by
  unfold pat
  rw [List.take_zero, List.reverse_nil]
  refine (nodeE_ok hg (mrF_at hn) fun i hi => ?_).symm
  exact vec_get _ _ (by rw [mrF_length]; have := (List.getElem?_eq_some_iff.1 hn).1; omega)
theorem pat_tab {L : Int} {f : List Nd} (hg : ∀ j n, (mrF f)[j]? = some n → NdGood L j n) {k : Nat} {n : Nd} (hn : f[k]? = some n) (z : List Int) : ∀ p, p ≤ z.length → pat f z k p = patN n z (pat f z) p := by
  have hk := (List.getElem?_eq_some_iff.1 hn).1
  have gd := hg k _ (mrF_at hn)
  have hV : ∀ p (x : Int), 0 ≤ x → x < (k : Int) → (vec (mrF f) (z.take p).reverse).getD x.toNat false = pat f z x.toNat p := fun p x h0 h1 => vec_get _ _ (by rw [mrF_length]; omega)
  have hW : ∀ p, (vec (mrF f) (z.take p).reverse).getD k false = pat f z k p := fun p => vec_get _ _ (by rw [mrF_length]; exact hk)
  have hV0 : ∀ (x : Int), 0 ≤ x → x < (k : Int) → (vec (mrF f) []).getD x.toNat false = pat f z x.toNat 0 := fun x h0 h1 => hV 0 x h0 h1
  have h1 := fun p (hp : p < z.length) => pat_next hg hn hp
  have h0 := pat_none hg hn z
  have hkd := past_kinds gd
  obtain ⟨kd, x, y⟩ := n
  simp only at hkd
  have ha : ops (mrk kd) = 1 ∨ ops (mrk kd) = 2 → 0 ≤ x ∧ x < (k : Int) := fun h => gd.a1 (by show 1 ≤ ops (mrk kd); omega)
  have hb : ops (mrk kd) = 2 → 0 ≤ y ∧ y < (k : Int) := gd.b2
  rcases hkd with rfl | rfl | rfl | rfl | rfl | rfl | rfl | rfl
  · intro p hp
    rcases p with _ | p
    · rw [h0]; rfl
    · rw [h1 p hp]; rfl
  · intro p hp
    rcases p with _ | p
    · rw [h0]; rfl
    · rw [h1 p hp]; rfl
  · intro p hp
    rcases p with _ | p
    · rw [h0]; rfl
    · rw [h1 p hp]
      show x.toNat.testBit _ = (decide (0 < p + 1) && x.toNat.testBit _)
      simp
  · have h := ha (.inl rfl)
    intro p hp
    rcases p with _ | p
    · rw [h0]
      show (!(vec (mrF f) []).getD x.toNat false) = !pat f z x.toNat 0
      rw [hV0 x h.1 h.2]
    · rw [h1 p hp]
      show (!(vec (mrF f) _).getD x.toNat false) = !pat f z x.toNat (p + 1)
      rw [hV _ x h.1 h.2]
  · have h := ha (.inr rfl)
    have h2 := hb rfl
    intro p hp
    rcases p with _ | p
    · rw [h0]
      show ((vec (mrF f) []).getD x.toNat false && (vec (mrF f) []).getD y.toNat false) = (pat f z x.toNat 0 && pat f z y.toNat 0)
      rw [hV0 x h.1 h.2, hV0 y h2.1 h2.2]
    · rw [h1 p hp]
      show ((vec (mrF f) _).getD x.toNat false && (vec (mrF f) _).getD y.toNat false) = (pat f z x.toNat (p + 1) && pat f z y.toNat (p + 1))
      rw [hV _ x h.1 h.2, hV _ y h2.1 h2.2]
  · have h := ha (.inr rfl)
    have h2 := hb rfl
    intro p hp
    rcases p with _ | p
    · rw [h0]
      show ((vec (mrF f) []).getD x.toNat false || (vec (mrF f) []).getD y.toNat false) = (pat f z x.toNat 0 || pat f z y.toNat 0)
      rw [hV0 x h.1 h.2, hV0 y h2.1 h2.2]
    · rw [h1 p hp]
      show ((vec (mrF f) _).getD x.toNat false || (vec (mrF f) _).getD y.toNat false) = (pat f z x.toNat (p + 1) || pat f z y.toNat (p + 1))
      rw [hV _ x h.1 h.2, hV _ y h2.1 h2.2]
  · have h := ha (.inl rfl)
    intro p hp
    rcases p with _ | p
    · rw [h0]; rfl
    · rw [h1 p hp]
      show (vec (mrF f) (z.take p).reverse).getD x.toNat false = (decide (0 < p + 1) && pat f z x.toNat p)
      rw [hV _ x h.1 h.2]; simp
  · have h := ha (.inr rfl)
    have h2 := hb rfl
    intro p
    induction p with
    | zero => intro _; rw [h0]; rfl
    | succ p ih =>
      intro hp
      rw [h1 p hp]
      show ((vec (mrF f) (z.take (p + 1)).reverse).getD y.toNat false || ((vec (mrF f) (z.take (p + 1)).reverse).getD x.toNat false && (vec (mrF f) (z.take p).reverse).getD k false)) = (pat f z y.toNat (p + 1) || (pat f z x.toNat (p + 1) && snc (pat f z x.toNat) (pat f z y.toNat) p))
      rw [hV _ x h.1 h.2, hV _ y h2.1 h2.2, hW, ih (by omega)]
      rfl

/-! ### what the laws ask -/
/-- What is wrong with what Feed is given. -/
def feedErr (L : Int) (f : List Nd) (n : Nat) (a : Int) : Nat := if fchk L (mrF f) = 0 then (if n ≠ f.length then 3 else if a < 0 ∨ L ≤ a then 1 else 0) else fchk L (mrF f)
/-- The document's answer for the formula that looks ahead. -/
def aheadK (k : Int) : Int := if 10 ≤ k then k * 2 - 14 else k
theorem aheadK_mrk {L : Int} {i : Nat} {n : Nd} (g : NdGood L i (mrN n)) : aheadK n.1 = mrk n.1 := by
  rcases past_kinds g with h | h | h | h | h | h | h | h <;> rw [h] <;> rfl
end Go.Proofs.YtdkbdoogjehkfaaDoor.Fm
