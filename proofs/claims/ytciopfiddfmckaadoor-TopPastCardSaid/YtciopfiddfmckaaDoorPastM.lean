/- Plain mathematics of formulas that look back: what they say of a word is what their mirrors say of the word's mirror. -/
import Derived.Test.YtciopfiddfmckaaDoorFormM
namespace Go.Proofs.YtciopfiddfmckaaDoor.Fm

/-- What a kind becomes in the mirror; -1 where it looks back nowhere. -/
def mrk (k : Int) : Int := if k = 10 then 6 else if k = 11 then 8 else if 6 ≤ k ∧ k ≤ 9 then -1 else k
def mrN (n : Nd) : Nd := (mrk n.1, n.2.1, n.2.2)
def mrF (f : List Nd) : List Nd := f.map mrN
theorem mrF_length (f : List Nd) : (mrF f).length = f.length := by simp [mrF]
theorem mrF_at {f : List Nd} {i : Nat} {n : Nd} (h : f[i]? = some n) : (mrF f)[i]? = some (mrN n) := by simp [mrF, h]
theorem mrF_snoc {f : List Nd} {i : Nat} {n : Nd} (h : f[i]? = some n) : (mrF f).take (i + 1) = (mrF f).take i ++ [mrN n] := by
  have hk := (List.getElem?_eq_some_iff.1 (mrF_at h)).1
  rw [← List.take_append_getElem hk, (List.getElem?_eq_some_iff.1 (mrF_at h)).2]
theorem fchk_cut (L : Int) (f : List Nd) : fchk L (f.take 41) = fchk L f := by
  by_cases h : f.length ≤ 41
  · rw [List.take_of_length_le h]
  · unfold fchk
    have : (f.take 41).length = 41 := by rw [List.length_take]; omega
    rw [this, if_neg (show ¬ (41 : Nat) = 0 by decide), if_pos (show (40 : Nat) < 41 by decide), if_neg (show ¬ f.length = 0 by omega), if_pos (show 40 < f.length by omega)]
/-! ### what is said of the first letters of a word -/
theorem take_rev {z : List Int} {p : Nat} (h : p < z.length) : (z.take (p + 1)).reverse = z.getD p 0 :: (z.take p).reverse := by
  rw [← List.take_append_getElem h, List.reverse_append, List.getD_eq_getElem?_getD, List.getElem?_eq_getElem h]; rfl
/-! ### what the laws ask -/
end Go.Proofs.YtciopfiddfmckaaDoor.Fm
