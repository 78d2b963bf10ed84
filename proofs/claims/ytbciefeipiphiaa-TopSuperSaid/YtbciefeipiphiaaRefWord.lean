/- The walks of the document's answer for package word: stilewardref1's Word, Words, Set, Only, Mirror, Sub and Less. -/
import Derived.Test.YtbciefeipiphiaaWordW
namespace Go.Proofs.Ytbciefeipiphiaa.Wo
open Go.RowKit Go.IntWalk Go.Proofs.Ytbciefeipiphiaa.Wd

/-! ### sets -/
theorem quo_two {n q : Nat} {i : Nat} (h : q = n / 2 ^ i) : q / 2 = n / 2 ^ (i + 1) := by rw [h, Nat.div_div_eq_div_mul, Nat.pow_succ]
theorem quo_zero {n i m : Nat} (h : n / 2 ^ i = 0) (hm : i ≤ m) : n / 2 ^ m = 0 := by
  have h1 : n < 2 ^ i := by
    rcases Nat.lt_or_ge n (2 ^ i) with h2 | h2
    · exact h2
    · have := Nat.div_pos h2 (Nat.two_pow_pos i); omega
  exact Nat.div_eq_of_lt (Nat.lt_of_lt_of_le h1 (Nat.pow_le_pow_right (by omega) hm))
set_option maxHeartbeats 1000000 in
theorem bit_any (s a : Int) (w : World) (hs : 0 ≤ s) (hs2 : s ≤ 9223372036854775807) (ha : 0 ≤ a) (ha2 : a ≤ 1000000) :
    Calls Try.prog 14 #[.int .i64 s, .int .i64 a] w fun e w' => Hid (e = .returned (.bool (has s a))) ∧ w = w' := by
  obtain ⟨n, rfl⟩ := Int.eq_ofNat_of_zero_le hs
  obtain ⟨m, rfl⟩ := Int.eq_ofNat_of_zero_le ha
  obtain ⟨R, HR⟩ : ∃ R : Bool, Hid (R = has (n : Int) (m : Int)) := ⟨_, rfl⟩
  have HR2 : Hid (R = (n / 2 ^ m % 2 == 1)) := by rw [HR.out]; rfl
  go_enter Try.func14, Try.ntmps14
  go_wp2
  go_loop [0, 5] (fun q i => ∃ (k l : Nat), l ≤ m ∧ k ≤ n ∧ q = .int .i64 k ∧ i = .int .i64 l ∧ Hid (k = n / 2 ^ l)) (fun _ i => m - (intOf i).toNat)
  case atStart => exact ⟨n, 0, by omega, by omega, rfl, rfl, by simp [Hid]⟩
  case round =>
    obtain ⟨k, l, hl, hk, rfl, rfl, HK⟩ := hrel
    by_cases hlm : l < m
    · by_cases hk0 : k = 0
      · have HF : Hid (R = false) := by
          unfold Hid
          have h0 := HK.out
          rw [hk0] at h0
          rw [HR2.out, quo_zero h0.symm (by omega)]; rfl
        subst hk0
        clear HR2
        go_wp2
        go_ret
        exact ⟨by rw [← HR.out, HF.out]; rfl, rfl⟩
      · have HN := Lib.hid (quo_two HK.out)
        have hne : ((k : Int) != 0) = true := by simp; omega
        clear hk0
        go_wp2
        go_round
        case rel => exact ⟨k / 2, l + 1, by omega, by omega, by go_num, by go_num, HN⟩
        case measure => simp [intOf]; omega
    · have HF : Hid (R = ((k : Int) % 2 == 1)) := by
        unfold Hid
        have e : l = m := by omega
        have h0 := HK.out
        rw [e] at h0
        rw [HR2.out, ← h0, Bool.eq_iff_iff]
        simp; omega
      clear HR2
      go_wp2
      go_ret
      exact ⟨by rw [← HR.out, HF.out]; rfl, rfl⟩
theorem pow_le60 {i : Nat} (h : i ≤ 60) : 2 ^ i ≤ 1152921504606846976 := Nat.le_trans (Nat.pow_le_pow_right (by omega) h) (by decide)
/-! ### lists -/
/-- The last k letters, the last one first. -/
theorem back_step {z : List Int} {k : Nat} (hk : k < z.length) : (z.drop k).reverse = (z.drop (k + 1)).reverse ++ [z[k]] := by
  rw [List.drop_eq_getElem_cons hk, List.reverse_cons]
/-! ### what is left, from the ends -/
def subR (v w : List Int) (i k : Nat) : Bool := (v.take i).reverse.isSublist (w.take k).reverse
theorem take_rev {v : List Int} {i : Nat} (hi : i < v.length) : (v.take (i + 1)).reverse = v[i] :: (v.take i).reverse := by
  rw [← List.take_append_getElem hi, List.reverse_append]; rfl
theorem subR_hit {v w : List Int} {i k : Nat} (hi : i < v.length) (hk : k < w.length) (he : v[i] = w[k]) : subR v w i k = subR v w (i + 1) (k + 1) := by
  unfold subR; rw [take_rev hi, take_rev hk]; simp [List.isSublist, he]
theorem subR_miss {v w : List Int} {i k : Nat} (hi : i < v.length) (hk : k < w.length) (he : ¬ v[i] = w[k]) : subR v w (i + 1) k = subR v w (i + 1) (k + 1) := by
  unfold subR; rw [take_rev hi, take_rev hk]; simp [List.isSublist, he]
theorem subR_zero (v w : List Int) (k : Nat) : subR v w 0 k = true := by unfold subR; simp [List.isSublist]
theorem subR_end {v w : List Int} {i : Nat} (hi : i ≤ v.length) : subR v w i 0 = ((i : Int) == 0) := by
  unfold subR
  rcases i with _ | i
  · simp [List.isSublist]
  · rw [take_rev (by omega), Bool.eq_iff_iff]; simp [List.isSublist]; omega
theorem subR_start (v w : List Int) : subR v w v.length w.length = v.isSublist w := by
  unfold subR
  rw [List.take_length, List.take_length, Bool.eq_iff_iff, List.isSublist_iff_sublist, List.isSublist_iff_sublist, List.reverse_sublist]
end Go.Proofs.Ytbciefeipiphiaa.Wo
