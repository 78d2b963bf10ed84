/- The walks of the document's answer for package word: stilewardref1's Word, Words, Set, Only, Mirror, Sub and Less. -/
import Derived.Test.YtdkbdoogjehkfaaDoorWordW
namespace Go.Proofs.YtdkbdoogjehkfaaDoor.Wo
open Go.RowKit Go.IntWalk Go.Proofs.YtdkbdoogjehkfaaDoor.Wd

theorem within_any (x lo hi : Int) (w : World) : Calls Tryd.prog 28 #[.int .i64 x, .int .i64 lo, .int .i64 hi] w fun e w' => Hid (e = .returned (.bool (decide (lo ≤ x ∧ x ≤ hi)))) ∧ w = w' := by
  by_cases h : lo ≤ x
  · by_cases h2 : x ≤ hi
    · have HR : Hid (decide (lo ≤ x ∧ x ≤ hi) = true) := decide_eq_true ⟨h, h2⟩
      go_enter Tryd.func28, Tryd.ntmps28
      go_wp2
      go_ret
      exact ⟨by rw [HR.out]; rfl, rfl⟩
    · have HR : Hid (decide (lo ≤ x ∧ x ≤ hi) = false) := decide_eq_false (fun q => h2 q.2)
      have hd : decide (x ≤ hi) = false := decide_eq_false h2
      clear h2
      go_enter Tryd.func28, Tryd.ntmps28
      go_wp2
      go_ret
      exact ⟨by rw [HR.out]; rfl, rfl⟩
  · have HR : Hid (decide (lo ≤ x ∧ x ≤ hi) = false) := decide_eq_false (fun q => h q.1)
    have hd : decide (lo ≤ x) = false := decide_eq_false h
    clear h
    go_enter Tryd.func28, Tryd.ntmps28
    go_wp2
    go_ret
    exact ⟨by rw [HR.out]; rfl, rfl⟩
theorem within_yes (x lo hi : Int) (w : World) (h : lo ≤ x ∧ x ≤ hi) : Calls Tryd.prog 28 #[.int .i64 x, .int .i64 lo, .int .i64 hi] w fun e w' => e = .returned (.bool true) ∧ w = w' :=
  (within_any x lo hi w).mono fun _ _ ⟨he, hw⟩ => ⟨by rw [he.out, decide_eq_true h], hw⟩
theorem within_no (x lo hi : Int) (w : World) (h : ¬ (lo ≤ x ∧ x ≤ hi)) : Calls Tryd.prog 28 #[.int .i64 x, .int .i64 lo, .int .i64 hi] w fun e w' => e = .returned (.bool false) ∧ w = w' :=
  (within_any x lo hi w).mono fun _ _ ⟨he, hw⟩ => ⟨by rw [he.out, decide_eq_false h], hw⟩

set_option maxRecDepth 100000 in
set_option maxHeartbeats 1000000 in
theorem refWord_any (L : Int) (A : Option Addr) (c : Nat) (z : List Int) (w : World) (hL : Small L) (hA : IntsAt w w.heap.size A z) (hz : z.length ≤ 17592186044416) :
    Calls Tryd.prog 12 #[.int .i64 L, .slice A z.length c] w fun e w' => Hid (e = .returned (.int .i64 (chk L z : Nat))) ∧ w = w' := by
  obtain ⟨l1, l2⟩ := hL
  by_cases h : L < 1 ∨ 6 < L
  · have HR := Lib.hid (chk_one h z)
    have HN := Lib.hid (fun w => within_no L 1 6 w (by omega))
    clear h
    go_enter Tryd.func12, Tryd.ntmps12
    go_wp2_with fail
    refine (HN.out _).mono ?_
    rintro e w1 ⟨rfl, rfl⟩
    go_wp2
    go_ret
    exact ⟨by rw [HR.out]; rfl, rfl⟩
  · have hh := h
    obtain ⟨g1, g2⟩ : 1 ≤ L ∧ L ≤ 6 := by omega
    have HN := Lib.hid (fun w => within_yes L 1 6 w ⟨g1, g2⟩)
    by_cases h2 : 80 < z.length
    · have HR := Lib.hid (chk_four h h2)
      clear h hh
      go_enter Tryd.func12, Tryd.ntmps12
      go_wp2_with fail
      refine (HN.out _).mono ?_
      rintro e w1 ⟨rfl, rfl⟩
      go_wp2
      go_ret
      exact ⟨by rw [HR.out]; rfl, rfl⟩
    · have HB := Lib.hid (fun k hk h3 => chk_bad h h2 (k := k) hk h3)
      have HE := Lib.hid (upto_end h h2)
      have HA := Lib.hid hA
      have h80 : z.length ≤ 80 := by omega
      clear h hh hA h2
      go_enter Tryd.func12, Tryd.ntmps12
      go_wp2_with fail
      refine (HN.out _).mono ?_
      rintro e w1 ⟨rfl, rfl⟩
      clear HN
      go_wp2
      go_loop [5] (fun i => ∃ (k : Nat), k ≤ z.length ∧ i = .int .i64 k ∧ Hid (Upto L z k)) (fun i => z.length - (intOf i).toNat)
      case atStart => exact ⟨0, by omega, rfl, upto_zero L z⟩
      case round =>
        obtain ⟨k, hk, rfl, HU⟩ := hrel
        by_cases hlt : k < z.length
        · obtain ⟨ad, rfl, hadb, hcell, hs1, hs2⟩ := HA.out.at_ k hlt
          by_cases h0 : 0 ≤ z[k] ∧ z[k] ≤ L - 1
          · have HN := Lib.hid (upto_next HU.out hlt h0.1 (by omega))
            have HC := Lib.hid (fun w => within_yes z[k] 0 (L - 1) w h0)
            clear h0
            generalize z[k] = x at *
            go_wp2_with fail
            refine (HC.out _).mono ?_
            rintro e w1 ⟨rfl, rfl⟩
            clear HC
            go_wp2
            go_round
            case rel => exact ⟨k + 1, by omega, by go_num, HN⟩
            case measure => simp [intOf]; omega
          · have HR := Lib.hid (HB.out k hlt (by omega))
            have HC := Lib.hid (fun w => within_no z[k] 0 (L - 1) w h0)
            clear h0
            generalize z[k] = x at *
            go_wp2_with fail
            refine (HC.out _).mono ?_
            rintro e w1 ⟨rfl, rfl⟩
            clear HC
            go_wp2
            go_ret
            exact ⟨by rw [HR.out]; rfl, rfl⟩
        · obtain rfl : k = z.length := by omega
          have HR := Lib.hid (HE.out HU.out)
          go_wp2
          go_ret
          exact ⟨by rw [HR.out]; rfl, rfl⟩
/-! ### sets -/
theorem quo_two {n q : Nat} {i : Nat} (h : q = n / 2 ^ i) : q / 2 = n / 2 ^ (i + 1) := by rw [h, Nat.div_div_eq_div_mul, Nat.pow_succ]
theorem quo_zero {n i m : Nat} (h : n / 2 ^ i = 0) (hm : i ≤ m) : n / 2 ^ m = 0 := by
  have h1 : n < 2 ^ i := by
    rcases Nat.lt_or_ge n (2 ^ i) with h2 | h2
    · exact h2
    · have := Nat.div_pos h2 (Nat.two_pow_pos i); omega
  exact Nat.div_eq_of_lt (Nat.lt_of_lt_of_le h1 (Nat.pow_le_pow_right (by omega) hm))
set_option maxHeartbeats 1000000 in
theorem bit_any (s a : Int) (w : World) (hs : 0 ≤ s) (hs2 : s ≤ 9223372036854775807) (ha : 0 ≤ a) (ha2 : a ≤ 1000000) :
    Calls Tryd.prog 27 #[.int .i64 s, .int .i64 a] w fun e w' => Hid (e = .returned (.bool (has s a))) ∧ w = w' := by
  obtain ⟨n, rfl⟩ := Int.eq_ofNat_of_zero_le hs
  obtain ⟨m, rfl⟩ := Int.eq_ofNat_of_zero_le ha
  obtain ⟨R, HR⟩ : ∃ R : Bool, Hid (R = has (n : Int) (m : Int)) := ⟨_, rfl⟩
  have HR2 : Hid (R = (n / 2 ^ m % 2 == 1)) := by rw [HR.out]; rfl
  go_enter Tryd.func27, Tryd.ntmps27
  go_wp2
  go_loop [0, 5] (fun q i => ∃ (k l : Nat), l ≤ m ∧ k ≤ n ∧ q = .int .i64 k ∧ i = .int .i64 l ∧ Hid (k = n / 2 ^ l)) (fun _ i => m - (intOf i).toNat)
  case atStart => exact ⟨n, 0, by omega, by omega, rfl, rfl, by simp [Hid]⟩
  case round =>
    obtain ⟨k, l, hl, hk, rfl, rfl, HK⟩ := hrel
    by_cases hlm : l < m
    · by_cases hk0 : k = 0
      · have HF : Hid (R = false) := by
          unfold Hid
          have h0 := HK.out
          rw [hk0] at h0
          rw [HR2.out, quo_zero h0.symm (by omega)]; rfl
        subst hk0
        clear HR2
        go_wp2
        go_ret
        exact ⟨by rw [← HR.out, HF.out]; rfl, rfl⟩
      · have HN := Lib.hid (quo_two HK.out)
        have hne : ((k : Int) != 0) = true := by simp; omega
        clear hk0
        go_wp2
        go_round
        case rel => exact ⟨k / 2, l + 1, by omega, by omega, by go_num, by go_num, HN⟩
        case measure => simp [intOf]; omega
    · have HF : Hid (R = ((k : Int) % 2 == 1)) := by
        unfold Hid
        have e : l = m := by omega
        have h0 := HK.out
        rw [e] at h0
        rw [HR2.out, ← h0, Bool.eq_iff_iff]
        simp; omega
      clear HR2
      go_wp2
      go_ret
      exact ⟨by rw [← HR.out, HF.out]; rfl, rfl⟩
theorem pow_le60 {i : Nat} (h : i ≤ 60) : 2 ^ i ≤ 1152921504606846976 := Nat.le_trans (Nat.pow_le_pow_right (by omega) h) (by decide)
set_option maxHeartbeats 1000000 in
theorem pow2_any (n : Int) (w : World) (h0 : 0 ≤ n) (h1 : n ≤ 60) :
    Calls Tryd.prog 39 #[.int .i64 n] w fun e w' => Hid (e = .returned (.int .i64 (2 ^ n.toNat))) ∧ w = w' := by
  obtain ⟨m, rfl⟩ := Int.eq_ofNat_of_zero_le h0
  rw [Int.toNat_natCast]
  obtain ⟨R, HR⟩ : ∃ R : Int, Hid (R = 2 ^ m) := ⟨_, rfl⟩
  go_enter Tryd.func39, Tryd.ntmps39
  go_wp2
  go_loop [3, 4] (fun p i => ∃ (k l : Nat), l ≤ m ∧ k ≤ 1152921504606846976 ∧ p = .int .i64 k ∧ i = .int .i64 l ∧ Hid (k = 2 ^ l)) (fun _ i => m - (intOf i).toNat)
  case atStart => exact ⟨1, 0, by omega, by omega, rfl, rfl, rfl⟩
  case round =>
    obtain ⟨k, l, hl, hk, rfl, rfl, HK⟩ := hrel
    by_cases hlm : l < m
    · have HN : Hid (k * 2 = 2 ^ (l + 1)) := by unfold Hid; rw [HK.out, Nat.pow_succ]
      have hle : k * 2 ≤ 1152921504606846976 := by rw [HN.out]; exact pow_le60 (by omega)
      go_wp2
      go_round
      case rel => exact ⟨k * 2, l + 1, by omega, hle, by go_num, by go_num, HN⟩
      case measure => simp [intOf]; omega
    · have HF : Hid (R = (k : Int)) := by
        have e : l = m := by omega
        unfold Hid
        rw [HR.out, HK.out, e, Int.natCast_pow]; rfl
      go_wp2
      go_ret
      exact ⟨by rw [← HR.out, HF.out]; rfl, rfl⟩
theorem refSet_any (L s : Int) (w : World) (h1 : 1 ≤ L) (h2 : L ≤ 6) : Calls Tryd.prog 24 #[.int .i64 L, .int .i64 s] w fun e w' => Hid (e = .returned (.bool (decide (setOk L s)))) ∧ w = w' := by
  have HP := Lib.hid (pow2_any L w (by omega) (by omega))
  obtain ⟨P, _, p1, p2, p3⟩ := shl_lim h1 h2
  rw [p1] at HP
  have HI := Lib.hid (within_any s 0 (P - 1) w)
  obtain ⟨R, HR⟩ : ∃ R : Bool, Hid (R = decide (setOk L s)) := ⟨_, rfl⟩
  have HR2 : Hid (R = decide (0 ≤ s ∧ s ≤ P - 1)) := by
    unfold Hid; rw [HR.out, Bool.eq_iff_iff, decide_eq_true_iff, decide_eq_true_iff]; unfold setOk; rw [p1]; omega
  clear p1
  go_enter Tryd.func24, Tryd.ntmps24
  go_wp2_with fail
  refine HP.out.mono ?_
  rintro e w1 ⟨he, rfl⟩
  obtain rfl : e = .returned (.int .i64 P) := he.out
  clear HP he
  go_wp2_with fail
  refine HI.out.mono ?_
  rintro e w1 ⟨he, rfl⟩
  obtain rfl : e = .returned (.bool R) := by rw [he.out, HR2.out]
  clear HI he
  go_wp2
  go_ret
  exact ⟨by rw [← HR.out]; rfl, rfl⟩

/-! ### lists -/
/-- The last k letters, the last one first. -/
theorem back_step {z : List Int} {k : Nat} (hk : k < z.length) : (z.drop k).reverse = (z.drop (k + 1)).reverse ++ [z[k]] := by
  rw [List.drop_eq_getElem_cons hk, List.reverse_cons]
/-! ### what is left, from the ends -/
def subR (v w : List Int) (i k : Nat) : Bool := (v.take i).reverse.isSublist (w.take k).reverse
theorem take_rev {v : List Int} {i : Nat} (hi : i < v.length) : (v.take (i + 1)).reverse = v[i] :: (v.take i).reverse := by
  rw [← List.take_append_getElem hi, List.reverse_append]; rfl
theorem subR_hit {v w : List Int} {i k : Nat} (hi : i < v.length) (hk : k < w.length) (he : v[i] = w[k]) : subR v w i k = subR v w (i + 1) (k + 1) := by
  unfold subR; rw [take_rev hi, take_rev hk]; simp [List.isSublist, he]
theorem subR_miss {v w : List Int} {i k : Nat} (hi : i < v.length) (hk : k < w.length) (he : ¬ v[i] = w[k]) : subR v w (i + 1) k = subR v w (i + 1) (k + 1) := by
  unfold subR; rw [take_rev hi, take_rev hk]; simp [List.isSublist, he]
theorem subR_zero (v w : List Int) (k : Nat) : subR v w 0 k = true := by unfold subR; simp [List.isSublist]
theorem subR_end {v w : List Int} {i : Nat} (hi : i ≤ v.length) : subR v w i 0 = ((i : Int) == 0) := by
  unfold subR
  rcases i with _ | i
  · simp [List.isSublist]
  · rw [take_rev (by omega), Bool.eq_iff_iff]; simp [List.isSublist]; omega
theorem subR_start (v w : List Int) : subR v w v.length w.length = v.isSublist w := by
  unfold subR
  rw [List.take_length, List.take_length, Bool.eq_iff_iff, List.isSublist_iff_sublist, List.isSublist_iff_sublist, List.reverse_sublist]
end Go.Proofs.YtdkbdoogjehkfaaDoor.Wo
