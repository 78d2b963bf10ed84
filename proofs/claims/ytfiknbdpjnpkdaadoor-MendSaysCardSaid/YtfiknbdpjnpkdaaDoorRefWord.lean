/- The walks of the document's answer for package word: stilewardref1's Word, Words, Set, Only, Mirror, Sub and Less. -/
import Derived.Test.YtfiknbdpjnpkdaaDoorWordW
namespace Go.Proofs.YtfiknbdpjnpkdaaDoor.Wo
open Go.RowKit Go.IntWalk Go.Proofs.YtfiknbdpjnpkdaaDoor.Wd

theorem within_any (x lo hi : Int) (w : World) : Calls Tryd.prog 20 #[.int .i64 x, .int .i64 lo, .int .i64 hi] w fun e w' => Hid (e = .returned (.bool (decide (lo ≤ x ∧ x ≤ hi)))) ∧ w = w' := by
  by_cases h : lo ≤ x
  · by_cases h2 : x ≤ hi
    · have HR : Hid (decide (lo ≤ x ∧ x ≤ hi) = true) := decide_eq_true ⟨h, h2⟩
      go_enter Tryd.func20, Tryd.ntmps20
      go_wp2
      go_ret
      exact ⟨by rw [HR.out]; rfl, rfl⟩
    · have HR : Hid (decide (lo ≤ x ∧ x ≤ hi) = false) := decide_eq_false (fun q => h2 q.2)
      have hd : decide (x ≤ hi) = false := decide_eq_false h2
      clear h2
      go_enter Tryd.func20, Tryd.ntmps20
      go_wp2
      go_ret
      exact ⟨by rw [HR.out]; rfl, rfl⟩
  · have HR : Hid (decide (lo ≤ x ∧ x ≤ hi) = false) := decide_eq_false (fun q => h q.1)
    have hd : decide (lo ≤ x) = false := decide_eq_false h
    clear h
    go_enter Tryd.func20, Tryd.ntmps20
    go_wp2
    go_ret
    exact ⟨by rw [HR.out]; rfl, rfl⟩
theorem within_yes (x lo hi : Int) (w : World) (h : lo ≤ x ∧ x ≤ hi) : Calls Tryd.prog 20 #[.int .i64 x, .int .i64 lo, .int .i64 hi] w fun e w' => e = .returned (.bool true) ∧ w = w' :=
  (within_any x lo hi w).mono fun _ _ ⟨he, hw⟩ => ⟨by rw [he.out, decide_eq_true h], hw⟩
theorem within_no (x lo hi : Int) (w : World) (h : ¬ (lo ≤ x ∧ x ≤ hi)) : Calls Tryd.prog 20 #[.int .i64 x, .int .i64 lo, .int .i64 hi] w fun e w' => e = .returned (.bool false) ∧ w = w' :=
  (within_any x lo hi w).mono fun _ _ ⟨he, hw⟩ => ⟨by rw [he.out, decide_eq_false h], hw⟩

set_option maxRecDepth 100000 in
set_option maxHeartbeats 1000000 in
theorem refWord_any (L : Int) (A : Option Addr) (c : Nat) (z : List Int) (w : World) (hL : Small L) (hA : IntsAt w w.heap.size A z) (hz : z.length ≤ 17592186044416) :
    Calls Tryd.prog 8 #[.int .i64 L, .slice A z.length c] w fun e w' => Hid (e = .returned (.int .i64 (chk L z : Nat))) ∧ w = w' := by
  obtain ⟨l1, l2⟩ := hL
  by_cases h : L < 1 ∨ 6 < L
  · have HR := Lib.hid (chk_one h z)
    have HN := Lib.hid (fun w => within_no L 1 6 w (by omega))
    clear h
    go_enter Tryd.func8, Tryd.ntmps8
    go_wp2_with fail
    refine (HN.out _).mono ?_
    rintro e w1 ⟨rfl, rfl⟩
    go_wp2
    go_ret
    exact ⟨by rw [HR.out]; rfl, rfl⟩
  · have hh := h
    obtain ⟨g1, g2⟩ : 1 ≤ L ∧ L ≤ 6 := by omega
    have HN := Lib.hid (fun w => within_yes L 1 6 w ⟨g1, g2⟩)
    by_cases h2 : 80 < z.length
    · have HR := Lib.hid (chk_four h h2)
      clear h hh
      go_enter Tryd.func8, Tryd.ntmps8
      go_wp2_with fail
      refine (HN.out _).mono ?_
      rintro e w1 ⟨rfl, rfl⟩
      go_wp2
      go_ret
      exact ⟨by rw [HR.out]; rfl, rfl⟩
    · have HB := Lib.hid (fun k hk h3 => chk_bad h h2 (k := k) hk h3)
      have HE := Lib.hid (upto_end h h2)
      have HA := Lib.hid hA
      have h80 : z.length ≤ 80 := by omega
      clear h hh hA h2
      go_enter Tryd.func8, Tryd.ntmps8
      go_wp2_with fail
      refine (HN.out _).mono ?_
      rintro e w1 ⟨rfl, rfl⟩
      clear HN
      go_wp2
      go_loop [5] (fun i => ∃ (k : Nat), k ≤ z.length ∧ i = .int .i64 k ∧ Hid (Upto L z k)) (fun i => z.length - (intOf i).toNat)
      case atStart => exact ⟨0, by omega, rfl, upto_zero L z⟩
      case round =>
        obtain ⟨k, hk, rfl, HU⟩ := hrel
        by_cases hlt : k < z.length
        · obtain ⟨ad, rfl, hadb, hcell, hs1, hs2⟩ := HA.out.at_ k hlt
          by_cases h0 : 0 ≤ z[k] ∧ z[k] ≤ L - 1
          · have HN := Lib.hid (upto_next HU.out hlt h0.1 (by omega))
            have HC := Lib.hid (fun w => within_yes z[k] 0 (L - 1) w h0)
            clear h0
            generalize z[k] = x at *
            go_wp2_with fail
            refine (HC.out _).mono ?_
            rintro e w1 ⟨rfl, rfl⟩
            clear HC
            go_wp2
            go_round
            case rel => exact ⟨k + 1, by omega, by go_num, HN⟩
            case measure => simp [intOf]; omega
          · have HR := Lib.hid (HB.out k hlt (by omega))
            have HC := Lib.hid (fun w => within_no z[k] 0 (L - 1) w h0)
            clear h0
            generalize z[k] = x at *
            go_wp2_with fail
            refine (HC.out _).mono ?_
            rintro e w1 ⟨rfl, rfl⟩
            clear HC
            go_wp2
            go_ret
            exact ⟨by rw [HR.out]; rfl, rfl⟩
        · obtain rfl : k = z.length := by omega
          have HR := Lib.hid (HE.out HU.out)
          go_wp2
          go_ret
          exact ⟨by rw [HR.out]; rfl, rfl⟩
/-! ### sets -/
theorem quo_two {n q : Nat} {i : Nat} (h : q = n / 2 ^ i) : q / 2 = n / 2 ^ (i + 1) := by rw [h, Nat.div_div_eq_div_mul, Nat.pow_succ]
theorem quo_zero {n i m : Nat} (h : n / 2 ^ i = 0) (hm : i ≤ m) : n / 2 ^ m = 0 := by
  have h1 : n < 2 ^ i := by
    rcases Nat.lt_or_ge n (2 ^ i) with h2 | h2
    · exact h2
    · have := Nat.div_pos h2 (Nat.two_pow_pos i); omega
  exact Nat.div_eq_of_lt (Nat.lt_of_lt_of_le h1 (Nat.pow_le_pow_right (by omega) hm))
theorem pow_le60 {i : Nat} (h : i ≤ 60) : 2 ^ i ≤ 1152921504606846976 := Nat.le_trans (Nat.pow_le_pow_right (by omega) h) (by decide)
/-! ### lists -/
/-- The last k letters, the last one first. -/
theorem back_step {z : List Int} {k : Nat} (hk : k < z.length) : (z.drop k).reverse = (z.drop (k + 1)).reverse ++ [z[k]] := by
  rw [List.drop_eq_getElem_cons hk, List.reverse_cons]
/-! ### what is left, from the ends -/
def subR (v w : List Int) (i k : Nat) : Bool := (v.take i).reverse.isSublist (w.take k).reverse
theorem take_rev {v : List Int} {i : Nat} (hi : i < v.length) : (v.take (i + 1)).reverse = v[i] :: (v.take i).reverse := by
  rw [← List.take_append_getElem hi, List.reverse_append]; rfl
theorem subR_hit {v w : List Int} {i k : Nat} (hi : i < v.length) (hk : k < w.length) (he : v[i] = w[k]) : subR v w i k = subR v w (i + 1) (k + 1) := by
  unfold subR; rw [take_rev hi, take_rev hk]; simp [List.isSublist, he]
theorem subR_miss {v w : List Int} {i k : Nat} (hi : i < v.length) (hk : k < w.length) (he : ¬ v[i] = w[k]) : subR v w (i + 1) k = subR v w (i + 1) (k + 1) := by
  unfold subR; rw [take_rev hi, take_rev hk]; simp [List.isSublist, he]
theorem subR_zero (v w : List Int) (k : Nat) : subR v w 0 k = true := by unfold subR; simp [List.isSublist]
theorem subR_end {v w : List Int} {i : Nat} (hi : i ≤ v.length) : subR v w i 0 = ((i : Int) == 0) := by
  unfold subR
  rcases i with _ | i
  · simp [List.isSublist]
  · rw [take_rev (by omega), Bool.eq_iff_iff]; simp [List.isSublist]; omega
theorem subR_start (v w : List Int) : subR v w v.length w.length = v.isSublist w := by
  unfold subR
  rw [List.take_length, List.take_length, Bool.eq_iff_iff, List.isSublist_iff_sublist, List.isSublist_iff_sublist, List.reverse_sublist]
set_option maxRecDepth 100000 in
set_option maxHeartbeats 1000000 in
theorem refLess_any (A : Option Addr) (c : Nat) (v : List Int) (B : Option Addr) (d : Nat) (z : List Int) (w : World) (hA : IntsAt w w.heap.size A v) (hB : IntsAt w w.heap.size B z) (hv : v.length ≤ 1000000) (_hz : z.length ≤ 1000000) :
    Calls Tryd.prog 17 #[.slice A v.length c, .slice B z.length d] w fun e w' => Hid (e = .returned (.bool (lss v z))) ∧ ∃ n, w' = w.drewN n := by
  have HA := Lib.hid hA
  have HB := Lib.hid hB
  obtain ⟨R, HR⟩ : ∃ R : Bool, Hid (R = lss v z) := ⟨_, rfl⟩
  clear hA hB
  by_cases hl : v.length = z.length
  · have HS : Hid (R = lx v z) := by unfold Hid; rw [HR.out]; unfold lss; rw [if_pos hl]
    have hne : ((v.length : Int) != (z.length : Int)) = false := by simp; omega
    have hl1 : v.length ≤ z.length := by omega
    have hl2 : z.length ≤ v.length := by omega
    clear hl
    go_enter Tryd.func17, Tryd.ntmps17
    go_wp2
    go_loopw [5] (fun j wr => ∃ (k n : Nat), k ≤ v.length ∧ j = .int .i64 k ∧ wr = w.drewN n ∧ Hid (R = lx (v.drop k) (z.drop k))) (fun j _ => v.length - (intOf j).toNat)
    case atStart => exact ⟨0, 0, by omega, rfl, rfl, HS⟩
    case round =>
      obtain ⟨k, n, hk, rfl, rfl, HT⟩ := hrel
      by_cases hlt : k < v.length
      · obtain ⟨ad, rfl, hadb, hcell, hs1, hs2⟩ := HA.out.at_ k hlt
        obtain ⟨ad2, rfl, hadb2, hcell2, ht1, ht2⟩ := HB.out.at_ k (by omega)
        have hlz : k < z.length := by omega
        by_cases he : v[k] = z[k]
        · have HN : Hid (R = lx (v.drop (k + 1)) (z.drop (k + 1))) := HT.out.trans (lx_same hlt hlz he).symm
          have he1 : (v[k] != z[k]) = false := by rw [he]; simp
          clear he
          generalize z[k] = x at *
          generalize v[k] = y at *
          go_wp2
          go_quiet (fail)
          go_wp2
          go_roundw
          case rel => exact ⟨k + 1, _, by omega, by go_num, rfl, HN⟩
          case measure => simp [intOf]; omega
        · have HN : Hid (R = decide (v[k] < z[k])) := HT.out.trans (lx_diff hlt hlz he)
          have he1 : (v[k] != z[k]) = true := by simpa using he
          clear he
          generalize z[k] = x at *
          generalize v[k] = y at *
          go_wp2
          go_quiet (fail)
          go_wp2
          go_quiet (fail)
          go_wp2
          go_ret
          exact ⟨by unfold Hid; rw [← HR.out, HN.out]; simp, _, by rw [World.drewN_drewN, World.drewN_drewN]⟩
      · have HE : Hid (R = false) := HT.out.trans (lx_end (by omega))
        go_wp2
        go_ret
        exact ⟨by rw [← HR.out, HE.out]; rfl, n, rfl⟩
  · have HS : Hid (R = decide (v.length < z.length)) := by
      unfold Hid; rw [HR.out]; unfold lss; rw [if_neg hl]
    have hne : ((v.length : Int) != (z.length : Int)) = true := by simp; omega
    clear hl
    go_enter Tryd.func17, Tryd.ntmps17
    go_wp2
    go_ret
    exact ⟨by unfold Hid; rw [← HR.out, HS.out]; simp, 0, rfl⟩
end Go.Proofs.YtfiknbdpjnpkdaaDoor.Wo
