/- The walks of the document's answer for package word: stilewardref1's Word, Words, Set, Only, Mirror, Sub and Less. The walks of the document's answer for package dfa: stilewardref1's Dfa, Two, Run, Accepts and Not. The walk of the document's answer for package dfa: stilewardref1's Not. -/
import Derived.Test.YtbciefeipiphiaaDoorWordL
import Derived.Test.YtbciefeipiphiaaDoorDfaV

namespace Go.Proofs.YtbciefeipiphiaaDoor.Wo
open Go.RowKit Go.IntWalk Go.Proofs.YtbciefeipiphiaaDoor.Wd

theorem within_any (x lo hi : Int) (w : World) : Calls Tryd.prog 42 #[.int .i64 x, .int .i64 lo, .int .i64 hi] w fun e w' => Hid (e = .returned (.bool (decide (lo ≤ x ∧ x ≤ hi)))) ∧ w = w' := by
  by_cases h : lo ≤ x
  · by_cases h2 : x ≤ hi
    · have HR : Hid (decide (lo ≤ x ∧ x ≤ hi) = true) := decide_eq_true ⟨h, h2⟩
      go_enter Tryd.func42, Tryd.ntmps42
      go_wp2
      go_ret
      exact ⟨by rw [HR.out]; rfl, rfl⟩
    · have HR : Hid (decide (lo ≤ x ∧ x ≤ hi) = false) := decide_eq_false (fun q => h2 q.2)
      have hd : decide (x ≤ hi) = false := decide_eq_false h2
      clear h2
      go_enter Tryd.func42, Tryd.ntmps42
      go_wp2
      go_ret
      exact ⟨by rw [HR.out]; rfl, rfl⟩
  · have HR : Hid (decide (lo ≤ x ∧ x ≤ hi) = false) := decide_eq_false (fun q => h q.1)
    have hd : decide (lo ≤ x) = false := decide_eq_false h
    clear h
    go_enter Tryd.func42, Tryd.ntmps42
    go_wp2
    go_ret
    exact ⟨by rw [HR.out]; rfl, rfl⟩
theorem within_yes (x lo hi : Int) (w : World) (h : lo ≤ x ∧ x ≤ hi) : Calls Tryd.prog 42 #[.int .i64 x, .int .i64 lo, .int .i64 hi] w fun e w' => e = .returned (.bool true) ∧ w = w' :=
  (within_any x lo hi w).mono fun _ _ ⟨he, hw⟩ => ⟨by rw [he.out, decide_eq_true h], hw⟩
theorem within_no (x lo hi : Int) (w : World) (h : ¬ (lo ≤ x ∧ x ≤ hi)) : Calls Tryd.prog 42 #[.int .i64 x, .int .i64 lo, .int .i64 hi] w fun e w' => e = .returned (.bool false) ∧ w = w' :=
  (within_any x lo hi w).mono fun _ _ ⟨he, hw⟩ => ⟨by rw [he.out, decide_eq_false h], hw⟩

/-! ### sets -/
theorem quo_two {n q : Nat} {i : Nat} (h : q = n / 2 ^ i) : q / 2 = n / 2 ^ (i + 1) := by rw [h, Nat.div_div_eq_div_mul, Nat.pow_succ]
theorem quo_zero {n i m : Nat} (h : n / 2 ^ i = 0) (hm : i ≤ m) : n / 2 ^ m = 0 := by
  have h1 : n < 2 ^ i := by
    rcases Nat.lt_or_ge n (2 ^ i) with h2 | h2
    · exact h2
    · have := Nat.div_pos h2 (Nat.two_pow_pos i); omega
  exact Nat.div_eq_of_lt (Nat.lt_of_lt_of_le h1 (Nat.pow_le_pow_right (by omega) hm))
set_option maxHeartbeats 1000000 in
theorem bit_any (s a : Int) (w : World) (hs : 0 ≤ s) (hs2 : s ≤ 9223372036854775807) (ha : 0 ≤ a) (ha2 : a ≤ 1000000) :
    Calls Tryd.prog 21 #[.int .i64 s, .int .i64 a] w fun e w' => Hid (e = .returned (.bool (has s a))) ∧ w = w' := by
  obtain ⟨n, rfl⟩ := Int.eq_ofNat_of_zero_le hs
  obtain ⟨m, rfl⟩ := Int.eq_ofNat_of_zero_le ha
  obtain ⟨R, HR⟩ : ∃ R : Bool, Hid (R = has (n : Int) (m : Int)) := ⟨_, rfl⟩
  have HR2 : Hid (R = (n / 2 ^ m % 2 == 1)) := by rw [HR.out]; rfl
  go_enter Tryd.func21, Tryd.ntmps21
  go_wp2
  go_loop [0, 5] (fun q i => ∃ (k l : Nat), l ≤ m ∧ k ≤ n ∧ q = .int .i64 k ∧ i = .int .i64 l ∧ Hid (k = n / 2 ^ l)) (fun _ i => m - (intOf i).toNat)
  case atStart => exact ⟨n, 0, by omega, by omega, rfl, rfl, by simp [Hid]⟩
  case round =>
    obtain ⟨k, l, hl, hk, rfl, rfl, HK⟩ := hrel
    by_cases hlm : l < m
    · by_cases hk0 : k = 0
      · have HF : Hid (R = false) := by
          unfold Hid
          have h0 := HK.out
          rw [hk0] at h0
          rw [HR2.out, quo_zero h0.symm (by omega)]; rfl
        subst hk0
        clear HR2
        go_wp2
        go_ret
        exact ⟨by rw [← HR.out, HF.out]; rfl, rfl⟩
      · have HN := Lib.hid (quo_two HK.out)
        have hne : ((k : Int) != 0) = true := by simp; omega
        clear hk0
        go_wp2
        go_round
        case rel => exact ⟨k / 2, l + 1, by omega, by omega, by go_num, by go_num, HN⟩
        case measure => simp [intOf]; omega
    · have HF : Hid (R = ((k : Int) % 2 == 1)) := by
        unfold Hid
        have e : l = m := by omega
        have h0 := HK.out
        rw [e] at h0
        rw [HR2.out, ← h0, Bool.eq_iff_iff]
        simp; omega
      clear HR2
      go_wp2
      go_ret
      exact ⟨by rw [← HR.out, HF.out]; rfl, rfl⟩
theorem pow_le60 {i : Nat} (h : i ≤ 60) : 2 ^ i ≤ 1152921504606846976 := Nat.le_trans (Nat.pow_le_pow_right (by omega) h) (by decide)
set_option maxHeartbeats 1000000 in
theorem pow2_any (n : Int) (w : World) (h0 : 0 ≤ n) (h1 : n ≤ 60) :
    Calls Tryd.prog 43 #[.int .i64 n] w fun e w' => Hid (e = .returned (.int .i64 (2 ^ n.toNat))) ∧ w = w' := by
  obtain ⟨m, rfl⟩ := Int.eq_ofNat_of_zero_le h0
  rw [Int.toNat_natCast]
  obtain ⟨R, HR⟩ : ∃ R : Int, Hid (R = 2 ^ m) := ⟨_, rfl⟩
  go_enter Tryd.func43, Tryd.ntmps43
  go_wp2
  go_loop [3, 4] (fun p i => ∃ (k l : Nat), l ≤ m ∧ k ≤ 1152921504606846976 ∧ p = .int .i64 k ∧ i = .int .i64 l ∧ Hid (k = 2 ^ l)) (fun _ i => m - (intOf i).toNat)
  case atStart => exact ⟨1, 0, by omega, by omega, rfl, rfl, rfl⟩
  case round =>
    obtain ⟨k, l, hl, hk, rfl, rfl, HK⟩ := hrel
    by_cases hlm : l < m
    · have HN : Hid (k * 2 = 2 ^ (l + 1)) := by unfold Hid; rw [HK.out, Nat.pow_succ]
      have hle : k * 2 ≤ 1152921504606846976 := by rw [HN.out]; exact pow_le60 (by omega)
      go_wp2
      go_round
      case rel => exact ⟨k * 2, l + 1, by omega, hle, by go_num, by go_num, HN⟩
      case measure => simp [intOf]; omega
    · have HF : Hid (R = (k : Int)) := by
        have e : l = m := by omega
        unfold Hid
        rw [HR.out, HK.out, e, Int.natCast_pow]; rfl
      go_wp2
      go_ret
      exact ⟨by rw [← HR.out, HF.out]; rfl, rfl⟩
theorem refSet_any (L s : Int) (w : World) (h1 : 1 ≤ L) (h2 : L ≤ 6) : Calls Tryd.prog 19 #[.int .i64 L, .int .i64 s] w fun e w' => Hid (e = .returned (.bool (decide (setOk L s)))) ∧ w = w' := by
  have HP := Lib.hid (pow2_any L w (by omega) (by omega))
  obtain ⟨P, _, p1, p2, p3⟩ := shl_lim h1 h2
  rw [p1] at HP
  have HI := Lib.hid (within_any s 0 (P - 1) w)
  obtain ⟨R, HR⟩ : ∃ R : Bool, Hid (R = decide (setOk L s)) := ⟨_, rfl⟩
  have HR2 : Hid (R = decide (0 ≤ s ∧ s ≤ P - 1)) := by
    unfold Hid; rw [HR.out, Bool.eq_iff_iff, decide_eq_true_iff, decide_eq_true_iff]; unfold setOk; rw [p1]; omega
  clear p1
  go_enter Tryd.func19, Tryd.ntmps19
  go_wp2_with fail
  refine HP.out.mono ?_
  rintro e w1 ⟨he, rfl⟩
  obtain rfl : e = .returned (.int .i64 P) := he.out
  clear HP he
  go_wp2_with fail
  refine HI.out.mono ?_
  rintro e w1 ⟨he, rfl⟩
  obtain rfl : e = .returned (.bool R) := by rw [he.out, HR2.out]
  clear HI he
  go_wp2
  go_ret
  exact ⟨by rw [← HR.out]; rfl, rfl⟩

/-! ### lists -/
/-! ### what is left, from the ends -/
end Go.Proofs.YtbciefeipiphiaaDoor.Wo

namespace Go.Proofs.YtbciefeipiphiaaDoor.Df
open Go.RowKit Go.IntWalk Go.Proofs.YtbciefeipiphiaaDoor.Wd Go.Proofs.YtbciefeipiphiaaDoor.Wo

set_option maxRecDepth 100000 in
set_option maxHeartbeats 2000000 in
theorem rdfa_any (v : Value) (d : Aut) (w : World) (h : DfaAt w w.heap.size v d) :
    Calls Tryd.prog 41 #[v] w fun e w' => Hid (e = .returned (.int .i64 (dchk d : Nat))) ∧ Below w.heap.size w w' := by
  obtain ⟨L, s, A, c, F, cf, rfl, h⟩ := h
  obtain ⟨w1, hw1, hB1, hX, hd1⟩ := box_dfa w h
  have HB := Lib.hid hB1
  have HW := Lib.hid hw1
  have hn : d.next.length ≤ 9223372036854775807 := Nat.le_trans h.hc h.hc2
  have hc0 := hX.c0
  have hc1 := hX.c1
  have hc2 := hX.c2
  have hc3 := hX.c3
  by_cases g : L < 1 ∨ 6 < L
  · have HR : Hid (dchk d = 1) := dchk_bad_L (by rw [h.eL]; exact g)
    have HI := Lib.hid (fun W => within_no L 1 6 W (by omega))
    clear h hd1 hw1 hX hB1 g
    generalize d.next.length = n at *
    go_enter Tryd.func41, Tryd.ntmps41
    go_wp2_with fail
    rw [← HW.out]
    refine (HI.out _).mono ?_
    rintro e w2 ⟨rfl, rfl⟩
    go_wp2
    go_ret
    exact ⟨by rw [HR.out]; rfl, HB.out⟩
  · have HI := Lib.hid (fun W => within_yes L 1 6 W (by omega))
    by_cases g3 : 40 < d.next.length
    · have HR : Hid (dchk d = 4) := dchk_bad_n (by rw [h.eL]; exact g) g3
      clear h hd1 hw1 hX hB1 g
      generalize d.next.length = n at *
      go_enter Tryd.func41, Tryd.ntmps41
      go_wp2_with fail
      rw [← HW.out]
      refine (HI.out _).mono ?_
      rintro e w2 ⟨rfl, rfl⟩
      go_wp2
      go_ret
      exact ⟨by rw [HR.out]; rfl, HB.out⟩
    · by_cases g4 : d.next.length = 0
      · have HR : Hid (dchk d = 3) := dchk_bad_shape (by rw [h.eL]; exact g) g3 (fun q => q.1 g4)
        have h1 := int_eq (show (d.next.length : Int) = 0 by omega)
        clear h hd1 hw1 hX hB1 g g4
        generalize d.next.length = n at *
        go_enter Tryd.func41, Tryd.ntmps41
        go_wp2_with fail
        rw [← HW.out]
        refine (HI.out _).mono ?_
        rintro e w2 ⟨rfl, rfl⟩
        go_wp2
        go_ret
        exact ⟨by rw [HR.out]; rfl, HB.out⟩
      · have h1 := int_ne (show (d.next.length : Int) ≠ 0 by omega)
        by_cases g5 : d.fin.length = d.next.length
        · have h2 := int_eq' (show (d.fin.length : Int) = (d.next.length : Int) by omega)
          have HRs : Hid (∀ r ∈ d.next, ¬ ((r.length : Nat) : Int) = L → dchk d = 3) := fun r hr q => dchk_bad_shape (by rw [h.eL]; exact g) g3 (fun k => q (by rw [k.2.2 r hr, h.eL]))
          have HSh : Hid ((∀ r ∈ d.next, ((r.length : Nat) : Int) = L) → shaped d) := fun k => ⟨g4, g5, by rw [h.eL]; exact k⟩
          have HSt : Hid (shaped d → ¬ isSt d s → dchk d = 1) := fun k q => dchk_bad_s (by rw [h.eL]; exact g) g3 k (by rw [h.es]; exact q)
          have HT : Hid (shaped d → isSt d s → (∀ r ∈ d.next, ∀ x ∈ r, isSt d x) → dchk d = 0) := fun k q => dchk_ok (by rw [h.eL]; exact g) g3 k (by rw [h.es]; exact q)
          have HF : Hid (shaped d → isSt d s → ∀ r ∈ d.next, ∀ x ∈ r, ¬ isSt d x → dchk d = 1) := fun k q r hr x hx kx => dchk_bad_go (by rw [h.eL]; exact g) g3 k (by rw [h.es]; exact q) hr hx kx
          have HY : Hid (∀ r ∈ d.next.take 0, ((r.length : Nat) : Int) = L) := by simp [Hid]
          have HN := Lib.hid hd1.rows
          have HSm : Hid (Small s) := h.hs
          have HeL : Hid (d.L = L) := h.eL
          have hL1 : 1 ≤ L := by omega
          have hL6 : L ≤ 6 := by omega
          clear h hd1 hw1 hB1 g g5
          have HX := Lib.hid hX
          clear hX
          generalize hm : d.fin.length = m at *
          clear hm
          generalize hnn : d.next.length = n at *
          have HLen := Lib.hid hnn
          clear hnn
          have HIs : Hid (∀ x, isSt d x ↔ (0 ≤ x ∧ x ≤ (n : Int) - 1)) := fun x => by
            unfold isSt; rw [HLen.out]; constructor <;> rintro ⟨a, b⟩ <;> exact ⟨a, by omega⟩
          have HI2 := Lib.hid (fun x W (hx : isSt d x) => within_yes x 0 ((n : Int) - 1) W ((HIs.out x).1 hx))
          have HI3 := Lib.hid (fun x W (hx : ¬ isSt d x) => within_no x 0 ((n : Int) - 1) W (fun q => hx ((HIs.out x).2 q)))
          have hwr : IntKind.i64.wrap ((n : Int) - 1) = (n : Int) - 1 := IntWalk.i64_in _ ⟨by omega, by omega⟩
          go_enter Tryd.func41, Tryd.ntmps41
          go_wp2_with fail
          rw [← HW.out]
          clear HW
          refine (HI.out _).mono ?_
          rintro e w2 ⟨rfl, rfl⟩
          go_wp2
          go_loopw [4] (fun i wr => ∃ (k j : Nat), k ≤ n ∧ i = .int .i64 k ∧ wr = w1.drewN j ∧ Hid (∀ r ∈ d.next.take k, ((r.length : Nat) : Int) = L)) (fun i _ => n - (intOf i).toNat)
          case atStart => exact ⟨0, 0, by omega, rfl, rfl, HY⟩
          case round =>
            clear HY
            obtain ⟨k, j, hk, rfl, rfl, HU⟩ := hrel
            by_cases hlt : k < n
            · have hlt' : k < d.next.length := by rw [HLen.out]; exact hlt
              obtain ⟨ad, A', c', rfl, hadb, hcell, _, _, _⟩ := HN.out k _ (List.getElem?_eq_getElem hlt')
              by_cases he : ((d.next[k].length : Nat) : Int) = L
              · have HU1 := Lib.hid (all_take_succ HU.out hlt' he)
                have he1 := int_eq' he
                clear he
                generalize d.next[k] = r0 at *
                go_wp2
                go_region
                go_wp2
                go_roundw
                case rel => exact ⟨k + 1, _, by omega, by go_num, rfl, HU1⟩
                case measure => simp [intOf]; omega
              · have he1 := int_ne' he
                have HR := Lib.hid (HRs.out _ (List.getElem_mem hlt') he)
                clear he
                generalize d.next[k] = r0 at *
                go_wp2
                go_region
                go_wp2
                go_ret
                exact ⟨by rw [HR.out]; rfl, below_drewN HB.out _⟩
            · have HSH := Lib.hid (HSh.out (all_take_end HU.out (by rw [HLen.out]; omega)))
              have hB2 := below_drewN HB.out j
              have HX2 := HX.out.on (below_drewN (Below.refl _ w1) j)
              have HN2 := HN.out.on (below_drewN (Below.refl _ w1) j)
              have HB := Lib.hid hB2
              have HX := Lib.hid HX2
              have HN := Lib.hid HN2
              clear hB2 HX2 HN2
              generalize w1.drewN j = w3 at *
              have hc0 := HX.out.c0
              have hc1 := HX.out.c1
              have hc2 := HX.out.c2
              go_wp2_with fail
              by_cases g6 : isSt d s
              · refine (HI2.out s _ g6).mono ?_
                rintro e w4 ⟨rfl, rfl⟩
                have HT := Lib.hid (HT.out HSH.out g6)
                have HF := Lib.hid (HF.out HSH.out g6)
                clear g6
                have HY : Hid (∀ r ∈ d.next.take 0, ∀ x ∈ r, isSt d x) := by simp [Hid]
                go_wp2
                go_loop [5] (fun i => ∃ (k : Nat), k ≤ n ∧ i = .int .i64 k ∧ Hid (∀ r ∈ d.next.take k, ∀ x ∈ r, isSt d x)) (fun i => n - (intOf i).toNat)
                case atStart => exact ⟨0, by omega, rfl, HY⟩
                case round =>
                  clear HY
                  obtain ⟨k, hk, rfl, HU⟩ := hrel
                  by_cases hlt : k < n
                  · have hlt' : k < d.next.length := by rw [HLen.out]; exact hlt
                    obtain ⟨ad, A', c', rfl, hadb, hcell, _, _, hz⟩ := HN.out k _ (List.getElem?_eq_getElem hlt')
                    have HZ := Lib.hid hz
                    have HM : Hid (d.next[k] ∈ d.next) := List.getElem_mem hlt'
                    have hrl := HSH.out.2.2 _ HM.out
                    have HU1 : Hid ((∀ x ∈ d.next[k], isSt d x) → ∀ r ∈ d.next.take (k + 1), ∀ x ∈ r, isSt d x) := fun q => all_take_succ HU.out hlt' q
                    have HY : Hid (∀ x ∈ (d.next[k]).take 0, isSt d x) := by simp [Hid]
                    rw [HeL.out] at hrl
                    clear hz
                    generalize d.next[k] = r0 at *
                    go_wp2
                    go_loop [6] (fun i => ∃ (j : Nat), j ≤ r0.length ∧ i = .int .i64 j ∧ Hid (∀ x ∈ r0.take j, isSt d x)) (fun i => r0.length - (intOf i).toNat)
                    case atStart => exact ⟨0, by omega, rfl, HY⟩
                    case round =>
                      clear HY
                      obtain ⟨j, hj, rfl, HV⟩ := hrel
                      by_cases hlj : j < r0.length
                      · obtain ⟨ad2, rfl, hadb2, hcell2, hs1, hs2⟩ := HZ.out.at_ j hlj
                        by_cases he : isSt d r0[j]
                        · have HC := Lib.hid (fun W => HI2.out r0[j] W he)
                          have HV1 := Lib.hid (all_take_succ HV.out hlj he)
                          clear he
                          generalize r0[j] = x at *
                          go_wp2_with fail
                          refine (HC.out _).mono ?_
                          rintro e w5 ⟨rfl, rfl⟩
                          go_wp2
                          go_round
                          case rel => exact ⟨j + 1, by omega, by go_num, HV1⟩
                          case measure => simp [intOf]; omega
                        · have HC := Lib.hid (fun W => HI3.out r0[j] W he)
                          have HR := Lib.hid (HF.out _ HM.out _ (List.getElem_mem hlj) he)
                          clear he
                          generalize r0[j] = x at *
                          go_wp2_with fail
                          refine (HC.out _).mono ?_
                          rintro e w5 ⟨rfl, rfl⟩
                          go_wp2
                          go_ret
                          exact ⟨by rw [HR.out]; rfl, HB.out⟩
                      · have HV1 := Lib.hid (HU1.out (all_take_end HV.out (by omega)))
                        go_wp2
                        go_round
                        case rel => exact ⟨k + 1, by omega, by go_num, HV1⟩
                        case measure => simp [intOf]; omega
                  · have HR := Lib.hid (HT.out (all_take_end HU.out (by rw [HLen.out]; omega)))
                    go_wp2
                    go_ret
                    exact ⟨by rw [HR.out]; rfl, HB.out⟩
              · refine (HI3.out s _ g6).mono ?_
                rintro e w4 ⟨rfl, rfl⟩
                have HR := Lib.hid (HSt.out HSH.out g6)
                clear g6
                go_wp2
                go_ret
                exact ⟨by rw [HR.out]; rfl, HB.out⟩
        · have h2 := int_ne' (show (d.fin.length : Int) ≠ (d.next.length : Int) by omega)
          have HR : Hid (dchk d = 3) := dchk_bad_shape (by rw [h.eL]; exact g) g3 (fun q => g5 q.2.1)
          clear h hd1 hw1 hX hB1 g g5
          generalize d.next.length = n at *
          generalize d.fin.length = m at *
          go_enter Tryd.func41, Tryd.ntmps41
          go_wp2_with fail
          rw [← HW.out]
          refine (HI.out _).mono ?_
          rintro e w2 ⟨rfl, rfl⟩
          go_wp2
          go_ret
          exact ⟨by rw [HR.out]; rfl, HB.out⟩

set_option maxRecDepth 100000 in
set_option maxHeartbeats 2000000 in
theorem rtwo_any (v z : Value) (a b : Aut) (w : World) (ha : DfaAt w w.heap.size v a) (hb : DfaAt w w.heap.size z b) :
    Calls Tryd.prog 18 #[v, z] w fun e w' => Hid (e = .returned (.int .i64 (chkD2 a b : Nat))) ∧ Below w.heap.size w w' := by
  obtain ⟨L0, s0, A0, n0, c0, F0, m0, k0, rfl⟩ := ha.form
  obtain ⟨L1, s1, A1, n1, c1, F1, m1, k1, rfl⟩ := hb.form
  obtain ⟨u0, hu0, hb0, VA0, VB0⟩ := vars_two w ha hb
  have VA := Lib.hid VA0
  have VB := Lib.hid VB0
  have B := Lib.hid hb0
  have W0 := Lib.hid hu0
  have HL : Hid (a.L = L0 ∧ b.L = L1) := ⟨ha.eqs.1, hb.eqs.1⟩
  have HA := Lib.hid (rdfa_any _ a u0 VA0.at_)
  have HB := Lib.hid (fun W h => rdfa_any (.agg #[.int .i64 L1, .int .i64 s1, .slice A1 n1 c1, .slice F1 m1 k1]) b W h)
  clear hu0 hb0 ha hb VA0 VB0
  rcases g1 : dchk a with _ | e0
  · rcases g2 : dchk b with _ | e0
    · rw [g1] at HA
      rw [g2] at HB
      by_cases hL : L0 = L1
      · have HR : Hid (chkD2 a b = 0) := by unfold chkD2 Hid; rw [if_neg (by omega), if_neg (by omega), if_neg (by rw [HL.out.1, HL.out.2]; exact fun q => q hL)]
        have hL1 := int_eq' hL
        clear g1 g2 hL
        go_enter Tryd.func18, Tryd.ntmps18
        go_wp2_with fail
        rw [← W0.out]
        refine HA.out.mono ?_
        rintro e u1 ⟨he, hb⟩
        obtain rfl : e = .returned (.int .i64 0) := he.out
        have VA := Lib.hid (VA.out.on hb)
        have VB := Lib.hid (VB.out.on hb)
        have B := Lib.hid (B.out.trans (hb.mono B.out.size))
        obtain ⟨p0, p1, p2, p3, p4⟩ := VB.out.box
        clear hb he HA
        go_wp2_with fail
        refine (HB.out _ VB.out.at_).mono ?_
        rintro e u2 ⟨he, hb⟩
        obtain rfl : e = .returned (.int .i64 0) := he.out
        have VA := Lib.hid (VA.out.on hb)
        have VB := Lib.hid (VB.out.on hb)
        have B := Lib.hid (B.out.trans (hb.mono B.out.size))
        clear hb he HB p0 p1 p2 p3 p4
        obtain ⟨p0, p1, p2, p3, p4⟩ := VA.out.box
        obtain ⟨q0, q1, q2, q3, q4⟩ := VB.out.box
        go_wp2
        go_ret
        exact ⟨by rw [HR.out]; rfl, B.out⟩
      · have HR : Hid (chkD2 a b = 3) := by unfold chkD2 Hid; rw [if_neg (by omega), if_neg (by omega), if_pos (by rw [HL.out.1, HL.out.2]; exact hL)]
        have hL1 := int_ne' hL
        clear g1 g2 hL
        go_enter Tryd.func18, Tryd.ntmps18
        go_wp2_with fail
        rw [← W0.out]
        refine HA.out.mono ?_
        rintro e u1 ⟨he, hb⟩
        obtain rfl : e = .returned (.int .i64 0) := he.out
        have VA := Lib.hid (VA.out.on hb)
        have VB := Lib.hid (VB.out.on hb)
        have B := Lib.hid (B.out.trans (hb.mono B.out.size))
        obtain ⟨p0, p1, p2, p3, p4⟩ := VB.out.box
        clear hb he HA
        go_wp2_with fail
        refine (HB.out _ VB.out.at_).mono ?_
        rintro e u2 ⟨he, hb⟩
        obtain rfl : e = .returned (.int .i64 0) := he.out
        have VA := Lib.hid (VA.out.on hb)
        have VB := Lib.hid (VB.out.on hb)
        have B := Lib.hid (B.out.trans (hb.mono B.out.size))
        clear hb he HB p0 p1 p2 p3 p4
        obtain ⟨p0, p1, p2, p3, p4⟩ := VA.out.box
        obtain ⟨q0, q1, q2, q3, q4⟩ := VB.out.box
        go_wp2
        go_ret
        exact ⟨by rw [HR.out]; rfl, B.out⟩
    · have HR : Hid (chkD2 a b = e0 + 1) := by unfold chkD2 Hid; rw [if_neg (by omega), if_pos (by omega), g2]
      rw [g1] at HA
      rw [g2] at HB
      clear g1 g2
      have hne := int_ne (show ((e0 + 1 : Nat) : Int) ≠ 0 by omega)
      generalize hE : ((e0 + 1 : Nat) : Int) = E at *
      have HE := Lib.hid hE
      clear hE
      go_enter Tryd.func18, Tryd.ntmps18
      go_wp2_with fail
      rw [← W0.out]
      refine HA.out.mono ?_
      rintro e u1 ⟨he, hb⟩
      obtain rfl : e = .returned (.int .i64 0) := he.out
      have VB := Lib.hid (VB.out.on hb)
      have B := Lib.hid (B.out.trans (hb.mono B.out.size))
      obtain ⟨p0, p1, p2, p3, p4⟩ := VB.out.box
      clear hb he HA
      go_wp2_with fail
      refine (HB.out _ VB.out.at_).mono ?_
      rintro e u2 ⟨he, hb⟩
      obtain rfl : e = .returned (.int .i64 E) := he.out
      have B := Lib.hid (B.out.trans (hb.mono B.out.size))
      clear hb he HB p0 p1 p2 p3 p4
      go_wp2
      go_ret
      exact ⟨by rw [HR.out, HE.out]; rfl, B.out⟩
  · have HR : Hid (chkD2 a b = e0 + 1) := by unfold chkD2 Hid; rw [if_pos (by omega), g1]
    rw [g1] at HA
    clear g1
    have hne := int_ne (show ((e0 + 1 : Nat) : Int) ≠ 0 by omega)
    generalize hE : ((e0 + 1 : Nat) : Int) = E at *
    have HE := Lib.hid hE
    clear hE
    go_enter Tryd.func18, Tryd.ntmps18
    go_wp2_with fail
    rw [← W0.out]
    refine HA.out.mono ?_
    rintro e u1 ⟨he, hb⟩
    obtain rfl : e = .returned (.int .i64 E) := he.out
    have B := Lib.hid (B.out.trans (hb.mono B.out.size))
    clear hb he HA
    go_wp2
    go_ret
    exact ⟨by rw [HR.out, HE.out]; rfl, B.out⟩

end Go.Proofs.YtbciefeipiphiaaDoor.Df

namespace Go.Proofs.YtbciefeipiphiaaDoor.Df
open Go.RowKit Go.IntWalk Go.Proofs.YtbciefeipiphiaaDoor.Wd Go.Proofs.YtbciefeipiphiaaDoor.Wo

theorem size_al' (w : World) (o : Obj) : (w.alloc o).heap.size = w.heap.size + 1 := by simp
/-- A function that returns an automaton out of its own block. -/
theorem res_one {fn : Func} {t : Tmp} (h : fn.results = #[.cell t 25]) (tmps : Array Value) {w : World} {g : Nat} {v0 v1 v2 v3 : Value} (hp : tmps.getD t undef = .pointer (some ⟨g, 0, none⟩))
    (c0 : w.cell? ⟨g, 0, none⟩ = some v0) (c1 : w.cell? ⟨g, 1, none⟩ = some v1) (c2 : w.cell? ⟨g, 2, none⟩ = some v2) (c3 : w.cell? ⟨g, 3, none⟩ = some v3) :
    (results fn tmps).run Tryd.prog w = .ok (.agg #[v0, v1, v2, v3]) w := by
  have hp' : tmps[t]?.getD undef = .pointer (some ⟨g, 0, none⟩) := by simpa using hp
  simp [results, h, hp', go_sem, c0, c1, c2, c3]
end Go.Proofs.YtbciefeipiphiaaDoor.Df
