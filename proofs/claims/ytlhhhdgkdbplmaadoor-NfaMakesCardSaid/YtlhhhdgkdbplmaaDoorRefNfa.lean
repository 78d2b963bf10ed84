/- The walk of the reference's check of automata in many states. -/
import Derived.Test.YtlhhhdgkdbplmaaDoorNfaW
namespace Go.Proofs.YtlhhhdgkdbplmaaDoor.Nf
open Go.RowKit Go.IntWalk Go.Proofs.YtlhhhdgkdbplmaaDoor.Wd Go.Proofs.YtlhhhdgkdbplmaaDoor.Wo Go.Proofs.YtlhhhdgkdbplmaaDoor.Df

set_option maxRecDepth 100000 in
theorem in2_any (x lo hi : Int) (w : World) : Calls Tryd.prog 26 #[.int .i64 x, .int .i64 lo, .int .i64 hi] w fun e w' => e = .returned (.bool (decide (lo ≤ x ∧ x ≤ hi))) ∧ w' = w := by
  by_cases h : lo ≤ x
  · by_cases h2 : x ≤ hi
    · have HR : Hid (decide (lo ≤ x ∧ x ≤ hi) = true) := decide_eq_true ⟨h, h2⟩
      go_enter Tryd.func26, Tryd.ntmps26
      go_wp2
      go_ret
      exact ⟨by rw [HR.out]; rfl, rfl⟩
    · have HR : Hid (decide (lo ≤ x ∧ x ≤ hi) = false) := decide_eq_false (fun q => h2 q.2)
      have hd : decide (x ≤ hi) = false := decide_eq_false h2
      clear h2
      go_enter Tryd.func26, Tryd.ntmps26
      go_wp2
      go_ret
      exact ⟨by rw [HR.out]; rfl, rfl⟩
  · have HR : Hid (decide (lo ≤ x ∧ x ≤ hi) = false) := decide_eq_false (fun q => h q.1)
    have hd : decide (lo ≤ x) = false := decide_eq_false h
    clear h
    go_enter Tryd.func26, Tryd.ntmps26
    go_wp2
    go_ret
    exact ⟨by rw [HR.out]; rfl, rfl⟩
theorem in2_yes (x lo hi : Int) (w : World) (h : lo ≤ x ∧ x ≤ hi) : Calls Tryd.prog 26 #[.int .i64 x, .int .i64 lo, .int .i64 hi] w fun e w' => e = .returned (.bool true) ∧ w' = w :=
  (in2_any x lo hi w).mono fun _ _ ⟨he, hw⟩ => ⟨by rw [he, decide_eq_true h], hw⟩
theorem in2_no (x lo hi : Int) (w : World) (h : ¬ (lo ≤ x ∧ x ≤ hi)) : Calls Tryd.prog 26 #[.int .i64 x, .int .i64 lo, .int .i64 hi] w fun e w' => e = .returned (.bool false) ∧ w' = w :=
  (in2_any x lo hi w).mono fun _ _ ⟨he, hw⟩ => ⟨by rw [he, decide_eq_false h], hw⟩
set_option maxRecDepth 100000 in
set_option maxHeartbeats 4000000 in
theorem rnfa_any (v : Value) (a : Nfa) (w : World) (h : NfaAt w w.heap.size v a) :
    Calls Tryd.prog 8 #[v] w fun e w' => Hid (e = .returned (.int .i64 (nchk a : Nat))) ∧ Below w.heap.size w w' := by
  obtain ⟨L, n, A, c, M, cm, F, cf, rfl, h⟩ := h
  obtain ⟨w1, hw1, hB1, hs1, hX, hd1⟩ := box_nfa w h
  have HB := Lib.hid hB1
  have HW := Lib.hid hw1
  have HX := Lib.hid hX
  have hk1 : a.st.length ≤ 9223372036854775807 := Nat.le_trans h.hc h.hc2
  have hk2 : a.mv.length ≤ 9223372036854775807 := Nat.le_trans h.hm h.hm2
  have hk3 : a.fin.length ≤ 9223372036854775807 := Nat.le_trans h.hf h.hf2
  have heL := h.eL
  have hen := h.en
  have hc0 := hX.c0
  have hc1 := hX.c1
  have hc2 := hX.c2
  have hc3 := hX.c3
  have hc4 := hX.c4
  by_cases g1 : L < 1 ∨ 6 < L
  · have HR : Hid (nchk a = 1) := nchk_range (by rw [heL]; exact .inl g1)
    have HI := Lib.hid (fun W => in2_no L 1 6 W (by omega))
    clear h hd1 hw1 hX hB1 hs1 heL hen HX g1
    generalize a.st.length = ks at *
    generalize a.mv.length = km at *
    generalize a.fin.length = kf at *
    go_enter Tryd.func8, Tryd.ntmps8
    go_wp2_with fail
    rw [← HW.out]
    refine (HI.out _).mono ?_
    rintro e w2 ⟨rfl, hw2⟩
    rw [hw2]
    go_wp2
    go_ret
    exact ⟨by rw [HR.out]; rfl, HB.out⟩
  · have HI := Lib.hid (fun W => in2_yes L 1 6 W (by omega))
    by_cases g2 : n < 1 ∨ 40 < n
    · have HR : Hid (nchk a = 1) := nchk_range (by rw [hen]; exact .inr g2)
      have HI2 := Lib.hid (fun W => in2_no n 1 40 W (by omega))
      clear h hd1 hw1 hX hB1 hs1 heL hen HX g1 g2
      generalize a.st.length = ks at *
      generalize a.mv.length = km at *
      generalize a.fin.length = kf at *
      go_enter Tryd.func8, Tryd.ntmps8
      go_wp2_with fail
      rw [← HW.out]
      refine (HI.out _).mono ?_
      rintro e w2 ⟨rfl, hw2⟩
      rw [hw2]
      go_wp2_with fail
      refine (HI2.out _).mono ?_
      rintro e w3 ⟨rfl, hw3⟩
      rw [hw3]
      go_wp2
      go_ret
      exact ⟨by rw [HR.out]; rfl, HB.out⟩
    · have HI2 := Lib.hid (fun W => in2_yes n 1 40 W (by omega))
      have G1 : Hid (¬ ((a.L < 1 ∨ 6 < a.L) ∨ (a.n < 1 ∨ 40 < a.n))) := by rw [Hid, heL, hen]; omega
      by_cases g3 : (40 < a.st.length ∨ 40 < a.fin.length) ∨ 240 < a.mv.length
      · have HR : Hid (nchk a = 4) := nchk_len G1.out g3
        clear h hd1 hw1 hX hB1 hs1 heL hen HX g1 g2
        generalize a.st.length = ks at *
        generalize a.mv.length = km at *
        generalize a.fin.length = kf at *
        have g3' : 40 < ks ∨ (ks ≤ 40 ∧ 40 < kf) ∨ (ks ≤ 40 ∧ kf ≤ 40 ∧ 240 < km) := by omega
        clear g3
        rcases g3' with g | ⟨ga, g⟩ | ⟨ga, gb, g⟩
        all_goals
          go_enter Tryd.func8, Tryd.ntmps8
          go_wp2_with fail
          rw [← HW.out]
          refine (HI.out _).mono ?_
          rintro e w2 ⟨rfl, hw2⟩
          rw [hw2]
          go_wp2_with fail
          refine (HI2.out _).mono ?_
          rintro e w3 ⟨rfl, hw3⟩
          rw [hw3]
          go_wp2
          go_ret
          exact ⟨by rw [HR.out]; rfl, HB.out⟩
      · obtain ⟨p1, p2, p3, p4⟩ : 1 ≤ L ∧ L ≤ 6 ∧ 1 ≤ n ∧ n ≤ 40 := by omega
        obtain ⟨q1, q2, q3⟩ : a.st.length ≤ 40 ∧ a.fin.length ≤ 40 ∧ a.mv.length ≤ 240 := by omega
        have HN := Lib.hid hd1
        have HE : Hid (a.L = L ∧ a.n = n) := ⟨heL, hen⟩
        have hq : ∀ x, isQ a x ↔ (0 ≤ x ∧ x ≤ n - 1) := fun x => by unfold isQ; rw [hen]; omega
        have HQ := Lib.hid hq
        have HYes := Lib.hid (fun x W (hx : isQ a x) => in2_yes x 0 (n - 1) W ((hq x).1 hx))
        have HNo := Lib.hid (fun x W (hx : ¬ isQ a x) => in2_no x 0 (n - 1) W (fun q => hx ((hq x).2 q)))
        have HLy := Lib.hid (fun x W (hx : -1 ≤ x ∧ x < a.L) => in2_yes x (-1) (L - 1) W (by rw [heL] at hx; omega))
        have HLn := Lib.hid (fun x W (hx : ¬ (-1 ≤ x ∧ x < a.L)) => in2_no x (-1) (L - 1) W (by rw [heL] at hx; omega))
        have HOk : Hid ((∀ x ∈ a.st, isQ a x) → (∀ x ∈ a.fin, isQ a x) → (∀ m ∈ a.mv, isMv a m) → nchk a = 0) := fun k1 k2 k3 => nchk_ok G1.out g3 ⟨k1, k2, k3⟩
        have HBad : Hid (¬ ((∀ x ∈ a.st, isQ a x) ∧ (∀ x ∈ a.fin, isQ a x) ∧ ∀ m ∈ a.mv, isMv a m) → nchk a = 1) := fun k => nchk_bad G1.out g3 k
        have hwr : IntKind.i64.wrap (n - 1) = n - 1 := IntWalk.i64_in _ ⟨by omega, by omega⟩
        have hwl : IntKind.i64.wrap (L - 1) = L - 1 := IntWalk.i64_in _ ⟨by omega, by omega⟩
        have HY : Hid (∀ x ∈ a.st.take 0, isQ a x) := by simp [Hid]
        have HY2 : Hid (∀ x ∈ a.fin.take 0, isQ a x) := by simp [Hid]
        have HY3 : Hid (∀ m ∈ a.mv.take 0, isMv a m) := by simp [Hid]
        clear h hd1 hw1 hX hB1 hs1 heL hen g1 g2 g3 G1 hq
        generalize hl1 : a.st.length = ks at *
        have HS := Lib.hid hl1
        generalize hl2 : a.mv.length = km at *
        have HMl := Lib.hid hl2
        generalize hl3 : a.fin.length = kf at *
        have HFl := Lib.hid hl3
        clear hl1 hl2 hl3
        go_enter Tryd.func8, Tryd.ntmps8
        go_wp2_with fail
        rw [← HW.out]
        clear HW
        refine (HI.out _).mono ?_
        rintro e w2 ⟨rfl, hw2⟩
        rw [hw2]
        clear hw2 w2
        go_wp2_with fail
        refine (HI2.out _).mono ?_
        rintro e w3 ⟨rfl, hw3⟩
        rw [hw3]
        clear hw3 w3 HI HI2
        have HBz : Hid (Below w1.heap.size w1 w1) := Below.refl _ _
        go_wp2
        go_loopw [3] (fun i wr => ∃ (k : Nat), k ≤ ks ∧ i = .int .i64 k ∧ Hid (Below w1.heap.size w1 wr) ∧ Hid (∀ x ∈ a.st.take k, isQ a x)) (fun i _ => ks - (intOf i).toNat)
        case atStart => exact ⟨0, by omega, rfl, HBz, HY⟩
        case round =>
          clear HY HBz hc0 hc1 hc2 hc3 hc4
          obtain ⟨k, hk, rfl, HBr, HU⟩ := hrel
          have hX5 := HX.out.on HBr.out
          have hc1 := hX5.c1
          have hc2 := hX5.c2
          have hc4 := hX5.c4
          clear hX5
          by_cases hlt : k < ks
          · have hlt' : k < a.st.length := by rw [HS.out]; exact hlt
            obtain ⟨ad, e, hadb, hcell, _⟩ := (HN.out.on HBr.out).st.get (List.getElem?_eq_getElem hlt')
            subst e
            have e3 : (k : Int) < (ks : Int) := by omega
            by_cases he : isQ a a.st[k]
            · have HC := Lib.hid (fun W => HYes.out a.st[k] W he)
              have HU1 := Lib.hid (all_take_succ HU.out hlt' he)
              clear he
              generalize a.st[k] = x at *
              go_wp2_with fail
              go_quiet ((go_at_call 26; first | with_reducible exact Calls.quiet_of_same (HC.out _)))
              go_wp2
              go_roundw
              case rel => exact ⟨k + 1, by omega, by go_num, Lib.hid (below_drewN HBr.out _), HU1⟩
              case measure => simp [intOf]; omega
            · have HC := Lib.hid (fun W => HNo.out a.st[k] W he)
              have HR := Lib.hid (HBad.out fun q => he (q.1 _ (List.getElem_mem hlt')))
              clear he
              generalize a.st[k] = x at *
              go_wp2_with fail
              go_quiet ((go_at_call 26; first | with_reducible exact Calls.quiet_of_same (HC.out _)))
              go_wp2
              go_ret
              exact ⟨by rw [HR.out]; rfl, HB.out.trans ((below_drewN HBr.out _).mono HB.out.size)⟩
          · have HSt := Lib.hid (all_take_end HU.out (show a.st.length ≤ k by rw [HS.out]; omega))
            clear HU
            go_wp2
            go_loopw [4] (fun i wr => ∃ (k : Nat), k ≤ kf ∧ i = .int .i64 k ∧ Hid (Below w1.heap.size w1 wr) ∧ Hid (∀ x ∈ a.fin.take k, isQ a x)) (fun i _ => kf - (intOf i).toNat)
            case atStart => exact ⟨0, by omega, rfl, HBr, HY2⟩
            case round =>
              clear HY2 HBr hc1 hc2 hc4
              obtain ⟨k, hk, rfl, HBr, HU⟩ := hrel
              have hX5 := HX.out.on HBr.out
              have hc1 := hX5.c1
              have hc3 := hX5.c3
              have hc4 := hX5.c4
              clear hX5
              by_cases hlt : k < kf
              · have hlt' : k < a.fin.length := by rw [HFl.out]; exact hlt
                obtain ⟨ad, e, hadb, hcell, _⟩ := (HN.out.on HBr.out).fin.get (List.getElem?_eq_getElem hlt')
                subst e
                have e3 : (k : Int) < (kf : Int) := by omega
                by_cases he : isQ a a.fin[k]
                · have HC := Lib.hid (fun W => HYes.out a.fin[k] W he)
                  have HU1 := Lib.hid (all_take_succ HU.out hlt' he)
                  clear he
                  generalize a.fin[k] = x at *
                  go_wp2_with fail
                  go_quiet ((go_at_call 26; first | with_reducible exact Calls.quiet_of_same (HC.out _)))
                  go_wp2
                  go_roundw
                  case rel => exact ⟨k + 1, by omega, by go_num, Lib.hid (below_drewN HBr.out _), HU1⟩
                  case measure => simp [intOf]; omega
                · have HC := Lib.hid (fun W => HNo.out a.fin[k] W he)
                  have HR := Lib.hid (HBad.out fun q => he (q.2.1 _ (List.getElem_mem hlt')))
                  clear he
                  generalize a.fin[k] = x at *
                  go_wp2_with fail
                  go_quiet ((go_at_call 26; first | with_reducible exact Calls.quiet_of_same (HC.out _)))
                  go_wp2
                  go_ret
                  exact ⟨by rw [HR.out]; rfl, HB.out.trans ((below_drewN HBr.out _).mono HB.out.size)⟩
              · have HFi := Lib.hid (all_take_end HU.out (show a.fin.length ≤ k by rw [HFl.out]; omega))
                clear HU
                have HB0 := HBr
                clear hc1 hc3 hc4 HBr
                have hc3 := (HX.out.on HB0.out).c3
                have hc4 := (HX.out.on HB0.out).c4
                go_wp2
                clear hc4
                go_loopw [5] (fun i wr => ∃ (k : Nat), k ≤ km ∧ i = .int .i64 k ∧ Hid (Below w1.heap.size w1 wr) ∧ Hid (∀ m ∈ a.mv.take k, isMv a m)) (fun i _ => km - (intOf i).toNat)
                case atStart => exact ⟨0, by omega, rfl, HB0, HY3⟩
                case round =>
                  clear HY3 hc3
                  obtain ⟨k, hk, rfl, HBr, HU⟩ := hrel
                  have hc3 := (HX.out.on HBr.out).c3
                  by_cases hlt : k < km
                  · have hlt' : k < a.mv.length := by rw [HMl.out]; exact hlt
                    obtain ⟨ad, e, hadb, m0, m1, m2⟩ := (HN.out.on HBr.out).mv.at_ (List.getElem?_eq_getElem hlt')
                    subst e
                    have e3 : (k : Int) < (km : Int) := by omega
                    have HMem := Lib.hid (List.getElem_mem hlt')
                    have HUn := Lib.hid (fun hp => all_take_succ HU.out hlt' hp)
                    obtain ⟨⟨x, y, z⟩, hq⟩ : ∃ q, q = a.mv[k] := ⟨_, rfl⟩
                    rw [← hq] at m0 m1 m2 HMem HUn
                    simp only at m0 m1 m2
                    have HBa := Lib.hid (HBr.out.trans ((below_alloc wr (.cells #[.int .i64 x, .int .i64 y, .int .i64 z] 64)).mono HBr.out.size))
                    have hX5 := HX.out.on HBr.out
                    have hc0 := hX5.c0
                    have hc1 := hX5.c1
                    have hgl := hX5.lt
                    clear hq hlt' hX5
                    have hrange : isQ a x ∧ isQ a z ∧ (-1 ≤ y ∧ y < a.L) → isMv a (x, y, z) := fun q => ⟨q.1, q.2.1, q.2.2.1, q.2.2.2⟩
                    by_cases d1 : isQ a x
                    · have HC1 := Lib.hid (fun W => HYes.out x W d1)
                      by_cases d2 : isQ a z
                      · have HC2 := Lib.hid (fun W => HYes.out z W d2)
                        by_cases d3 : -1 ≤ y ∧ y < a.L
                        · have HC3 := Lib.hid (fun W => HLy.out y W d3)
                          have HU2 := Lib.hid (HUn.out (hrange ⟨d1, d2, d3⟩))
                          clear d1 d2 d3 hrange
                          go_wp2_with fail
                          refine (HC1.out _).mono ?_
                          rintro e w4 ⟨rfl, hw4⟩
                          rw [hw4]
                          clear hw4
                          go_wp2_with fail
                          refine (HC2.out _).mono ?_
                          rintro e w5 ⟨rfl, hw5⟩
                          rw [hw5]
                          clear hw5
                          go_wp2_with fail
                          refine (HC3.out _).mono ?_
                          rintro e w6 ⟨rfl, hw6⟩
                          rw [hw6]
                          clear hw6
                          go_wp2
                          go_roundw
                          case rel => exact ⟨k + 1, by omega, by go_num, HBa, HU2⟩
                          case measure => simp [intOf]; omega
                        · have HC3 := Lib.hid (fun W => HLn.out y W d3)
                          have HR := Lib.hid (HBad.out fun q => d3 (q.2.2 _ HMem.out).2.2)
                          have HB6 := Lib.hid (HB.out.trans (HBa.out.mono HB.out.size))
                          clear d1 d2 d3 hrange
                          go_wp2_with fail
                          refine (HC1.out _).mono ?_
                          rintro e w4 ⟨rfl, hw4⟩
                          rw [hw4]
                          clear hw4
                          go_wp2_with fail
                          refine (HC2.out _).mono ?_
                          rintro e w5 ⟨rfl, hw5⟩
                          rw [hw5]
                          clear hw5
                          go_wp2_with fail
                          refine (HC3.out _).mono ?_
                          rintro e w6 ⟨rfl, hw6⟩
                          rw [hw6]
                          clear hw6
                          go_wp2
                          go_ret
                          exact ⟨by rw [HR.out]; rfl, HB6.out⟩
                      · have HC2 := Lib.hid (fun W => HNo.out z W d2)
                        have HR := Lib.hid (HBad.out fun q => d2 (q.2.2 _ HMem.out).2.1)
                        have HB6 := Lib.hid (HB.out.trans (HBa.out.mono HB.out.size))
                        clear d1 d2 hrange
                        go_wp2_with fail
                        refine (HC1.out _).mono ?_
                        rintro e w4 ⟨rfl, hw4⟩
                        rw [hw4]
                        clear hw4
                        go_wp2_with fail
                        refine (HC2.out _).mono ?_
                        rintro e w5 ⟨rfl, hw5⟩
                        rw [hw5]
                        clear hw5
                        go_wp2
                        go_ret
                        exact ⟨by rw [HR.out]; rfl, HB6.out⟩
                    · have HC1 := Lib.hid (fun W => HNo.out x W d1)
                      have HR := Lib.hid (HBad.out fun q => d1 (q.2.2 _ HMem.out).1)
                      have HB6 := Lib.hid (HB.out.trans (HBa.out.mono HB.out.size))
                      clear d1 hrange
                      go_wp2_with fail
                      refine (HC1.out _).mono ?_
                      rintro e w4 ⟨rfl, hw4⟩
                      rw [hw4]
                      clear hw4
                      go_wp2
                      go_ret
                      exact ⟨by rw [HR.out]; rfl, HB6.out⟩
                  · have HR := Lib.hid (HOk.out HSt.out HFi.out (all_take_end HU.out (by rw [HMl.out]; omega)))
                    have HB5 := Lib.hid (HB.out.trans (HBr.out.mono HB.out.size))
                    go_wp2
                    go_ret
                    exact ⟨by rw [HR.out]; rfl, HB5.out⟩
end Go.Proofs.YtlhhhdgkdbplmaaDoor.Nf
