/- The walks of the document's answer for package dfa: stilewardref1's Dfa, Two, Run, Accepts and Not. -/
import Derived.Test.YtfiknbdpjnpkdaaDoorDfaV
import Derived.Test.YtfiknbdpjnpkdaaDoorRefWord
namespace Go.Proofs.YtfiknbdpjnpkdaaDoor.Df
open Go.RowKit Go.IntWalk Go.Proofs.YtfiknbdpjnpkdaaDoor.Wd Go.Proofs.YtfiknbdpjnpkdaaDoor.Wo

set_option maxRecDepth 100000 in
set_option maxHeartbeats 2000000 in
theorem rdfa_any (v : Value) (d : Aut) (w : World) (h : DfaAt w w.heap.size v d) :
    Calls Tryd.prog 7 #[v] w fun e w' => Hid (e = .returned (.int .i64 (dchk d : Nat))) ∧ Below w.heap.size w w' := by
  obtain ⟨L, s, A, c, F, cf, rfl, h⟩ := h
  obtain ⟨w1, hw1, hB1, hX, hd1⟩ := box_dfa w h
  have HB := Lib.hid hB1
  have HW := Lib.hid hw1
  have hn : d.next.length ≤ 9223372036854775807 := Nat.le_trans h.hc h.hc2
  have hc0 := hX.c0
  have hc1 := hX.c1
  have hc2 := hX.c2
  have hc3 := hX.c3
  by_cases g : L < 1 ∨ 6 < L
  · have HR : Hid (dchk d = 1) := dchk_bad_L (by rw [h.eL]; exact g)
    have HI := Lib.hid (fun W => within_no L 1 6 W (by omega))
    clear h hd1 hw1 hX hB1 g
    generalize d.next.length = n at *
    go_enter Tryd.func7, Tryd.ntmps7
    go_wp2_with fail
    rw [← HW.out]
    refine (HI.out _).mono ?_
    rintro e w2 ⟨rfl, rfl⟩
    go_wp2
    go_ret
    exact ⟨by rw [HR.out]; rfl, HB.out⟩
  · have HI := Lib.hid (fun W => within_yes L 1 6 W (by omega))
    by_cases g3 : 40 < d.next.length
    · have HR : Hid (dchk d = 4) := dchk_bad_n (by rw [h.eL]; exact g) g3
      clear h hd1 hw1 hX hB1 g
      generalize d.next.length = n at *
      go_enter Tryd.func7, Tryd.ntmps7
      go_wp2_with fail
      rw [← HW.out]
      refine (HI.out _).mono ?_
      rintro e w2 ⟨rfl, rfl⟩
      go_wp2
      go_ret
      exact ⟨by rw [HR.out]; rfl, HB.out⟩
    · by_cases g4 : d.next.length = 0
      · have HR : Hid (dchk d = 3) := dchk_bad_shape (by rw [h.eL]; exact g) g3 (fun q => q.1 g4)
        have h1 := int_eq (show (d.next.length : Int) = 0 by omega)
        clear h hd1 hw1 hX hB1 g g4
        generalize d.next.length = n at *
        go_enter Tryd.func7, Tryd.ntmps7
        go_wp2_with fail
        rw [← HW.out]
        refine (HI.out _).mono ?_
        rintro e w2 ⟨rfl, rfl⟩
        go_wp2
        go_ret
        exact ⟨by rw [HR.out]; rfl, HB.out⟩
      · have h1 := int_ne (show (d.next.length : Int) ≠ 0 by omega)
        by_cases g5 : d.fin.length = d.next.length
        · have h2 := int_eq' (show (d.fin.length : Int) = (d.next.length : Int) by omega)
          have HRs : Hid (∀ r ∈ d.next, ¬ ((r.length : Nat) : Int) = L → dchk d = 3) := fun r hr q => dchk_bad_shape (by rw [h.eL]; exact g) g3 (fun k => q (by rw [k.2.2 r hr, h.eL]))
          have HSh : Hid ((∀ r ∈ d.next, ((r.length : Nat) : Int) = L) → shaped d) := fun k => ⟨g4, g5, by rw [h.eL]; exact k⟩
          have HSt : Hid (shaped d → ¬ isSt d s → dchk d = 1) := fun k q => dchk_bad_s (by rw [h.eL]; exact g) g3 k (by rw [h.es]; exact q)
          have HT : Hid (shaped d → isSt d s → (∀ r ∈ d.next, ∀ x ∈ r, isSt d x) → dchk d = 0) := fun k q => dchk_ok (by rw [h.eL]; exact g) g3 k (by rw [h.es]; exact q)
          have HF : Hid (shaped d → isSt d s → ∀ r ∈ d.next, ∀ x ∈ r, ¬ isSt d x → dchk d = 1) := fun k q r hr x hx kx => dchk_bad_go (by rw [h.eL]; exact g) g3 k (by rw [h.es]; exact q) hr hx kx
          have HY : Hid (∀ r ∈ d.next.take 0, ((r.length : Nat) : Int) = L) := by simp [Hid]
          have HN := Lib.hid hd1.rows
          have HSm : Hid (Small s) := h.hs
          have HeL : Hid (d.L = L) := h.eL
          have hL1 : 1 ≤ L := by omega
          have hL6 : L ≤ 6 := by omega
          clear h hd1 hw1 hB1 g g5
          have HX := Lib.hid hX
          clear hX
          generalize hm : d.fin.length = m at *
          clear hm
          generalize hnn : d.next.length = n at *
          have HLen := Lib.hid hnn
          clear hnn
          have HIs : Hid (∀ x, isSt d x ↔ (0 ≤ x ∧ x ≤ (n : Int) - 1)) := fun x => by
            unfold isSt; rw [HLen.out]; constructor <;> rintro ⟨a, b⟩ <;> exact ⟨a, by omega⟩
          have HI2 := Lib.hid (fun x W (hx : isSt d x) => within_yes x 0 ((n : Int) - 1) W ((HIs.out x).1 hx))
          have HI3 := Lib.hid (fun x W (hx : ¬ isSt d x) => within_no x 0 ((n : Int) - 1) W (fun q => hx ((HIs.out x).2 q)))
          have hwr : IntKind.i64.wrap ((n : Int) - 1) = (n : Int) - 1 := IntWalk.i64_in _ ⟨by omega, by omega⟩
          go_enter Tryd.func7, Tryd.ntmps7
          go_wp2_with fail
          rw [← HW.out]
          clear HW
          refine (HI.out _).mono ?_
          rintro e w2 ⟨rfl, rfl⟩
          go_wp2
          go_loopw [4] (fun i wr => ∃ (k j : Nat), k ≤ n ∧ i = .int .i64 k ∧ wr = w1.drewN j ∧ Hid (∀ r ∈ d.next.take k, ((r.length : Nat) : Int) = L)) (fun i _ => n - (intOf i).toNat)
          case atStart => exact ⟨0, 0, by omega, rfl, rfl, HY⟩
          case round =>
            clear HY
            obtain ⟨k, j, hk, rfl, rfl, HU⟩ := hrel
            by_cases hlt : k < n
            · have hlt' : k < d.next.length := by rw [HLen.out]; exact hlt
              obtain ⟨ad, A', c', rfl, hadb, hcell, _, _, _⟩ := HN.out k _ (List.getElem?_eq_getElem hlt')
              by_cases he : ((d.next[k].length : Nat) : Int) = L
              · have HU1 := Lib.hid (all_take_succ HU.out hlt' he)
                have he1 := int_eq' he
                clear he
                generalize d.next[k] = r0 at *
                go_wp2
                go_region
                go_wp2
                go_roundw
                case rel => exact ⟨k + 1, _, by omega, by go_num, rfl, HU1⟩
                case measure => simp [intOf]; omega
              · have he1 := int_ne' he
                have HR := Lib.hid (HRs.out _ (List.getElem_mem hlt') he)
                clear he
                generalize d.next[k] = r0 at *
                go_wp2
                go_region
                go_wp2
                go_ret
                exact ⟨by rw [HR.out]; rfl, below_drewN HB.out _⟩
            · have HSH := Lib.hid (HSh.out (all_take_end HU.out (by rw [HLen.out]; omega)))
              have hB2 := below_drewN HB.out j
              have HX2 := HX.out.on (below_drewN (Below.refl _ w1) j)
              have HN2 := HN.out.on (below_drewN (Below.refl _ w1) j)
              have HB := Lib.hid hB2
              have HX := Lib.hid HX2
              have HN := Lib.hid HN2
              clear hB2 HX2 HN2
              generalize w1.drewN j = w3 at *
              have hc0 := HX.out.c0
              have hc1 := HX.out.c1
              have hc2 := HX.out.c2
              go_wp2_with fail
              by_cases g6 : isSt d s
              · refine (HI2.out s _ g6).mono ?_
                rintro e w4 ⟨rfl, rfl⟩
                have HT := Lib.hid (HT.out HSH.out g6)
                have HF := Lib.hid (HF.out HSH.out g6)
                clear g6
                have HY : Hid (∀ r ∈ d.next.take 0, ∀ x ∈ r, isSt d x) := by simp [Hid]
                go_wp2
                go_loop [5] (fun i => ∃ (k : Nat), k ≤ n ∧ i = .int .i64 k ∧ Hid (∀ r ∈ d.next.take k, ∀ x ∈ r, isSt d x)) (fun i => n - (intOf i).toNat)
                case atStart => exact ⟨0, by omega, rfl, HY⟩
                case round =>
                  clear HY
                  obtain ⟨k, hk, rfl, HU⟩ := hrel
                  by_cases hlt : k < n
                  · have hlt' : k < d.next.length := by rw [HLen.out]; exact hlt
                    obtain ⟨ad, A', c', rfl, hadb, hcell, _, _, hz⟩ := HN.out k _ (List.getElem?_eq_getElem hlt')
                    have HZ := Lib.hid hz
                    have HM : Hid (d.next[k] ∈ d.next) := List.getElem_mem hlt'
                    have hrl := HSH.out.2.2 _ HM.out
                    have HU1 : Hid ((∀ x ∈ d.next[k], isSt d x) → ∀ r ∈ d.next.take (k + 1), ∀ x ∈ r, isSt d x) := fun q => all_take_succ HU.out hlt' q
                    have HY : Hid (∀ x ∈ (d.next[k]).take 0, isSt d x) := by simp [Hid]
                    rw [HeL.out] at hrl
                    clear hz
                    generalize d.next[k] = r0 at *
                    go_wp2
                    go_loop [6] (fun i => ∃ (j : Nat), j ≤ r0.length ∧ i = .int .i64 j ∧ Hid (∀ x ∈ r0.take j, isSt d x)) (fun i => r0.length - (intOf i).toNat)
                    case atStart => exact ⟨0, by omega, rfl, HY⟩
                    case round =>
                      clear HY
                      obtain ⟨j, hj, rfl, HV⟩ := hrel
                      by_cases hlj : j < r0.length
                      · obtain ⟨ad2, rfl, hadb2, hcell2, hs1, hs2⟩ := HZ.out.at_ j hlj
                        by_cases he : isSt d r0[j]
                        · have HC := Lib.hid (fun W => HI2.out r0[j] W he)
                          have HV1 := Lib.hid (all_take_succ HV.out hlj he)
                          clear he
                          generalize r0[j] = x at *
                          go_wp2_with fail
                          refine (HC.out _).mono ?_
                          rintro e w5 ⟨rfl, rfl⟩
                          go_wp2
                          go_round
                          case rel => exact ⟨j + 1, by omega, by go_num, HV1⟩
                          case measure => simp [intOf]; omega
                        · have HC := Lib.hid (fun W => HI3.out r0[j] W he)
                          have HR := Lib.hid (HF.out _ HM.out _ (List.getElem_mem hlj) he)
                          clear he
                          generalize r0[j] = x at *
                          go_wp2_with fail
                          refine (HC.out _).mono ?_
                          rintro e w5 ⟨rfl, rfl⟩
                          go_wp2
                          go_ret
                          exact ⟨by rw [HR.out]; rfl, HB.out⟩
                      · have HV1 := Lib.hid (HU1.out (all_take_end HV.out (by omega)))
                        go_wp2
                        go_round
                        case rel => exact ⟨k + 1, by omega, by go_num, HV1⟩
                        case measure => simp [intOf]; omega
                  · have HR := Lib.hid (HT.out (all_take_end HU.out (by rw [HLen.out]; omega)))
                    go_wp2
                    go_ret
                    exact ⟨by rw [HR.out]; rfl, HB.out⟩
              · refine (HI3.out s _ g6).mono ?_
                rintro e w4 ⟨rfl, rfl⟩
                have HR := Lib.hid (HSt.out HSH.out g6)
                clear g6
                go_wp2
                go_ret
                exact ⟨by rw [HR.out]; rfl, HB.out⟩
        · have h2 := int_ne' (show (d.fin.length : Int) ≠ (d.next.length : Int) by omega)
          have HR : Hid (dchk d = 3) := dchk_bad_shape (by rw [h.eL]; exact g) g3 (fun q => g5 q.2.1)
          clear h hd1 hw1 hX hB1 g g5
          generalize d.next.length = n at *
          generalize d.fin.length = m at *
          go_enter Tryd.func7, Tryd.ntmps7
          go_wp2_with fail
          rw [← HW.out]
          refine (HI.out _).mono ?_
          rintro e w2 ⟨rfl, rfl⟩
          go_wp2
          go_ret
          exact ⟨by rw [HR.out]; rfl, HB.out⟩

end Go.Proofs.YtfiknbdpjnpkdaaDoor.Df
