/- The walk of the document's automaton of the pairs that are in: stilewardref3's within. -/
import Derived.Test.YtbciefeipiphiaaDoorRefWd
import Derived.Deep.QuietTactic
import Derived.BigQuiet
namespace Go.Proofs.YtbciefeipiphiaaDoor.Su
open Go.RowKit Go.IntWalk Go.Proofs.YtbciefeipiphiaaDoor.Wd Go.Proofs.YtbciefeipiphiaaDoor.Wo Go.Proofs.YtbciefeipiphiaaDoor.Df Go.Proofs.YtbciefeipiphiaaDoor.Rc Go.Proofs.YtbciefeipiphiaaDoor.Sm

set_option linter.unusedSimpArgs false in
set_option maxRecDepth 100000 in
set_option maxHeartbeats 16000000 in
theorem rwithin_any (v z : Value) (P D : Aut) (w : World) (ha : DfaAt w w.heap.size v P) (hb : DfaAt w w.heap.size z D) (hg : Good2 P D) {l0 : List Pr} (hf : found (S2 P D) (start2 P D) = some l0) {Ax : Option Addr} {cx : Nat} {rx : List Br} {X : PS} (hx : TabAt w Ax D.next.length rx) (hxl : rx.length = P.next.length) (hxr : RowsM D.next.length rx X) (hin : inX X (start2 P D) = true) :
    Calls Tryd.prog 25 #[v, z, .slice Ax P.next.length cx] w fun e w' => Hid (∃ x K, e = .returned x ∧ Wi P D X K ∧ DfaOwn w w' x (wA P D X K)) := by
  obtain ⟨L, s, A, c, F, cf, rfl, ha⟩ := ha
  obtain ⟨L', t, C, d, G, cg, rfl, hb⟩ := hb
  obtain ⟨wx, hwx, hBx, hX, hd1⟩ := box_dfa w ha
  obtain ⟨w1, hw1, hB1, hY, hd2⟩ := box_dfa wx (hb.on hBx)
  have hs1 : wx.heap.size = w.heap.size + 1 := by rw [hwx]; simp
  have hs2 : w1.heap.size = w.heap.size + 1 + 1 := by rw [hw1]; simp; omega
  rw [hs1] at hY
  have hbb := hBx.trans (hB1.mono hBx.size)
  have hres := below_alloc w1 (.cells #[.int .i64 0, .int .i64 0, .slice none 0 0, .slice none 0 0] 25)
  have HB := Lib.hid hbb
  have HX := Lib.hid (hX.on hB1)
  have HY := Lib.hid hY
  have HX2 := Lib.hid (HX.out.on hres)
  have HY2 := Lib.hid (HY.out.on hres)
  have HDA := Lib.hid (hd1.on hB1)
  have HDB := Lib.hid hd2
  have HXt := Lib.hid (hx.on hbb)
  have HXl := Lib.hid hxl
  have HXr := Lib.hid hxr
  have HIn := Lib.hid hin
  have HF0 := Lib.hid hf
  have HW : Hid (w1 = (w.alloc (.cells #[.int .i64 L, .int .i64 s, .slice A P.next.length c, .slice F P.fin.length cf] 25)).alloc (.cells #[.int .i64 L', .int .i64 t, .slice C D.next.length d, .slice G D.fin.length cg] 25)) := by
    rw [← hwx]; exact hw1
  have HG := Lib.hid hg
  have HO := Lib.hid ((own_start w1).dfa (.int .i64 0) (.int .i64 0) (.slice none 0 0) (.slice none 0 0))
  rw [hs2] at HO
  obtain ⟨n, hn⟩ := Int.eq_ofNat_of_zero_le (show 0 ≤ L by have := hg.ga.l1; have := ha.eL; omega)
  obtain ⟨p0, hp0⟩ := Int.eq_ofNat_of_zero_le (show 0 ≤ s by have := hg.ga.st.1; have := ha.es; omega)
  obtain ⟨q0, hq0⟩ := Int.eq_ofNat_of_zero_le (show 0 ≤ t by have := hg.gb.st.1; have := hb.es; omega)
  subst hn hp0 hq0
  have HL : Hid (P.L = (n : Int)) := ha.eL
  have hn6 : n ≤ 6 := by have := hg.ga.l6; have := ha.eL; omega
  have HS0 : Hid (start2 P D = (p0, q0)) := by
    have h1 := ha.es
    have h2 := hb.es
    unfold start2 Hid; rw [h1, h2]; rfl
  have hfin1 := hg.ga.fin
  have hfin2 := hg.gb.fin
  have hM40 := hg.ga.n40
  have hN40 := hg.gb.n40
  have hN01 := hg.gb.n1
  clear hwx hw1 hBx hB1 hbb hX hY hd1 hd2 hs1 hs2 ha hb hg hx hxl hxr hin hf hres
  generalize hm1 : P.fin.length = fa at *
  generalize hm2 : D.fin.length = fb at *
  generalize hM : P.next.length = M at *
  generalize hN : D.next.length = N at *
  have HM := Lib.hid hM
  have HN := Lib.hid hN
  have HFA := Lib.hid hm1
  have HFB := Lib.hid hm2
  have hfa1 : fa ≤ M := by omega
  have hfa2 : M ≤ fa := by omega
  have hfb1 : fb ≤ N := by omega
  have hfb2 : N ≤ fb := by omega
  clear hM hN hm1 hm2 hfin1 hfin2
  have hc0 := HX2.out.c0
  have hc1 := HX2.out.c1
  have hc2 := HX2.out.c2
  have hc3 := HX2.out.c3
  have hd0 := HY2.out.c0
  have hd1' := HY2.out.c1
  have hd2' := HY2.out.c2
  have hd3 := HY2.out.c3
  have HS : Hid (QX w1 ((((w1.alloc (.cells #[.int .i64 0, .int .i64 0, .slice none 0 0, .slice none 0 0] 25)).alloc (.cells #[.int .i64 (n : Int), .int .i64 0, .slice none 0 0, .slice none 0 0] 25)).alloc (.cells #[.int .i64 (p0 : Int)] 3)).alloc (.cells #[.int .i64 (q0 : Int)] 3)) (w.heap.size + 1 + 1 + 1) (w.heap.size + 1 + 1) P D X n 0 (.slice (some ⟨w.heap.size + 1 + 1 + 1 + 1, 0, none⟩) 1 1) (.slice (some ⟨w.heap.size + 1 + 1 + 1 + 1 + 1, 0, none⟩) 1 1)) := by
    have h1 := HO.out.dfa (.int .i64 (n : Int)) (.int .i64 0) (.slice none 0 0) (.slice none 0 0)
    have h2 := h1.lit 3 1 1 #[.int .i64 (p0 : Int)] rfl (by simp [maxLen])
    have h3 := h2.lit 3 1 1 #[.int .i64 (q0 : Int)] rfl (by simp [maxLen])
    have hs2 : w1.heap.size = w.heap.size + 1 + 1 := by rw [HW.out]; simp
    simp only [size_al', hs2] at h3
    have hp := part_zero (SX P D X) (start2 P D)
    refine ⟨_, .slice none 0 0, .slice none 0 0, [], hp, farR_nil, rfl, ?_⟩
    rw [HS0.out]
    exact ((h3.re [2, 3, 1, 0] 4 rfl (by decide)).nil 4 1).nil 27 1
  go_enter Tryd.func25, Tryd.ntmps25
  go_wp2
  rw [← HW.out]
  clear HW hc0 hc1 hc2 hc3 hd0 hd1' hd2' hd3 HX2 HY2 HO
  generalize w.heap.size + 1 + 1 + 1 = g at *
  go_loopw [8, 9, 10] (fun xv yv i wr => ∃ (k : Nat), k ≤ 40 ∧ i = .int .i64 k ∧ Hid (QX w1 wr g (w.heap.size + 1 + 1) P D X n k xv yv)) (fun _ _ i _ => 41 - (intOf i).toNat)
  case atStart => exact ⟨0, by omega, rfl, HS⟩
  case round =>
    clear HS
    obtain ⟨k, hk, rfl, HS⟩ := hrel
    obtain ⟨l, nv, fv, rs, hpart, hfar, hbd⟩ := HS.out
    have HP := Lib.hid hpart
    have HFar := Lib.hid hfar
    have HBd := Lib.hid hbd
    obtain ⟨Axx, cxx, hxv, hxa⟩ := own_read hbd.2 (v := u8) (l := fsts l) (by simp)
    obtain ⟨Ay, cy, hyv, hya⟩ := own_read hbd.2 (v := u9) (l := snds l) (by simp)
    rw [fsts_len] at hxv
    rw [snds_len] at hyv
    subst hxv hyv
    have h40 := hpart.n40
    have hkl := hpart.le
    clear HS hpart hbd hxa hya hfar
    by_cases hlt : k < l.length
    · obtain ⟨⟨x, y⟩, hxy⟩ : ∃ q, l[k]? = some q := ⟨_, List.getElem?_eq_getElem hlt⟩
      have HRc := Lib.hid (rch_sx (HP.out.rch _ (List.mem_of_getElem? hxy)))
      obtain ⟨hx, hy⟩ := rch_lt HG.out HRc.out
      simp only at hx hy
      have HXY := Lib.hid hxy
      obtain ⟨HRS, hown⟩ := HBd.out
      have HRS := Lib.hid HRS
      have HR0 : Hid (TX w1 wr g (w.heap.size + 1 + 1) P D X k l (x, y) n 0 nv fv rs (.slice Axx l.length cxx) (.slice Ay l.length cy) (.slice none 0 0)) := by
        unfold Hid TX
        exact (hown.nil 3 1).re [5, 6, 0, 1, 2, 3, 4] 7 rfl (by decide)
      clear hown hxy HBd
      go_wp2
      go_loopw [8, 9, 11, 12] (fun xv yv rv i wi => ∃ (q : Nat), q ≤ n ∧ i = .int .i64 q ∧ Hid (TX w1 wi g (w.heap.size + 1 + 1) P D X k l (x, y) n q nv fv rs xv yv rv)) (fun _ _ _ i _ => n - (intOf i).toNat)
      case atStart => exact ⟨0, by omega, rfl, HR0⟩
      case round =>
        clear HR0
        obtain ⟨q, hq, rfl, HR⟩ := hrel
        have hR := HR.out
        unfold TX at hR
        have hbi := hR.below
        have HXi := Lib.hid (HX.out.on hbi)
        have HYi := Lib.hid (HY.out.on hbi)
        have hc0 := HXi.out.c0
        by_cases hqn : q < n
        · as_aux_lemma =>
            obtain ⟨ada, ara, ma, ca, eA, ha0, ha1, ha2, ha3, ha4⟩ := (HDA.out.on hbi).step_at HG.out.ga (q := x) (i := q) hx (by rw [HL.out]; omega)
            obtain ⟨adb, arb, mb, cb, eB, hb0, hb1, hb2, hb3, hb4⟩ := (HDB.out.on hbi).step_at HG.out.gb (q := y) (i := q) hy (by rw [← HG.out.eL, HL.out]; omega)
            subst eA eB
            have HT := Lib.hid (S2_get P D (x, y) (c := q) (by rw [HL.out]; omega))
            obtain ⟨hsx, hsy⟩ := rch_lt HG.out (.next HRc.out (List.mem_of_getElem? HT.out))
            simp only at HT hsx hsy
            rw [HM.out] at hx hsx
            rw [HN.out] at hy hsy
            generalize Df.step P x q = sa at *
            generalize Df.step D y q = sb at *
            have hLn : (addAll l (SXc P D X (x, y) q)).length ≤ 100 := by
              have h1 := addAll_length_le l (SXc P D X (x, y) q)
              have h2 := sxc_len P D X (x, y) q
              omega
            have hLk : (addAll l (SXc P D X (x, y) q))[k]? = some (x, y) := by
              obtain ⟨m, hm⟩ := addAll_prefix l (SXc P D X (x, y) q)
              rw [hm, List.getElem?_append_left hlt]; exact HXY.out
            have hTl : (rowX P D X l (x, y) q).length ≤ 100 := by
              have := rowX_len P D X l (x, y) q
              omega
            have HNext : Hid ((inX X (sa, sb) = true → addAll l (SXc P D X (x, y) (q + 1)) = addTo (addAll l (SXc P D X (x, y) q)) (sa, sb) ∧ rowX P D X l (x, y) (q + 1) = rowX P D X l (x, y) q ++ [((num (addTo (addAll l (SXc P D X (x, y) q)) (sa, sb)) (sa, sb) : Nat) : Int)]) ∧
                (inX X (sa, sb) = false → addAll l (SXc P D X (x, y) (q + 1)) = addAll l (SXc P D X (x, y) q) ∧ rowX P D X l (x, y) (q + 1) = rowX P D X l (x, y) q ++ [-1])) :=
              ⟨fun h => ⟨all_in HT.out h, rowX_in HT.out h⟩, fun h => ⟨all_out HT.out h, rowX_out HT.out h⟩⟩
            generalize addAll l (SXc P D X (x, y) q) = Lq at *
            generalize rowX P D X l (x, y) q = tq at *
            generalize hbs : (l.take k).map (finW P D) = bs at *
            have HBs := Lib.hid hbs
            clear hbs
            obtain ⟨Ax', cx', hxv, hxa⟩ := own_read hR (v := u8) (l := fsts Lq) (by simp)
            obtain ⟨Ay', cy', hyv, hya⟩ := own_read hR (v := u9) (l := snds Lq) (by simp)
            rw [fsts_len] at hxv
            rw [snds_len] at hyv
            subst hxv hyv
            obtain ⟨adx, e1, hxb, hxc⟩ := cells_int hxa (fsts_get hLk)
            obtain ⟨ady, e2, hyb, hyc⟩ := cells_int hya (snds_get hLk)
            subst e1 e2
            simp only at hxc hyc
            have HXA := Lib.hid hxa
            have HYA := Lib.hid hya
            have hkL : k < Lq.length := (List.getElem?_eq_some_iff.1 hLk).1
            have hca := HXi.out.c2
            have hcb := HYi.out.c2
            have HR2 := Lib.hid hR
            have HXq := Lib.hid (HXt.out.on hbi)
            have HY0 : Hid ((sa, sb) ∉ Lq.take 0) := by simp [Hid]
            have e1 : (x : Int) < (M : Int) := by omega
            have e2 : (y : Int) < (N : Int) := by omega
            have e3 : (q : Int) < (ma : Int) := by omega
            have e4 : (q : Int) < (mb : Int) := by omega
            have e5 : (k : Int) < (Lq.length : Int) := by omega
            clear hxa hya hR hbi HR hLk HT
            go_wp2
            go_region
            go_wp2
            go_region
            go_wp2
            clear hca hcb hxc hyc ha0 ha1 ha2 ha3 ha4 hb0 hb1 hb2 hb3 hb4 e1 e2 e3 e4 e5 hc0 hxb hyb HXi HYi
            have hbq : Below wr.heap.size wr wr.drew.drew := (Below.refl _ _).drew.drew
            have HXA := Lib.hid ((Cells.below HXA.out hbq).more hbq.size)
            have HYA := Lib.hid ((Cells.below HYA.out hbq).more hbq.size)
            have HR2 := Lib.hid (HR2.out.on hbq)
            obtain ⟨adT, gT, eT, hT1, hT2⟩ := tab_at (HXq.out.on hbq) HXr.out (p := sa) (q := sb) (by rw [HXl.out]; omega) hsy
            subst eT
            have HT12 := Lib.hid (And.intro hT1 hT2)
            clear hbq HXq hT1 hT2
            have hi1 : (sa : Int) < (M : Int) := by omega
            have hi2 : (sb : Int) < (N : Int) := by omega
            have HbX : Hid (inX X (sa, sb) = X sa sb) := rfl
            generalize X sa sb = bX at *
            generalize wr.drew.drew = wq at *
            go_loop [15] (fun i => ∃ (j : Nat), j ≤ Lq.length ∧ i = .int .i64 j ∧ Hid ((sa, sb) ∉ Lq.take j)) (fun i => Lq.length - (intOf i).toNat)
            case atStart => exact ⟨0, by omega, rfl, HY0⟩
            case round =>
              clear HY0
              obtain ⟨j, hj, rfl, HJ⟩ := hrel
              by_cases hjl : j < Lq.length
              · have hju := List.getElem?_eq_getElem hjl
                obtain ⟨adx', ex, hxb', hxc'⟩ := cells_int HXA.out (fsts_get hju)
                obtain ⟨ady', ey, hyb', hyc'⟩ := cells_int HYA.out (snds_get hju)
                obtain rfl := Option.some.inj ex
                obtain rfl := Option.some.inj ey
                by_cases hfd : (sa, sb) = Lq[j]
                · have HF1 : Hid (addTo Lq (sa, sb) = Lq ∧ num Lq (sa, sb) = j) := ⟨by unfold addTo; rw [if_pos (hfd ▸ List.getElem_mem hjl)], idx_at HJ.out hjl hfd⟩
                  rw [← hfd] at hxc' hyc'
                  simp only at hxc' hyc'
                  have f1 := int_eq' (show (sa : Int) = (sa : Int) from rfl)
                  have f2 := int_eq' (show (sb : Int) = (sb : Int) from rfl)
                  have f3 := int_ne (show (j : Int) ≠ (Lq.length : Int) by omega)
                  obtain ⟨hT1, hT2⟩ := HT12.out
                  have HR3 : Hid (Own w1 wq (eInts u11 tq :: [eInts (.slice (some adx) Lq.length cx') (fsts Lq), eInts (.slice (some ady) Lq.length cy') (snds Lq), eRows nv (rs.map (·.1)), eBools fv bs, eDfa g [.int .i64 (n : Int), .int .i64 0, nv, fv], eDfa (w.heap.size + 1 + 1) zero4]) (eEach rs)) := HR2.out.pull 2 (by simp)
                  clear hfd hju ex ey HXA HYA
                  rcases bX with _ | _
                  · as_aux_lemma =>
                      go_wp2_with (at_builtin; refine own_int (by rfl) _ _ (by rfl) (by rfl) HR3.out (by rfl) (by omega) ?_)
                      intro g7 cap7 w7 ho7
                      have HR9 : Hid (TX w1 w7 g (w.heap.size + 1 + 1) P D X k l (x, y) n (q + 1) nv fv rs (.slice (some adx) Lq.length cx') (.slice (some ady) Lq.length cy') (.slice (some ⟨g7, 0, none⟩) (tq.length + 1) cap7)) := by
                        unfold Hid TX
                        rw [(HNext.out.2 HbX.out).1, (HNext.out.2 HbX.out).2, HBs.out]
                        exact ho7.re [1, 2, 0, 3, 4, 5, 6] 7 rfl (by decide)
                      clear ho7 HR3 HR2 hxc' hyc' HJ hT1 hT2
                      go_wp2
                      go_roundw
                      case rel => exact ⟨q + 1, by omega, by go_num, HR9⟩
                      case measure => simp [intOf]; omega
                  · as_aux_lemma =>
                      go_wp2_with (at_builtin; refine own_int (by rfl) _ _ (by rfl) (by rfl) HR3.out (by rfl) (by omega) ?_)
                      intro g7 cap7 w7 ho7
                      have HR9 : Hid (TX w1 w7 g (w.heap.size + 1 + 1) P D X k l (x, y) n (q + 1) nv fv rs (.slice (some adx) Lq.length cx') (.slice (some ady) Lq.length cy') (.slice (some ⟨g7, 0, none⟩) (tq.length + 1) cap7)) := by
                        unfold Hid TX
                        rw [(HNext.out.1 HbX.out).1, (HNext.out.1 HbX.out).2, HF1.out.1, HF1.out.2, HBs.out]
                        exact ho7.re [1, 2, 0, 3, 4, 5, 6] 7 rfl (by decide)
                      clear ho7 HR3 HR2 hxc' hyc' HJ hT1 hT2
                      go_wp2
                      go_roundw
                      case rel => exact ⟨q + 1, by omega, by go_num, HR9⟩
                      case measure => simp [intOf]; omega
                · as_aux_lemma =>
                    have HJ1 := Lib.hid (notin_take_succ HJ.out hjl hfd)
                    by_cases hu : Lq[j].1 = sa
                    · have hv : Lq[j].2 ≠ sb := fun k => hfd (Prod.ext hu.symm k.symm)
                      have f1 := int_eq' (show ((Lq[j].1 : Nat) : Int) = (sa : Int) by rw [hu])
                      have f2 := int_ne' (show ((Lq[j].2 : Nat) : Int) ≠ (sb : Int) by omega)
                      clear hu hv hfd hju
                      generalize Lq[j].1 = u at *
                      generalize Lq[j].2 = v at *
                      go_wp2
                      go_round
                      case rel => exact ⟨j + 1, by omega, by go_num, HJ1⟩
                      case measure => simp [intOf]; omega
                    · have f1 := int_ne' (show ((Lq[j].1 : Nat) : Int) ≠ (sa : Int) by omega)
                      clear hu hfd hju
                      generalize Lq[j].1 = u at *
                      generalize Lq[j].2 = v at *
                      go_wp2
                      go_round
                      case rel => exact ⟨j + 1, by omega, by go_num, HJ1⟩
                      case measure => simp [intOf]; omega
              · obtain rfl : j = Lq.length := by omega
                have hnm : (sa, sb) ∉ Lq := by
                  have := HJ.out
                  rwa [List.take_length] at this
                have HF2 : Hid (addTo Lq (sa, sb) = Lq ++ [(sa, sb)] ∧ num (Lq ++ [(sa, sb)]) (sa, sb) = Lq.length) := ⟨by unfold addTo; rw [if_neg hnm], idx_new hnm⟩
                have f3 := int_eq (show (Lq.length : Int) = (Lq.length : Int) from rfl)
                have HFs : Hid (fsts (Lq ++ [(sa, sb)]) = fsts Lq ++ [(sa : Int)] ∧ snds (Lq ++ [(sa, sb)]) = snds Lq ++ [(sb : Int)]) := ⟨fsts_app _ _, snds_app _ _⟩
                have hl1 : (fsts Lq).length < 17592186044416 := by rw [fsts_len]; omega
                have hl2 : (snds Lq).length < 17592186044416 := by rw [snds_len]; omega
                obtain ⟨hT1, hT2⟩ := HT12.out
                clear hnm HXA HYA HJ
                rcases bX with _ | _
                · as_aux_lemma =>
                    have HR3 : Hid (Own w1 wq (eInts u11 tq :: [eInts (.slice (some adx) Lq.length cx') (fsts Lq), eInts (.slice (some ady) Lq.length cy') (snds Lq), eRows nv (rs.map (·.1)), eBools fv bs, eDfa g [.int .i64 (n : Int), .int .i64 0, nv, fv], eDfa (w.heap.size + 1 + 1) zero4]) (eEach rs)) := HR2.out.pull 2 (by simp)
                    go_wp2_with (at_builtin; refine own_int (by rfl) _ _ (by rfl) (by rfl) HR3.out (by rfl) (by omega) ?_)
                    intro g7 cap7 w7 ho7
                    have HR9 : Hid (TX w1 w7 g (w.heap.size + 1 + 1) P D X k l (x, y) n (q + 1) nv fv rs (.slice (some adx) Lq.length cx') (.slice (some ady) Lq.length cy') (.slice (some ⟨g7, 0, none⟩) (tq.length + 1) cap7)) := by
                      unfold Hid TX
                      rw [(HNext.out.2 HbX.out).1, (HNext.out.2 HbX.out).2, HBs.out]
                      exact ho7.re [1, 2, 0, 3, 4, 5, 6] 7 rfl (by decide)
                    clear ho7 HR3 HR2 hT1 hT2
                    go_wp2
                    go_roundw
                    case rel => exact ⟨q + 1, by omega, by go_num, HR9⟩
                    case measure => simp [intOf]; omega
                · as_aux_lemma =>
                    have HNx := Lib.hid (HNext.out.1 HbX.out)
                    rw [HF2.out.1, HF2.out.2] at HNx
                    have HN1 := Lib.hid (And.intro (congrArg fsts HNx.out.1) (congrArg snds HNx.out.1))
                    rw [HFs.out.1, HFs.out.2] at HN1
                    have HN2 := Lib.hid HNx.out.2
                    clear HNx HNext HF2 HFs
                    generalize fsts Lq = Xs at *
                    generalize snds Lq = Ys at *
                    have HR3 : Hid (Own w1 wq (eInts (.slice (some adx) Lq.length cx') Xs :: [eInts (.slice (some ady) Lq.length cy') Ys, eInts u11 tq, eRows nv (rs.map (·.1)), eBools fv bs, eDfa g [.int .i64 (n : Int), .int .i64 0, nv, fv], eDfa (w.heap.size + 1 + 1) zero4]) (eEach rs)) := HR2.out
                    go_wp2_with (at_builtin; refine own_int (by rfl) _ _ (by rfl) (by rfl) HR3.out (by rfl) hl1 ?_)
                    intro g7 cap7 w7 ho7
                    have HO7 := Lib.hid ho7.two
                    clear ho7 HR3 HR2 hT1 hT2
                    go_wp2_with (at_builtin; refine own_int (by rfl) _ _ (by rfl) (by rfl) HO7.out (by rfl) hl2 ?_)
                    intro g8 cap8 w8 ho8
                    have HO8 := Lib.hid ho8.three
                    clear ho8 HO7
                    go_wp2_with (at_builtin; refine own_int (by rfl) _ _ (by rfl) (by rfl) HO8.out (by rfl) (by omega) ?_)
                    intro g9 cap9 w9 ho9
                    have HR9 : Hid (TX w1 w9 g (w.heap.size + 1 + 1) P D X k l (x, y) n (q + 1) nv fv rs (.slice (some ⟨g7, 0, none⟩) (Xs.length + 1) cap7) (.slice (some ⟨g8, 0, none⟩) (Ys.length + 1) cap8) (.slice (some ⟨g9, 0, none⟩) (tq.length + 1) cap9)) := by
                      unfold Hid TX
                      rw [HN1.out.1, HN1.out.2, HN2.out, HBs.out]
                      exact ho9.re [2, 1, 0, 3, 4, 5, 6] 7 rfl (by decide)
                    clear ho9 HO8
                    go_wp2
                    go_roundw
                    case rel => exact ⟨q + 1, by omega, by go_num, HR9⟩
                    case measure => simp [intOf]; omega
        · --ROWEND
          as_aux_lemma =>
            obtain rfl : q = n := by omega
            have hS2 : (S2 P D (x, y)).length = q := by rw [S2_length, HL.out]; rfl
            rw [rowX_full hS2, sxc_full hS2] at hR
            have HPn := Lib.hid (sx_step HF0.out HP.out HXY.out)
            have HRow := Lib.hid (rowsX_next HP.out HXY.out)
            have HFlag : Hid (((addAll l (SX P D X (x, y))).take (k + 1)).map (finW P D) = (l.take k).map (finW P D) ++ [finA P x && finA D y]) := flags_next (S := SX P D X) (finW P D) HXY.out
            have hLk : (addAll l (SX P D X (x, y)))[k]? = some (x, y) := by
              obtain ⟨m, hm⟩ := addAll_prefix l (SX P D X (x, y))
              rw [hm, List.getElem?_append_left hlt]; exact HXY.out
            clear hS2 HP HR
            generalize hrw : (l.take k).map (srowX P D X l) = rws at *
            generalize hbs : (l.take k).map (finW P D) = bs at *
            have HLen : Hid ((rs.map (·.1)).length < 1099511627776 ∧ bs.length < 17592186044416) := by
              have h1 := congrArg List.length HRS.out
              rw [← hrw, List.length_map, List.length_map, List.length_take] at h1
              have h2 := congrArg List.length hbs
              rw [List.length_map, List.length_take] at h2
              exact ⟨by rw [List.length_map]; omega, by omega⟩
            clear hbs hrw
            generalize hl' : addAll l (SX P D X (x, y)) = l' at *
            clear hl'
            have hl40 := HPn.out.n40
            obtain ⟨Ax', cx', hxv, hxa⟩ := own_read hR (v := u8) (l := fsts l') (by simp)
            obtain ⟨Ay', cy', hyv, hya⟩ := own_read hR (v := u9) (l := snds l') (by simp)
            obtain ⟨Ar', cr', hrv, _⟩ := own_read hR (v := u11) (l := srowX P D X l' (x, y)) (by simp)
            rw [fsts_len] at hxv
            rw [snds_len] at hyv
            subst hxv hyv hrv
            obtain ⟨adx, e1, hxb, hxc⟩ := cells_int hxa (fsts_get hLk)
            obtain ⟨ady, e2, hyb, hyc⟩ := cells_int hya (snds_get hLk)
            subst e1 e2
            simp only at hxc hyc
            have hkL : k < l'.length := (List.getElem?_eq_some_iff.1 hLk).1
            have HLk := Lib.hid hLk
            clear hxa hya hLk hxb hyb hxc hyc
            obtain ⟨adf, eF, _, _, hfa3⟩ := HDA.out.fins.at_ (HG.out.ga.fin_at hx)
            obtain ⟨adg, eG, _, _, hgb3⟩ := HDB.out.fins.at_ (HG.out.gb.fin_at hy)
            subst eF eG
            have HFa := Lib.hid (HDA.out.fins.at_ (HG.out.ga.fin_at hx))
            have HGb := Lib.hid (HDB.out.fins.at_ (HG.out.gb.fin_at hy))
            rw [HFA.out] at hfa3
            rw [HFB.out] at hgb3
            obtain ⟨hg2, hgf2⟩ := hR.dcell (g := g) (l := [.int .i64 (q : Int), .int .i64 0, nv, fv]) (j := 2) (by simp) rfl
            have HR3 : Hid (Own w1 wr (eRows nv (rs.map (·.1)) :: [eInts (.slice (some adx) l'.length cx') (fsts l'), eInts (.slice (some ady) l'.length cy') (snds l'), eInts (.slice Ar' (srowX P D X l' (x, y)).length cr') (srowX P D X l' (x, y)), eBools fv bs, eDfa g [.int .i64 (q : Int), .int .i64 0, nv, fv], eDfa (w.heap.size + 1 + 1) zero4]) (eEach rs)) := hR.pull 3 (by simp)
            generalize hr9 : (l'.take (k + 1)).map (srowX P D X l') = rws9 at *
            have HR9 := Lib.hid hr9
            generalize hs9 : srowX P D X l' (x, y) = row at *
            clear hr9 hs9 hR hbi
            have e1 : (x : Int) < (fa : Int) := by omega
            have e2 : (y : Int) < (fb : Int) := by omega
            have e5 : (k : Int) < (l'.length : Int) := by omega
            generalize hbx9 : finA P x = bx at *
            generalize hby9 : finA D y = by9 at *
            go_wp2_with (at_builtin; refine own_row (by rfl) _ _ (by rfl) (by rfl) HR3.out (by rfl) (by rfl) HLen.out.1 ?_)
            intro g8 cap8 w8 ho8
            have HFar9 : Hid (FarR (rs ++ [(.slice Ar' row.length cr', row)])) := farR_snoc HFar.out (ho8.pull 3 (by simp))
            have HB9 : Hid (Build w1 (w8.setCell ⟨g, 2, none⟩ (.slice (some ⟨g8, 0, none⟩) (rs.length + 1) cap8)) g (eDfa (w.heap.size + 1 + 1) zero4 :: [eInts (.slice (some adx) l'.length cx') (fsts l'), eInts (.slice (some ady) l'.length cy') (snds l')]) (q : Int) 0 (rws ++ [row]) bs (.slice (some ⟨g8, 0, none⟩) (rs.length + 1) cap8) fv (rs ++ [(.slice Ar' row.length cr', row)])) :=
              build_row HRS.out (ho8.re [0, 3, 4, 5, 6, 1, 2] 7 rfl (by decide)) rfl
            obtain ⟨hk8, hf8⟩ := ho8.dcell (g := g) (l := [.int .i64 (q : Int), .int .i64 0, nv, fv]) (j := 2) (by simp) rfl
            rw [← HRow.out] at HB9
            clear ho8 hg2 hgf2 HR3 HRow hc0 HXi HYi
            go_wp2_with fail
            generalize hw9 : w8.setCell ⟨g, 2, none⟩ (.slice (some ⟨g8, 0, none⟩) (rs.length + 1) cap8) = w9 at *
            clear hw9 hk8 hf8
            generalize (Value.slice (some ⟨g8, 0, none⟩) (rs.length + 1) cap8) = nv9 at *
            generalize (rs ++ [(Value.slice Ar' row.length cr', row)]) = rs9 at *
            have HO5 := Lib.hid HB9.out.2.two
            have HK : Hid (∀ W es fs, Own w1 W es fs → eInts (.slice (some adx) l'.length cx') (fsts l') ∈ es ++ fs ∧ eInts (.slice (some ady) l'.length cy') (snds l') ∈ es ++ fs ∧ eDfa g [.int .i64 (q : Int), .int .i64 0, nv9, fv] ∈ es ++ fs → W.cell? ⟨g, 3, none⟩ = some fv ∧ W.cell? ⟨w.heap.size, 3, none⟩ = some (.slice (some adf) fa cf) ∧ W.cell? (adx.add k) = some (.int .i64 (x : Int)) ∧ W.cell? (adf.add x) = some (.bool bx) ∧ W.cell? ⟨w.heap.size + 1, 3, none⟩ = some (.slice (some adg) fb cg) ∧ W.cell? (ady.add k) = some (.int .i64 (y : Int)) ∧ W.cell? (adg.add y) = some (.bool by9)) := fun W es fs hW hm => by
              obtain ⟨hm1, hm2, hm3⟩ := hm
              obtain ⟨ad1, e1, b1, c1, _⟩ := HFa.out
              cases e1
              obtain ⟨ad2, e2, b2, c2, _⟩ := HGb.out
              cases e2
              obtain ⟨A7, c7, hv7, hA7⟩ := own_read hW hm1
              obtain ⟨adl7, e7, _, hc7⟩ := cells_int hA7 (fsts_get HLk.out)
              subst e7
              simp only [Value.slice.injEq, Option.some.injEq] at hv7
              obtain ⟨rfl, _⟩ := hv7
              obtain ⟨A8, c8, hv8, hA8⟩ := own_read hW hm2
              obtain ⟨adl8, e8, _, hc8⟩ := cells_int hA8 (snds_get HLk.out)
              subst e8
              simp only [Value.slice.injEq, Option.some.injEq] at hv8
              obtain ⟨rfl, _⟩ := hv8
              have hx3 := (HX.out.on hW.below).c3
              have hy3 := (HY.out.on hW.below).c3
              exact ⟨(hW.dcell hm3 rfl).1, hx3, hc7, (hW.below.cell (by rw [Wd.block_add]; assumption)).trans c1, hy3, hc8, (hW.below.cell (by rw [Wd.block_add]; assumption)).trans c2⟩
            clear hbx9 hby9
            have HBx : Hid (bx = bx) := rfl
            rcases bx with _ | _
            · as_aux_lemma =>
                refine wp_region_Z ((fun W => W.cell? ⟨g, 3, none⟩ = some fv ∧ W.cell? ⟨w.heap.size, 3, none⟩ = some (.slice (some adf) fa cf) ∧ W.cell? (adx.add k) = some (.int .i64 (x : Int)) ∧ W.cell? (adf.add x) = some (.bool false) ∧ W.cell? ⟨w.heap.size + 1, 3, none⟩ = some (.slice (some adg) fb cg) ∧ W.cell? (ady.add k) = some (.int .i64 (y : Int)) ∧ W.cell? (adg.add y) = some (.bool by9))) 23 (by kernel_rfl) (HK.out _ _ _ (HB9.out.2.on (by go_grown)) (by simp)) (fun hHeld => ?_)
                refine wpZ_takeW (some 115) (i := 0) (v := ?_) rfl rfl (by kernel_rfl) (by kernel_rfl) (by kernel_rfl) (by kernel_rfl) (fun _ _ _ h => h) (Or.inl ⟨by rfl, ?_⟩) hHeld ?_
                rotate_left
                · (go_light; intro w9 hSw; (try dsimp only at hSw); go_simp; try with_reducible rfl)
                try simp only [Act.put, List.setIfInBounds_toArray, List.set_cons_zero, List.set_cons_succ]
                refine wpZ_takeW (some 116) (i := 1) (v := ?_) rfl rfl (by kernel_rfl) (by kernel_rfl) (by kernel_rfl) (by kernel_rfl) (fun _ _ _ h => h) (Or.inl ⟨by rfl, ?_⟩) hHeld ?_
                rotate_left
                · (go_light; intro w9 hSw; (try dsimp only at hSw); go_simp; try with_reducible rfl)
                try simp only [Act.put, List.setIfInBounds_toArray, List.set_cons_zero, List.set_cons_succ]
                refine wpZ_takeW (some 117) (i := 2) (v := ?_) rfl rfl (by kernel_rfl) (by kernel_rfl) (by kernel_rfl) (by kernel_rfl) (fun _ _ _ h => h) (Or.inl ⟨by rfl, ?_⟩) hHeld ?_
                rotate_left
                · (go_light; intro w9 hSw; (try dsimp only at hSw); go_simp; try with_reducible rfl)
                try simp only [Act.put, List.setIfInBounds_toArray, List.set_cons_zero, List.set_cons_succ]
                refine wpZ_takeW (some 118) (i := 3) (v := ?_) rfl rfl (by kernel_rfl) (by kernel_rfl) (by kernel_rfl) (by kernel_rfl) (fun _ _ _ h => h) (Or.inl ⟨by rfl, ?_⟩) hHeld ?_
                rotate_left
                · (go_light; intro w9 hSw; (try dsimp only at hSw); go_simp; try with_reducible rfl)
                try simp only [Act.put, List.setIfInBounds_toArray, List.set_cons_zero, List.set_cons_succ]
                refine wpZ_takeW (some 119) (i := 4) (v := ?_) rfl rfl (by kernel_rfl) (by kernel_rfl) (by kernel_rfl) (by kernel_rfl) (fun _ _ _ h => h) (Or.inl ⟨by rfl, ?_⟩) hHeld ?_
                rotate_left
                · (go_light; intro w9 hSw; (try dsimp only at hSw); go_simp; try with_reducible rfl)
                try simp only [Act.put, List.setIfInBounds_toArray, List.set_cons_zero, List.set_cons_succ]
                refine wpZ_takeW (some 120) (i := 5) (v := ?_) rfl rfl (by kernel_rfl) (by kernel_rfl) (by kernel_rfl) (by kernel_rfl) (fun _ _ _ h => h) (Or.inl ⟨by rfl, ?_⟩) hHeld ?_
                rotate_left
                · (go_light; intro w9 hSw; (try dsimp only at hSw); go_simp; try with_reducible rfl)
                try simp only [Act.put, List.setIfInBounds_toArray, List.set_cons_zero, List.set_cons_succ]
                refine wpZ_takeW (some 121) (i := 6) (v := ?_) rfl rfl (by kernel_rfl) (by kernel_rfl) (by kernel_rfl) (by kernel_rfl) (fun _ _ _ h => h) (Or.inl ⟨by rfl, ?_⟩) hHeld ?_
                rotate_left
                · (go_light; intro w9 hSw; (try dsimp only at hSw); go_simp; try with_reducible rfl)
                try simp only [Act.put, List.setIfInBounds_toArray, List.set_cons_zero, List.set_cons_succ]
                refine wpZ_takeW (some 122) (i := 7) (v := ?_) rfl rfl (by kernel_rfl) (by kernel_rfl) (by kernel_rfl) (by kernel_rfl) (fun _ _ _ h => h) (Or.inl ⟨by rfl, ?_⟩) hHeld ?_
                rotate_left
                · (go_light; intro w9 hSw; (try dsimp only at hSw); go_simp; try with_reducible rfl)
                try simp only [Act.put, List.setIfInBounds_toArray, List.set_cons_zero, List.set_cons_succ]
                refine wpZ_takeW (some 123) (i := 8) (v := ?_) rfl rfl (by kernel_rfl) (by kernel_rfl) (by kernel_rfl) (by kernel_rfl) (fun _ _ _ h => h) (Or.inl ⟨by rfl, ?_⟩) hHeld ?_
                rotate_left
                · (go_light; intro w9 hSw; (try dsimp only at hSw); go_simp; try with_reducible rfl)
                try simp only [Act.put, List.setIfInBounds_toArray, List.set_cons_zero, List.set_cons_succ]
                refine wpZ_takeW (some 124) (i := 9) (v := ?_) rfl rfl (by kernel_rfl) (by kernel_rfl) (by kernel_rfl) (by kernel_rfl) (fun _ _ _ h => h) (Or.inl ⟨by rfl, ?_⟩) hHeld ?_
                rotate_left
                · (go_light; intro w9 hSw; (try dsimp only at hSw); go_simp; try with_reducible rfl)
                try simp only [Act.put, List.setIfInBounds_toArray, List.set_cons_zero, List.set_cons_succ]
                refine wpZ_takeW (some 125) (i := 10) (v := ?_) rfl rfl (by kernel_rfl) (by kernel_rfl) (by kernel_rfl) (by kernel_rfl) (fun _ _ _ h => h) (Or.inl ⟨by rfl, ?_⟩) hHeld ?_
                rotate_left
                · (go_light; intro w9 hSw; (try dsimp only at hSw); go_simp; try with_reducible rfl)
                try simp only [Act.put, List.setIfInBounds_toArray, List.set_cons_zero, List.set_cons_succ]
                refine wpZ_takeW (some 126) (i := 11) (v := undef) rfl rfl (by kernel_rfl) (by kernel_rfl) (by kernel_rfl) (by kernel_rfl) (fun _ _ _ h => h) (Or.inr ⟨by rfl, rfl⟩) hHeld ?_
                try simp only [Act.put, List.setIfInBounds_toArray, List.set_cons_zero, List.set_cons_succ]
                refine wpZ_takeW (some 127) (i := 12) (v := undef) rfl rfl (by kernel_rfl) (by kernel_rfl) (by kernel_rfl) (by kernel_rfl) (fun _ _ _ h => h) (Or.inr ⟨by rfl, rfl⟩) hHeld ?_
                try simp only [Act.put, List.setIfInBounds_toArray, List.set_cons_zero, List.set_cons_succ]
                refine wpZ_takeW (some 128) (i := 13) (v := undef) rfl rfl (by kernel_rfl) (by kernel_rfl) (by kernel_rfl) (by kernel_rfl) (fun _ _ _ h => h) (Or.inr ⟨by rfl, rfl⟩) hHeld ?_
                try simp only [Act.put, List.setIfInBounds_toArray, List.set_cons_zero, List.set_cons_succ]
                refine wpZ_takeW (some 129) (i := 14) (v := undef) rfl rfl (by kernel_rfl) (by kernel_rfl) (by kernel_rfl) (by kernel_rfl) (fun _ _ _ h => h) (Or.inr ⟨by rfl, rfl⟩) hHeld ?_
                try simp only [Act.put, List.setIfInBounds_toArray, List.set_cons_zero, List.set_cons_succ]
                refine wpZ_takeW (some 130) (i := 15) (v := undef) rfl rfl (by kernel_rfl) (by kernel_rfl) (by kernel_rfl) (by kernel_rfl) (fun _ _ _ h => h) (Or.inr ⟨by rfl, rfl⟩) hHeld ?_
                try simp only [Act.put, List.setIfInBounds_toArray, List.set_cons_zero, List.set_cons_succ]
                refine wpZ_takeW (some 131) (i := 16) (v := undef) rfl rfl (by kernel_rfl) (by kernel_rfl) (by kernel_rfl) (by kernel_rfl) (fun _ _ _ h => h) (Or.inr ⟨by rfl, rfl⟩) hHeld ?_
                try simp only [Act.put, List.setIfInBounds_toArray, List.set_cons_zero, List.set_cons_succ]
                refine wpZ_takeW (some 132) (i := 17) (v := undef) rfl rfl (by kernel_rfl) (by kernel_rfl) (by kernel_rfl) (by kernel_rfl) (fun _ _ _ h => h) (Or.inr ⟨by rfl, rfl⟩) hHeld ?_
                try simp only [Act.put, List.setIfInBounds_toArray, List.set_cons_zero, List.set_cons_succ]
                refine wpZ_takeW (some 133) (i := 18) (v := undef) rfl rfl (by kernel_rfl) (by kernel_rfl) (by kernel_rfl) (by kernel_rfl) (fun _ _ _ h => h) (Or.inr ⟨by rfl, rfl⟩) hHeld ?_
                try simp only [Act.put, List.setIfInBounds_toArray, List.set_cons_zero, List.set_cons_succ]
                refine wpZ_takeW (some 134) (i := 19) (v := ?_) rfl rfl (by kernel_rfl) (by kernel_rfl) (by kernel_rfl) (by kernel_rfl) (fun _ _ _ h => h) (Or.inl ⟨by rfl, ?_⟩) hHeld ?_
                rotate_left
                · (go_light; intro w9 hSw; (try dsimp only at hSw); go_simp; try with_reducible rfl)
                try simp only [Act.put, List.setIfInBounds_toArray, List.set_cons_zero, List.set_cons_succ]
                refine wpZ_one (i := 20) rfl (by kernel_rfl) (fun K hK => ?_)
                go_simp
                refine hK.out _ _ (fun _ => HK.out _ _ _ (HB9.out.2.on (by go_grown)) (by simp)) (fun hHeld9 => ?_)
                replace hHeld := hHeld9 (by decide)
                clear hHeld9
                clear hK K
                try simp only [Act.put, List.setIfInBounds_toArray, List.set_cons_zero, List.set_cons_succ]
                refine wpZ_one (i := 21) rfl (by kernel_rfl) (fun K hK => ?_)
                refine step_own_bool (by rfl) _ _ (by rfl) (by rfl) (HO5.out.on (Below.refl _ _).drew) (by rfl) HLen.out.2 ?_
                intro g6 cap6 w6 ho6
                refine hK.out _ _ (fun _ => HK.out _ _ _ ho6.two (by simp)) (fun hHeld9 => ?_)
                replace hHeld := hHeld9 (by decide)
                clear hHeld9
                clear hK K
                try simp only [Act.put, List.setIfInBounds_toArray, List.set_cons_zero, List.set_cons_succ]
                refine wpZ_takeW (some 137) (i := 22) (v := ?_) rfl rfl (by kernel_rfl) (by kernel_rfl) (by kernel_rfl) (by kernel_rfl) (fun _ _ _ h => h) (Or.inl ⟨by rfl, ?_⟩) hHeld ?_
                rotate_left
                · (go_light; intro w9 hSw; (try dsimp only at hSw); go_simp; try with_reducible rfl)
                try simp only [Act.put, List.setIfInBounds_toArray, List.set_cons_zero, List.set_cons_succ]
                refine wpZ_one (i := 23) rfl (by kernel_rfl) (fun K hK => ?_)
                have hk4 := (ho6.dcell (g := g) (l := [.int .i64 (q : Int), .int .i64 0, nv9, fv]) (j := 3) (by simp) rfl).2
                go_simp
                refine hK.out _ _ (fun k => absurd rfl k) (fun _ => ?_)
                clear hK K
                try simp only [Act.put, List.setIfInBounds_toArray, List.set_cons_zero, List.set_cons_succ]
                refine wpZ_done (by kernel_rfl) ?_ _
                have HB6 : Hid (QX w1 (w6.setCell ⟨g, 3, none⟩ (.slice (some ⟨g6, 0, none⟩) (bs.length + 1) cap6)) g (w.heap.size + 1 + 1) P D X q (k + 1) (.slice (some adx) l'.length cx') (.slice (some ady) l'.length cy')) := by
                  have HBf := build_flag HB9.out.1 ho6 rfl
                  refine ⟨l', nv9, .slice (some ⟨g6, 0, none⟩) (bs.length + 1) cap6, rs9, HPn.out, HFar9.out, ?_⟩
                  rw [HFlag.out, HR9.out]
                  exact HBf
                clear HO5 ho6 HB9 HK hk4 hHeld
                go_wp2
                go_roundw
                case rel => exact ⟨k + 1, by omega, by go_num, HB6⟩
                case measure => simp [intOf]; omega
            · as_aux_lemma =>
                refine wp_region_Z ((fun W => W.cell? ⟨g, 3, none⟩ = some fv ∧ W.cell? ⟨w.heap.size, 3, none⟩ = some (.slice (some adf) fa cf) ∧ W.cell? (adx.add k) = some (.int .i64 (x : Int)) ∧ W.cell? (adf.add x) = some (.bool true) ∧ W.cell? ⟨w.heap.size + 1, 3, none⟩ = some (.slice (some adg) fb cg) ∧ W.cell? (ady.add k) = some (.int .i64 (y : Int)) ∧ W.cell? (adg.add y) = some (.bool by9))) 23 (by kernel_rfl) (HK.out _ _ _ (HB9.out.2.on (by go_grown)) (by simp)) (fun hHeld => ?_)
                refine wpZ_takeW (some 115) (i := 0) (v := ?_) rfl rfl (by kernel_rfl) (by kernel_rfl) (by kernel_rfl) (by kernel_rfl) (fun _ _ _ h => h) (Or.inl ⟨by rfl, ?_⟩) hHeld ?_
                rotate_left
                · (go_light; intro w9 hSw; (try dsimp only at hSw); go_simp; try with_reducible rfl)
                try simp only [Act.put, List.setIfInBounds_toArray, List.set_cons_zero, List.set_cons_succ]
                refine wpZ_takeW (some 116) (i := 1) (v := ?_) rfl rfl (by kernel_rfl) (by kernel_rfl) (by kernel_rfl) (by kernel_rfl) (fun _ _ _ h => h) (Or.inl ⟨by rfl, ?_⟩) hHeld ?_
                rotate_left
                · (go_light; intro w9 hSw; (try dsimp only at hSw); go_simp; try with_reducible rfl)
                try simp only [Act.put, List.setIfInBounds_toArray, List.set_cons_zero, List.set_cons_succ]
                refine wpZ_takeW (some 117) (i := 2) (v := ?_) rfl rfl (by kernel_rfl) (by kernel_rfl) (by kernel_rfl) (by kernel_rfl) (fun _ _ _ h => h) (Or.inl ⟨by rfl, ?_⟩) hHeld ?_
                rotate_left
                · (go_light; intro w9 hSw; (try dsimp only at hSw); go_simp; try with_reducible rfl)
                try simp only [Act.put, List.setIfInBounds_toArray, List.set_cons_zero, List.set_cons_succ]
                refine wpZ_takeW (some 118) (i := 3) (v := ?_) rfl rfl (by kernel_rfl) (by kernel_rfl) (by kernel_rfl) (by kernel_rfl) (fun _ _ _ h => h) (Or.inl ⟨by rfl, ?_⟩) hHeld ?_
                rotate_left
                · (go_light; intro w9 hSw; (try dsimp only at hSw); go_simp; try with_reducible rfl)
                try simp only [Act.put, List.setIfInBounds_toArray, List.set_cons_zero, List.set_cons_succ]
                refine wpZ_takeW (some 119) (i := 4) (v := ?_) rfl rfl (by kernel_rfl) (by kernel_rfl) (by kernel_rfl) (by kernel_rfl) (fun _ _ _ h => h) (Or.inl ⟨by rfl, ?_⟩) hHeld ?_
                rotate_left
                · (go_light; intro w9 hSw; (try dsimp only at hSw); go_simp; try with_reducible rfl)
                try simp only [Act.put, List.setIfInBounds_toArray, List.set_cons_zero, List.set_cons_succ]
                refine wpZ_takeW (some 120) (i := 5) (v := ?_) rfl rfl (by kernel_rfl) (by kernel_rfl) (by kernel_rfl) (by kernel_rfl) (fun _ _ _ h => h) (Or.inl ⟨by rfl, ?_⟩) hHeld ?_
                rotate_left
                · (go_light; intro w9 hSw; (try dsimp only at hSw); go_simp; try with_reducible rfl)
                try simp only [Act.put, List.setIfInBounds_toArray, List.set_cons_zero, List.set_cons_succ]
                refine wpZ_takeW (some 121) (i := 6) (v := ?_) rfl rfl (by kernel_rfl) (by kernel_rfl) (by kernel_rfl) (by kernel_rfl) (fun _ _ _ h => h) (Or.inl ⟨by rfl, ?_⟩) hHeld ?_
                rotate_left
                · (go_light; intro w9 hSw; (try dsimp only at hSw); go_simp; try with_reducible rfl)
                try simp only [Act.put, List.setIfInBounds_toArray, List.set_cons_zero, List.set_cons_succ]
                refine wpZ_takeW (some 122) (i := 7) (v := ?_) rfl rfl (by kernel_rfl) (by kernel_rfl) (by kernel_rfl) (by kernel_rfl) (fun _ _ _ h => h) (Or.inl ⟨by rfl, ?_⟩) hHeld ?_
                rotate_left
                · (go_light; intro w9 hSw; (try dsimp only at hSw); go_simp; try with_reducible rfl)
                try simp only [Act.put, List.setIfInBounds_toArray, List.set_cons_zero, List.set_cons_succ]
                refine wpZ_takeW (some 123) (i := 8) (v := ?_) rfl rfl (by kernel_rfl) (by kernel_rfl) (by kernel_rfl) (by kernel_rfl) (fun _ _ _ h => h) (Or.inl ⟨by rfl, ?_⟩) hHeld ?_
                rotate_left
                · (go_light; intro w9 hSw; (try dsimp only at hSw); go_simp; try with_reducible rfl)
                try simp only [Act.put, List.setIfInBounds_toArray, List.set_cons_zero, List.set_cons_succ]
                refine wpZ_takeW (some 124) (i := 9) (v := ?_) rfl rfl (by kernel_rfl) (by kernel_rfl) (by kernel_rfl) (by kernel_rfl) (fun _ _ _ h => h) (Or.inl ⟨by rfl, ?_⟩) hHeld ?_
                rotate_left
                · (go_light; intro w9 hSw; (try dsimp only at hSw); go_simp; try with_reducible rfl)
                try simp only [Act.put, List.setIfInBounds_toArray, List.set_cons_zero, List.set_cons_succ]
                refine wpZ_takeW (some 125) (i := 10) (v := ?_) rfl rfl (by kernel_rfl) (by kernel_rfl) (by kernel_rfl) (by kernel_rfl) (fun _ _ _ h => h) (Or.inl ⟨by rfl, ?_⟩) hHeld ?_
                rotate_left
                · (go_light; intro w9 hSw; (try dsimp only at hSw); go_simp; try with_reducible rfl)
                try simp only [Act.put, List.setIfInBounds_toArray, List.set_cons_zero, List.set_cons_succ]
                refine wpZ_takeW (some 126) (i := 11) (v := ?_) rfl rfl (by kernel_rfl) (by kernel_rfl) (by kernel_rfl) (by kernel_rfl) (fun _ _ _ h => h) (Or.inl ⟨by rfl, ?_⟩) hHeld ?_
                rotate_left
                · (go_light; intro w9 hSw; (try dsimp only at hSw); go_simp; try with_reducible rfl)
                try simp only [Act.put, List.setIfInBounds_toArray, List.set_cons_zero, List.set_cons_succ]
                refine wpZ_takeW (some 127) (i := 12) (v := ?_) rfl rfl (by kernel_rfl) (by kernel_rfl) (by kernel_rfl) (by kernel_rfl) (fun _ _ _ h => h) (Or.inl ⟨by rfl, ?_⟩) hHeld ?_
                rotate_left
                · (go_light; intro w9 hSw; (try dsimp only at hSw); go_simp; try with_reducible rfl)
                try simp only [Act.put, List.setIfInBounds_toArray, List.set_cons_zero, List.set_cons_succ]
                refine wpZ_takeW (some 128) (i := 13) (v := ?_) rfl rfl (by kernel_rfl) (by kernel_rfl) (by kernel_rfl) (by kernel_rfl) (fun _ _ _ h => h) (Or.inl ⟨by rfl, ?_⟩) hHeld ?_
                rotate_left
                · (go_light; intro w9 hSw; (try dsimp only at hSw); go_simp; try with_reducible rfl)
                try simp only [Act.put, List.setIfInBounds_toArray, List.set_cons_zero, List.set_cons_succ]
                refine wpZ_takeW (some 129) (i := 14) (v := ?_) rfl rfl (by kernel_rfl) (by kernel_rfl) (by kernel_rfl) (by kernel_rfl) (fun _ _ _ h => h) (Or.inl ⟨by rfl, ?_⟩) hHeld ?_
                rotate_left
                · (go_light; intro w9 hSw; (try dsimp only at hSw); go_simp; try with_reducible rfl)
                try simp only [Act.put, List.setIfInBounds_toArray, List.set_cons_zero, List.set_cons_succ]
                refine wpZ_takeW (some 130) (i := 15) (v := ?_) rfl rfl (by kernel_rfl) (by kernel_rfl) (by kernel_rfl) (by kernel_rfl) (fun _ _ _ h => h) (Or.inl ⟨by rfl, ?_⟩) hHeld ?_
                rotate_left
                · (go_light; intro w9 hSw; (try dsimp only at hSw); go_simp; try with_reducible rfl)
                try simp only [Act.put, List.setIfInBounds_toArray, List.set_cons_zero, List.set_cons_succ]
                refine wpZ_takeW (some 131) (i := 16) (v := ?_) rfl rfl (by kernel_rfl) (by kernel_rfl) (by kernel_rfl) (by kernel_rfl) (fun _ _ _ h => h) (Or.inl ⟨by rfl, ?_⟩) hHeld ?_
                rotate_left
                · (go_light; intro w9 hSw; (try dsimp only at hSw); go_simp; try with_reducible rfl)
                try simp only [Act.put, List.setIfInBounds_toArray, List.set_cons_zero, List.set_cons_succ]
                refine wpZ_takeW (some 132) (i := 17) (v := ?_) rfl rfl (by kernel_rfl) (by kernel_rfl) (by kernel_rfl) (by kernel_rfl) (fun _ _ _ h => h) (Or.inl ⟨by rfl, ?_⟩) hHeld ?_
                rotate_left
                · (go_light; intro w9 hSw; (try dsimp only at hSw); go_simp; try with_reducible rfl)
                try simp only [Act.put, List.setIfInBounds_toArray, List.set_cons_zero, List.set_cons_succ]
                refine wpZ_takeW (some 133) (i := 18) (v := ?_) rfl rfl (by kernel_rfl) (by kernel_rfl) (by kernel_rfl) (by kernel_rfl) (fun _ _ _ h => h) (Or.inl ⟨by rfl, ?_⟩) hHeld ?_
                rotate_left
                · (go_light; intro w9 hSw; (try dsimp only at hSw); go_simp; try with_reducible rfl)
                try simp only [Act.put, List.setIfInBounds_toArray, List.set_cons_zero, List.set_cons_succ]
                refine wpZ_takeW (some 134) (i := 19) (v := ?_) rfl rfl (by kernel_rfl) (by kernel_rfl) (by kernel_rfl) (by kernel_rfl) (fun _ _ _ h => h) (Or.inl ⟨by rfl, ?_⟩) hHeld ?_
                rotate_left
                · (go_light; intro w9 hSw; (try dsimp only at hSw); go_simp; try with_reducible rfl)
                try simp only [Act.put, List.setIfInBounds_toArray, List.set_cons_zero, List.set_cons_succ]
                refine wpZ_one (i := 20) rfl (by kernel_rfl) (fun K hK => ?_)
                go_simp
                refine hK.out _ _ (fun _ => HK.out _ _ _ (HB9.out.2.on (by go_grown)) (by simp)) (fun hHeld9 => ?_)
                replace hHeld := hHeld9 (by decide)
                clear hHeld9
                clear hK K
                try simp only [Act.put, List.setIfInBounds_toArray, List.set_cons_zero, List.set_cons_succ]
                refine wpZ_one (i := 21) rfl (by kernel_rfl) (fun K hK => ?_)
                refine step_own_bool (by rfl) _ _ (by rfl) (by rfl) (HO5.out.on (Below.refl _ _).drew) (by rfl) HLen.out.2 ?_
                intro g6 cap6 w6 ho6
                refine hK.out _ _ (fun _ => HK.out _ _ _ ho6.two (by simp)) (fun hHeld9 => ?_)
                replace hHeld := hHeld9 (by decide)
                clear hHeld9
                clear hK K
                try simp only [Act.put, List.setIfInBounds_toArray, List.set_cons_zero, List.set_cons_succ]
                refine wpZ_takeW (some 137) (i := 22) (v := ?_) rfl rfl (by kernel_rfl) (by kernel_rfl) (by kernel_rfl) (by kernel_rfl) (fun _ _ _ h => h) (Or.inl ⟨by rfl, ?_⟩) hHeld ?_
                rotate_left
                · (go_light; intro w9 hSw; (try dsimp only at hSw); go_simp; try with_reducible rfl)
                try simp only [Act.put, List.setIfInBounds_toArray, List.set_cons_zero, List.set_cons_succ]
                refine wpZ_one (i := 23) rfl (by kernel_rfl) (fun K hK => ?_)
                have hk4 := (ho6.dcell (g := g) (l := [.int .i64 (q : Int), .int .i64 0, nv9, fv]) (j := 3) (by simp) rfl).2
                go_simp
                refine hK.out _ _ (fun k => absurd rfl k) (fun _ => ?_)
                clear hK K
                try simp only [Act.put, List.setIfInBounds_toArray, List.set_cons_zero, List.set_cons_succ]
                refine wpZ_done (by kernel_rfl) ?_ _
                have HB6 : Hid (QX w1 (w6.setCell ⟨g, 3, none⟩ (.slice (some ⟨g6, 0, none⟩) (bs.length + 1) cap6)) g (w.heap.size + 1 + 1) P D X q (k + 1) (.slice (some adx) l'.length cx') (.slice (some ady) l'.length cy')) := by
                  have HBf := build_flag HB9.out.1 ho6 rfl
                  refine ⟨l', nv9, .slice (some ⟨g6, 0, none⟩) (bs.length + 1) cap6, rs9, HPn.out, HFar9.out, ?_⟩
                  rw [HFlag.out, HR9.out]
                  exact HBf
                clear HO5 ho6 HB9 HK hk4 hHeld
                go_wp2
                go_roundw
                case rel => exact ⟨k + 1, by omega, by go_num, HB6⟩
                case measure => simp [intOf]; omega
    · as_aux_lemma =>
        obtain rfl : k = l.length := by omega
        have HWi := Lib.hid (sx_wi HG.out HIn.out (HP.out.whole (Nat.le_refl _)))
        rw [List.take_length] at HBd
        have HRS : Hid (rs.map (·.2) = l.map (srowX P D X l)) := HBd.out.1
        have HL0 : Hid (Own w1 wr [eInts (.slice none 0 0) (List.replicate 0 (-1)), eRows nv (rs.map (·.1)), eBools fv (l.map (finW P D)), eDfa g [.int .i64 (n : Int), .int .i64 0, nv, fv], eDfa (w.heap.size + 1 + 1) zero4] (eEach rs)) :=
          ((HBd.out.2.re [4, 5, 0, 1, 2, 3] 6 rfl (by decide)).tail).tail.nil 3 1
        have hrl : rs.length = l.length := by
          have := congrArg List.length HRS.out
          rwa [List.length_map, List.length_map] at this
        have hbl : (l.map (finW P D)).length ≤ 40 := by rw [List.length_map]; exact h40
        have HRl := Lib.hid hrl
        have hrl1 : rs.length ≤ 40 := by omega
        clear hrl
        generalize hbs : l.map (finW P D) = bs at *
        have HBs := Lib.hid hbs
        clear HP HBd hbs
        go_wp2
        go_loopw [16, 17] (fun lv i wi => ∃ (q : Nat), q ≤ n ∧ i = .int .i64 q ∧ Hid (Own w1 wi [eInts lv (List.replicate q (-1)), eRows nv (rs.map (·.1)), eBools fv bs, eDfa g [.int .i64 (n : Int), .int .i64 0, nv, fv], eDfa (w.heap.size + 1 + 1) zero4] (eEach rs))) (fun _ i _ => n - (intOf i).toNat)
        case atStart => exact ⟨0, by omega, rfl, HL0⟩
        case round =>
          clear HL0
          obtain ⟨q, hq, rfl, HR⟩ := hrel
          have hc0 := (HX.out.on HR.out.below).c0
          by_cases hqn : q < n
          · as_aux_lemma =>
              have hll : (List.replicate q (-1 : Int)).length ≤ 6 := by rw [List.length_replicate]; omega
              have HRn : Hid (List.replicate q (-1 : Int) ++ [-1] = List.replicate (q + 1) (-1)) := by unfold Hid; rw [← List.replicate_succ']
              generalize List.replicate q (-1 : Int) = lq at *
              go_wp2_with (at_builtin; refine own_int (by rfl) _ _ (by rfl) (by rfl) HR.out (by rfl) (by omega) ?_)
              intro g7 cap7 w7 ho7
              have HR9 : Hid (Own w1 w7 [eInts (.slice (some ⟨g7, 0, none⟩) (lq.length + 1) cap7) (List.replicate (q + 1) (-1)), eRows nv (rs.map (·.1)), eBools fv bs, eDfa g [.int .i64 (n : Int), .int .i64 0, nv, fv], eDfa (w.heap.size + 1 + 1) zero4] (eEach rs)) := by
                rw [← HRn.out]; exact ho7
              clear ho7 HR HRn
              go_wp2
              go_roundw
              case rel => exact ⟨q + 1, by omega, by go_num, HR9⟩
              case measure => simp [intOf]; omega
          · as_aux_lemma =>
              obtain rfl : q = n := by omega
              obtain ⟨Al, cl, hlv, _⟩ := own_read HR.out (v := u16) (l := List.replicate q (-1)) (by simp)
              subst hlv
              obtain ⟨hg2, hgf2⟩ := HR.out.dcell (g := g) (l := [.int .i64 (q : Int), .int .i64 0, nv, fv]) (j := 2) (by simp) rfl
              have hlr : (rs.map (·.1)).length < 1099511627776 := by rw [List.length_map]; omega
              have HRq : Hid (∀ r ∈ l.map (srowX P D X l) ++ [List.replicate q (-1)], r.length = q) := fun r hr => by
                rcases List.mem_append.1 hr with hr | hr
                · obtain ⟨y, _, rfl⟩ := List.mem_map.1 hr
                  unfold srowX
                  rw [List.length_map, S2_length, HL.out]; rfl
                · simp at hr; subst hr; simp
              have HRLen : Hid ((l.map (srowX P D X l) ++ [List.replicate q (-1)]).length = rs.length + 1) := by unfold Hid; rw [List.length_append, List.length_map, HRl.out]; rfl
              have HRend : Hid ((l.map (srowX P D X l) ++ [List.replicate q (-1)]).map (fun (r : List Int) => r.map (fxI rs.length)) = (wA P D X l).next) := by
                have := fix_all P D X l
                rw [HL.out] at this
                unfold Hid; rw [HRl.out]; exact this
              have HR3 : Hid (Own w1 wr (eRows nv (rs.map (·.1)) :: [eInts (.slice Al (List.replicate q (-1 : Int)).length cl) (List.replicate q (-1)), eBools fv bs, eDfa g [.int .i64 (q : Int), .int .i64 0, nv, fv], eDfa (w.heap.size + 1 + 1) zero4]) (eEach rs)) := HR.out.two
              generalize List.replicate q (-1 : Int) = last at *
              clear HR
              go_wp2_with (at_builtin; refine own_row (by rfl) _ _ (by rfl) (by rfl) HR3.out (by rfl) (by rfl) hlr ?_)
              intro g8 cap8 w8 ho8
              have HFar9 : Hid (FarR (rs ++ [(.slice Al last.length cl, last)])) := farR_snoc HFar.out ho8.two
              have HB9 : Hid (Build w1 (w8.setCell ⟨g, 2, none⟩ (.slice (some ⟨g8, 0, none⟩) (rs.length + 1) cap8)) g [eDfa (w.heap.size + 1 + 1) zero4] (q : Int) 0 (l.map (srowX P D X l) ++ [last]) bs (.slice (some ⟨g8, 0, none⟩) (rs.length + 1) cap8) fv (rs ++ [(.slice Al last.length cl, last)])) :=
                build_row HRS.out ho8 rfl
              obtain ⟨hk8, hf8⟩ := ho8.dcell (g := g) (l := [.int .i64 (q : Int), .int .i64 0, nv, fv]) (j := 2) (by simp) rfl
              obtain ⟨hk3, hf3⟩ := ho8.dcell (g := g) (l := [.int .i64 (q : Int), .int .i64 0, nv, fv]) (j := 3) (by simp) rfl
              have HO9 := Lib.hid HB9.out.2.two
              generalize l.map (srowX P D X l) ++ [last] = R at *
              generalize rs ++ [(Value.slice Al last.length cl, last)] = rs9 at *
              have hbl2 : bs.length < 17592186044416 := by omega
              clear ho8 hg2 hgf2 HR3 hlr hc0
              go_wp2_with (at_builtin; refine own_bool (by rfl) _ _ (by rfl) (by rfl) HO9.out (by rw [size_setC]; rfl) hbl2 ?_)
              intro g10 cap10 w10 ho10
              obtain ⟨hk6, hf6⟩ := ho10.dcell (g := g) (l := [.int .i64 (q : Int), .int .i64 0, .slice (some ⟨g8, 0, none⟩) (rs.length + 1) cap8, fv]) (j := 3) (by simp) rfl
              have HT0 : Hid (∃ rs', TabI w1 (w10.setCell ⟨g, 3, none⟩ (.slice (some ⟨g10, 0, none⟩) (bs.length + 1) cap10)) g (w.heap.size + 1 + 1) (q : Int) (.slice (some ⟨g8, 0, none⟩) (rs.length + 1) cap8) (.slice (some ⟨g10, 0, none⟩) (bs.length + 1) cap10) (bs ++ [false]) (fixT rs.length R 0 0) rs') := by
                refine ⟨rs9, ?_⟩
                rw [fixT_zero]
                exact tabI_of (build_flag HB9.out.1 ho10 rfl) HFar9.out
              have HwA : Hid (wA P D X l = ⟨(q : Int), 0, (wA P D X l).next, bs ++ [false]⟩) := by
                unfold Hid
                rw [← HL.out, ← HBs.out]
                rfl
              clear ho10 HB9 HO9 hk8 hf8 hk3 hf3 HFar9 HFar HRS
              go_wp2
              generalize hK : rs.length = K at *
              have hbs9 : (bs ++ [false]).length = bs.length + 1 := by simp
              generalize bs ++ [false] = bs9 at *
              generalize hwn : w10.setCell ⟨g, 3, none⟩ (.slice (some ⟨g10, 0, none⟩) (bs.length + 1) cap10) = wn at *
              clear hwn hk6 hf6
              generalize (⟨g8, 0, none⟩ : Addr) = a8 at *
              go_loopw [18] (fun i wi => ∃ (k : Nat), k ≤ K + 1 ∧ i = .int .i64 k ∧ Hid (∃ rs', TabI w1 wi g (w.heap.size + 1 + 1) (q : Int) (.slice (some a8) (K + 1) cap8) (.slice (some ⟨g10, 0, none⟩) (bs.length + 1) cap10) bs9 (fixT K R k 0) rs')) (fun i _ => K + 1 - (intOf i).toNat)
              case atStart => exact ⟨0, by omega, rfl, HT0⟩
              case round =>
                clear HT0
                obtain ⟨k, hk, rfl, HT⟩ := hrel
                have hg2 : wr.cell? ⟨g, 2, none⟩ = some (.slice (some a8) (K + 1) cap8) := by
                  obtain ⟨rs', h⟩ := HT.out
                  exact h.c2
                by_cases hkK : k < K + 1
                · as_aux_lemma =>
                    obtain ⟨r, hr⟩ : ∃ r, R[k]? = some r := ⟨_, List.getElem?_eq_getElem (by have := HRLen.out; omega)⟩
                    have hrq : r.length = q := HRq.out r (List.mem_of_getElem? hr)
                    have HRr := Lib.hid hr
                    clear hr
                    go_wp2
                    go_loopw [19] (fun i wi => ∃ (c : Nat), c ≤ q ∧ i = .int .i64 c ∧ Hid (∃ rs', TabI w1 wi g (w.heap.size + 1 + 1) (q : Int) (.slice (some a8) (K + 1) cap8) (.slice (some ⟨g10, 0, none⟩) (bs.length + 1) cap10) bs9 (fixT K R k c) rs')) (fun i _ => q - (intOf i).toNat)
                    case atStart => exact ⟨0, by omega, rfl, HT⟩
                    case round =>
                      clear HT hg2
                      obtain ⟨c, hc, rfl, HC⟩ := hrel
                      have HBl : Hid (Below w1.heap.size w1 wr) := by
                        obtain ⟨rs', h⟩ := HC.out
                        exact h.2.below
                      have hg2 : wr.cell? ⟨g, 2, none⟩ = some (.slice (some a8) (K + 1) cap8) := by
                        obtain ⟨rs', h⟩ := HC.out
                        exact h.c2
                      have hc0 := (HX.out.on HBl.out).c0
                      by_cases hcq : c < q
                      · as_aux_lemma =>
                          obtain ⟨z, hz⟩ : ∃ z, r[c]? = some z := ⟨_, List.getElem?_eq_getElem (by omega)⟩
                          obtain ⟨rs', hT⟩ := HC.out
                          obtain ⟨ad, gi, cap, eA, h1, h2, h3, h4⟩ := hT.at_ (fixT_get (n := K) (j := c) HRr.out) (fixR_get (n := K) hz)
                          obtain rfl := Option.some.inj eA
                          rw [fixR_len, hrq] at h1
                          have H4 := Lib.hid h4
                          have HZ := Lib.hid hz
                          have i1 : (k : Int) < (K : Int) + 1 := by omega
                          have i2 : (c : Int) < (q : Int) := by omega
                          clear hT h4 hz eA
                          by_cases hz0 : z < 0
                          · as_aux_lemma =>
                              have HE : Hid ((fixT K R k c).set k ((fixR K r c).set c (K : Int)) = fixT K R k (c + 1)) := by
                                have e : fixR K r (c + 1) = (fixR K r c).set c (K : Int) := by rw [fixR_next HZ.out]; unfold fxI; rw [if_pos hz0]
                                unfold Hid; rw [← e]; exact fixT_set HRr.out
                              have HW4 : Hid (∀ W, Below wr.heap.size wr W → ∃ rs', TabI w1 (W.setCell ⟨gi, c, none⟩ (.int .i64 (K : Int))) g (w.heap.size + 1 + 1) (q : Int) (.slice (some a8) (K + 1) cap8) (.slice (some ⟨g10, 0, none⟩) (bs.length + 1) cap10) bs9 (fixT K R k (c + 1)) rs') := fun W hW => by
                                have := H4.out W (K : Int) hW
                                rwa [HE.out] at this
                              have hKw : IntKind.i64.wrap ((K : Int) + 1 - 1) = (K : Int) := by
                                rw [show (K : Int) + 1 - 1 = (K : Int) by omega]
                                exact IntWalk.i64_in _ ⟨by omega, by omega⟩
                              have hKw2 : IntKind.i64.wrap (K : Int) = (K : Int) := IntWalk.i64_in _ ⟨by omega, by omega⟩
                              clear H4 HE
                              go_wp2
                              go_region
                              have hWb : Below wr.heap.size wr wr.drew := (Below.refl _ _).drew
                              have HN := Lib.hid (HW4.out _ hWb)
                              go_wp2
                              go_roundw
                              case rel => exact ⟨c + 1, by omega, by go_num, HN⟩
                              case measure => simp [intOf]; omega
                          · as_aux_lemma =>
                              have HE : Hid (fixT K R k (c + 1) = fixT K R k c) := by
                                have e : fixR K r (c + 1) = fixR K r c := fixR_stay HZ.out hz0
                                unfold Hid; rw [← fixT_set (n := K) (j := c) HRr.out (j' := c + 1), e, fixT_set HRr.out]
                              rw [← HE.out] at HC
                              clear H4 HE
                              go_wp2
                              go_roundw
                              case rel => exact ⟨c + 1, by omega, by go_num, HC⟩
                              case measure => simp [intOf]; omega
                      · as_aux_lemma =>
                          obtain rfl : c = q := by omega
                          rw [fixT_row HRr.out (by omega)] at HC
                          go_wp2
                          go_roundw
                          case rel => exact ⟨k + 1, by omega, by go_num, HC⟩
                          case measure => simp [intOf]; omega
                · as_aux_lemma =>
                    obtain rfl : k = K + 1 := by omega
                    obtain ⟨rs', hT⟩ := HT.out
                    rw [fixT_end K R (by rw [HRLen.out]; omega), HRend.out] at hT
                    have HBd := Lib.hid hT.build
                    have HGB := Lib.hid (wA_goodB HG.out HWi.out h40)
                    have HSm : Hid (∀ r ∈ (wA P D X l).next, ∀ x ∈ r, Small x) := fun r hr x hx => by
                      have h1 := HGB.out.go r hr x hx
                      unfold isSt at h1
                      rw [wA_len] at h1
                      exact ⟨by omega, by omega⟩
                    clear HT hT HRend HRLen HRq
                    obtain ⟨hg0, hg1, hg2, hg3⟩ := HBd.out.str
                    obtain ⟨hr0, hf0⟩ := HBd.out.res (j := 0) (by omega)
                    obtain ⟨hr1, hf1⟩ := HBd.out.res (j := 1) (by omega)
                    obtain ⟨hr2, hf2⟩ := HBd.out.res (j := 2) (by omega)
                    obtain ⟨hr3, hf3⟩ := HBd.out.res (j := 3) (by omega)
                    have HEnd := Lib.hid (build_end HBd.out HSm.out ⟨by omega, by omega⟩ ⟨by omega, by omega⟩ rfl)
                    go_wp2
                    obtain ⟨k1, k3, k4, k5, k6⟩ := HEnd.out
                    exact bodyPost_ret (Df.res_one rfl _ rfl k3 k4 k5 k6) rfl ⟨_, l, rfl, HWi.out, by rw [HwA.out]; exact k1.base HB.out⟩
end Go.Proofs.YtbciefeipiphiaaDoor.Su
