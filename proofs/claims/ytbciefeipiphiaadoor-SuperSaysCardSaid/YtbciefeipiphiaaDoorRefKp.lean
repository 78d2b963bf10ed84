/- The walk of the document's answer whether a plant is kept: stilewardref3's Kept. -/
import Derived.Test.YtbciefeipiphiaaDoorRefKd
import Derived.Test.YtbciefeipiphiaaDoorRefNot
namespace Go.Proofs.YtbciefeipiphiaaDoor.Su
open Go.RowKit Go.IntWalk Go.Proofs.YtbciefeipiphiaaDoor.Wd Go.Proofs.YtbciefeipiphiaaDoor.Wo Go.Proofs.YtbciefeipiphiaaDoor.Df Go.Proofs.YtbciefeipiphiaaDoor.Rc Go.Proofs.YtbciefeipiphiaaDoor.Sm

set_option linter.unusedSimpArgs false in
set_option maxRecDepth 100000 in
set_option maxHeartbeats 16000000 in
theorem rkept_any (v z : Value) (P D : Aut) (free : Int) (w : World) (ha : DfaAt w w.heap.size v P) (hb : DfaAt w w.heap.size z D) (hg : Good2 P D) (hf : 0 ≤ free) (hf2 : free ≤ 9223372036854775807) :
    Calls Tryd.prog 7 #[v, z, .int .i64 free] w fun e w' => Hid (∃ lv, e = .returned (.tuple #[.bool (tellsB P D free).1, lv]) ∧ Own w w' [] [eInts lv (tellsB P D free).2]) := by
  have HA := ha
  have HZ := hb
  obtain ⟨L, s, A, c, F, cf, rfl, ha⟩ := ha
  obtain ⟨L', t, C, d, G, cg, rfl, hb⟩ := hb
  obtain ⟨wx, hwx, hBx, hX, hd1⟩ := box_dfa w ha
  obtain ⟨w1, hw1, hB1, hY, hd2⟩ := box_dfa wx (hb.on hBx)
  have hs1 : wx.heap.size = w.heap.size + 1 := by rw [hwx]; simp
  rw [hs1] at hY
  have hbb := hBx.trans (hB1.mono hBx.size)
  have HB := Lib.hid hbb
  have HX := Lib.hid (hX.on hB1)
  have HY := Lib.hid hY
  have HDA := Lib.hid (hd1.on hB1)
  have HDB := Lib.hid hd2
  have HL1 := Lib.hid (live_any _ P w1 (HA.on hbb) hg.ga)
  have HL2 := Lib.hid (fun W (hW : Below w1.heap.size w1 W) => live_any _ D W ((HZ.on hbb).on hW) hg.gb)
  have HW : Hid (w1 = (w.alloc (.cells #[.int .i64 L, .int .i64 s, .slice A P.next.length c, .slice F P.fin.length cf] 25)).alloc (.cells #[.int .i64 L', .int .i64 t, .slice C D.next.length d, .slice G D.fin.length cg] 25)) := by
    rw [← hwx]; exact hw1
  have HG := Lib.hid hg
  obtain ⟨n, hn⟩ := Int.eq_ofNat_of_zero_le (show 0 ≤ L by have := hg.ga.l1; have := ha.eL; omega)
  subst hn
  obtain ⟨p, hp⟩ := Int.eq_ofNat_of_zero_le (show 0 ≤ s by have := hg.ga.st.1; have := ha.es; omega)
  obtain ⟨q, hq⟩ := Int.eq_ofNat_of_zero_le (show 0 ≤ t by have := hg.gb.st.1; have := hb.es; omega)
  subst hp hq
  have HL : Hid (P.L = (n : Int)) := ha.eL
  have HLb : Hid (D.L = (n : Int)) := by have := hg.eL; have := ha.eL; unfold Hid; omega
  have hn6 : n ≤ 6 := by have := hg.ga.l6; have := ha.eL; omega
  have hsp : P.s.toNat = p := by have := ha.es; omega
  have hsq : D.s.toNat = q := by have := hb.es; omega
  have hpM := hg.ga.s_lt
  have hqN := hg.gb.s_lt
  rw [hsp] at hpM
  rw [hsq] at hqN
  have HSp := Lib.hid hsp
  have HSq := Lib.hid hsq
  have hM40 := hg.ga.n40
  have hN40 := hg.gb.n40
  clear hwx hw1 hBx hB1 hbb hX hY hd1 hd2 hs1 ha hb hg HA HZ hsp hsq
  generalize P.fin.length = fa at *
  generalize D.fin.length = fb at *
  generalize hM : P.next.length = M at *
  generalize hN : D.next.length = N at *
  have HM := Lib.hid hM
  have HN := Lib.hid hN
  clear hM hN
  obtain ⟨T, hT⟩ : ∃ T, T = tellsB P D free := ⟨_, rfl⟩
  have HTT := Lib.hid hT
  clear hT
  rw [← HTT.out]
  have HBit := Lib.hid (fun (c : Nat) W (hc : c ≤ 1000) => bit_any free (c : Int) W hf hf2 (by omega) (by omega))
  clear hf hf2
  have hc0 := HX.out.c0
  have hc1 := HX.out.c1
  have hc2 := HX.out.c2
  have hc3 := HX.out.c3
  go_enter Tryd.func7, Tryd.ntmps7
  go_wp2_with fail
  rw [← HW.out]
  clear HW
  refine HL1.out.mono ?_
  rintro e u1 he
  obtain ⟨gx, rfl, ho1⟩ := he.out
  have hd0 := (HY.out.on ho1.below).c0
  have hd1 := (HY.out.on ho1.below).c1
  have hd2 := (HY.out.on ho1.below).c2
  have hd3 := (HY.out.on ho1.below).c3
  have HL2 := Lib.hid (HL2.out u1 ho1.below)
  have HO1 := Lib.hid ho1
  clear he ho1 HL1 hc0 hc1 hc2 hc3
  go_wp2_with fail
  refine HL2.out.mono ?_
  rintro e wb he
  obtain ⟨gy, rfl, ho2⟩ := he.out
  have hB2 : Below w1.heap.size w1 wb := HO1.out.below.trans (ho2.below.mono HO1.out.below.size)
  have HX := Lib.hid (HX.out.on hB2)
  have HY := Lib.hid (HY.out.on hB2)
  have HDA := Lib.hid (HDA.out.on hB2)
  have HDB := Lib.hid (HDB.out.on hB2)
  have HB := Lib.hid (HB.out.trans (hB2.mono HB.out.size))
  have XC : Hid (∀ W, Below wb.heap.size wb W → ∀ i, i < M → W.cell? ⟨gx, i, none⟩ = some (.bool (isAlive P i))) := fun W hW i hi => (own_bools_cell ((HO1.out.on ho2.below).on hW) (List.mem_append_right _ List.mem_cons_self) (bF_length _ _) (bF_get _ hi)).1
  have YC : Hid (∀ W, Below wb.heap.size wb W → ∀ i, i < N → W.cell? ⟨gy, i, none⟩ = some (.bool (isAlive D i))) := fun W hW i hi => (own_bools_cell (ho2.on hW) (List.mem_append_right _ List.mem_cons_self) (bF_length _ _) (bF_get _ hi)).1
  clear he ho2 HL2 HO1 hB2 hd0 hd1 hd2 hd3
  have HS : Hid (KP wb wb P D free N 0 (.slice none 0 0)) := ⟨[], ⟨(own_start wb).nil 27 1, fun r hr => by simp at hr⟩, rfl, fun j r hj => by simp at hj⟩
  go_wp2
  go_loopw [10, 11] (fun tv i wr => ∃ (k : Nat), k ≤ M ∧ i = .int .i64 k ∧ Hid (KP wb wr P D free N k tv)) (fun _ i _ => M - (intOf i).toNat)
  case atStart => exact ⟨0, by omega, rfl, HS⟩
  case round =>
    clear HS
    obtain ⟨k, hk, rfl, HS⟩ := hrel
    obtain ⟨rs, hown, hlen, hrows⟩ := HS.out
    have HLen := Lib.hid hlen
    have HRows := Lib.hid hrows
    have HRL := Lib.hid hown.2
    have HO := Lib.hid hown
    have hlen1 : (rs.map (irV N)).length < 1099511627776 := by rw [List.length_map]; omega
    clear HS hown hlen hrows
    by_cases hkM : k < M
    · as_aux_lemma =>
        go_wp2_with (at_make; refine mk_ints rfl _ _ rfl N rfl rfl (by omega) ?_)
        intro w4 hm4
        have hj4 := HO.out.1.join (Own.of_nums hm4)
        have HR0 : Hid (Own wb w4 (eInts (rowV wr.heap.size N) (iF N (v0K P D free k 0)) :: eRows u10 (rs.map (irV N)) :: eEachI N rs) []) := by
          rw [← v0K_start]; exact hj4
        clear hm4 hj4 HO
        generalize wr.heap.size = gw at *
        have HKl : Hid (k < P.next.length) := by unfold Hid; rw [HM.out]; exact hkM
        go_wp2
        go_loopw [13] (fun i wi => ∃ (q : Nat), q ≤ N ∧ i = .int .i64 q ∧ Hid (Own wb wi (eInts (rowV gw N) (iF N (v0K P D free k q)) :: eRows u10 (rs.map (irV N)) :: eEachI N rs) [])) (fun i _ => N - (intOf i).toNat)
        case atStart => exact ⟨0, by omega, rfl, HR0⟩
        case round =>
          clear HR0
          obtain ⟨q, hq, rfl, HR⟩ := hrel
          by_cases hqN : q < N
          · have HQl : Hid (q < D.next.length) := by unfold Hid; rw [HN.out]; exact hqN
            obtain ⟨hk1, hk2⟩ := own_ints_cell (g := gw) (n := N) (cap := N) (l := iF N (v0K P D free k q)) HR.out (List.mem_append_left _ List.mem_cons_self) (iF_length _ _) (iF_get _ hqN)
            have HR1 : Hid (Own wb (wr.setCell ⟨gw, q, none⟩ (.int .i64 (-1))) (eInts (rowV gw N) (rowZ P D free N k q (anyTo P D free k q 0)) :: eRows u10 (rs.map (irV N)) :: eEachI N rs) []) := by
              rw [anyTo_zero]; exact own_ints_set HR.out (iF_length _ _) q (-1)
            have hc0 := (HX.out.on HR1.out.below).c0
            have e3 : (q : Int) < (N : Int) := by omega
            clear HR
            generalize v0K P D free k q q = old at *
            go_wp2
            go_loopw [14] (fun i wi => ∃ (c : Nat), c ≤ n ∧ i = .int .i64 c ∧ Hid (Own wb wi (eInts (rowV gw N) (rowZ P D free N k q (anyTo P D free k q c)) :: eRows u10 (rs.map (irV N)) :: eEachI N rs) [])) (fun i _ => n - (intOf i).toNat)
            case atStart => exact ⟨0, by omega, rfl, HR1⟩
            case round =>
              clear HR1 hc0 hk1 hk2
              obtain ⟨c, hc, rfl, HR⟩ := hrel
              have hb2 := HR.out.below
              have hc0 := (HX.out.on hb2).c0
              by_cases hcn : c < n
              · have hxc := XC.out _ hb2 k hkM
                have hyc := YC.out _ hb2 q hqN
                have HcL : Hid ((c : Int) < P.L) := by rw [HL.out]; unfold Hid; omega
                obtain ⟨ad, ar, mr, cr, eA, hadb, hcell, hjm, harb, hac⟩ := (HDA.out.on hb2).step_at HG.out.ga HKl.out (i := c) HcL.out
                obtain ⟨ad', ar', mr', cr', eC, hadb', hcell', hjm', harb', hac'⟩ := (HDB.out.on hb2).step_at HG.out.gb HQl.out (i := c) (by rw [HLb.out]; omega)
                subst eA eC
                have hu := HG.out.ga.step_lt HKl.out HcL.out
                have hv := HG.out.gb.step_lt HQl.out (a := c) (by rw [HLb.out]; omega)
                rw [HM.out] at hu
                rw [HN.out] at hv
                have hxu := XC.out _ hb2 _ hu
                have hyv := YC.out _ hb2 _ hv
                have hca := (HX.out.on hb2).c2
                have hcb := (HY.out.on hb2).c2
                have e1 : (k : Int) < (M : Int) := by omega
                have e4 : (c : Int) < (mr : Int) := by omega
                have e5 : (c : Int) < (mr' : Int) := by omega
                have e6 : (Df.step P k c : Int) < (M : Int) := by omega
                have e7 : (Df.step D q c : Int) < (N : Int) := by omega
                have HBt := Lib.hid (HBit.out c wr (by omega))
                have hsu := anyTo_succ P D free k q c
                unfold live2 badC at hsu
                obtain ⟨k1, k2⟩ := own_ints_cell (g := gw) (n := N) (cap := N) HR.out (List.mem_append_left _ List.mem_cons_self) (rowZ_length _ _ _ _ _ _ _) (rowZ_get hqN)
                have h1 := own_ints_set HR.out (rowZ_length _ _ _ _ _ _ _) q 1
                rw [rowZ_hit] at h1
                have HHit : Hid (anyTo P D free k q (c + 1) = true → Own wb (wr.setCell ⟨gw, q, none⟩ (.int .i64 1)) (eInts (rowV gw N) (rowZ P D free N k q (anyTo P D free k q (c + 1))) :: eRows u10 (rs.map (irV N)) :: eEachI N rs) []) := fun e => by rw [e]; exact h1
                have HKeep : Hid (anyTo P D free k q (c + 1) = anyTo P D free k q c → Own wb wr (eInts (rowV gw N) (rowZ P D free N k q (anyTo P D free k q (c + 1))) :: eRows u10 (rs.map (irV N)) :: eEachI N rs) []) := fun e => by rw [e]; exact HR.out
                clear HR h1 hb2 hadb hadb' harb harb' hjm hjm' HcL
                generalize zOf (anyTo P D free k q c) = zo at *
                generalize isAlive P (Df.step P k c) = b4 at *
                generalize isAlive D (Df.step D q c) = b5 at *
                generalize Df.step P k c = u at *
                generalize Df.step D q c = v at *
                generalize isAlive P k = b1 at *
                generalize isAlive D q = b2 at *
                generalize has free (c : Int) = b3 at *
                rcases b1 with _ | _
                · clear HBt
                  have HE := Lib.hid (HKeep.out (by rw [hsu]; simp))
                  clear HHit HKeep hsu
                  go_wp2
                  go_roundw
                  case rel => exact ⟨c + 1, by omega, by go_num, HE⟩
                  case measure => simp [intOf]; omega
                · rcases b2 with _ | _
                  · clear HBt
                    have HE := Lib.hid (HKeep.out (by rw [hsu]; simp))
                    clear HHit HKeep hsu
                    go_wp2
                    go_roundw
                    case rel => exact ⟨c + 1, by omega, by go_num, HE⟩
                    case measure => simp [intOf]; omega
                  · rcases b3 with _ | _
                    · have HE := Lib.hid (HKeep.out (by rw [hsu]; simp))
                      clear HHit HKeep hsu
                      go_wp2_with fail
                      refine HBt.out.mono ?_
                      rintro e w9 ⟨he, rfl⟩
                      obtain rfl := he.out
                      clear he HBt
                      go_wp2
                      go_roundw
                      case rel => exact ⟨c + 1, by omega, by go_num, HE⟩
                      case measure => simp [intOf]; omega
                    · rcases b4 with _ | _
                      · have HE := Lib.hid (HKeep.out (by rw [hsu]; simp))
                        clear HHit HKeep hsu
                        go_wp2_with fail
                        refine HBt.out.mono ?_
                        rintro e w9 ⟨he, rfl⟩
                        obtain rfl := he.out
                        clear he HBt
                        go_wp2
                        go_roundw
                        case rel => exact ⟨c + 1, by omega, by go_num, HE⟩
                        case measure => simp [intOf]; omega
                      · rcases b5 with _ | _
                        · have HE := Lib.hid (HHit.out (by rw [hsu]; simp))
                          clear HHit HKeep hsu
                          go_wp2_with fail
                          refine HBt.out.mono ?_
                          rintro e w9 ⟨he, rfl⟩
                          obtain rfl := he.out
                          clear he HBt
                          go_wp2
                          go_roundw
                          case rel => exact ⟨c + 1, by omega, by go_num, HE⟩
                          case measure => simp [intOf]; omega
                        · have HE := Lib.hid (HKeep.out (by rw [hsu]; simp))
                          clear HHit HKeep hsu
                          go_wp2_with fail
                          refine HBt.out.mono ?_
                          rintro e w9 ⟨he, rfl⟩
                          obtain rfl := he.out
                          clear he HBt
                          go_wp2
                          go_roundw
                          case rel => exact ⟨c + 1, by omega, by go_num, HE⟩
                          case measure => simp [intOf]; omega
              · obtain rfl : c = n := by omega
                have HE : Hid (Own wb wr (eInts (rowV gw N) (iF N (v0K P D free k (q + 1))) :: eRows u10 (rs.map (irV N)) :: eEachI N rs) []) := by
                  have h1 := HR.out
                  rw [rowZ_end HG.out HKl.out HQl.out HL.out] at h1
                  exact h1
                clear HR hb2
                go_wp2
                go_roundw
                case rel => exact ⟨q + 1, by omega, by go_num, HE⟩
                case measure => simp [intOf]; omega
          · obtain rfl : q = N := by omega
            have HO2 : Hid (Own wb wr (eRows u10 (rs.map (irV q)) :: eInts (rowV gw q) (iF q (kv P D free 1 false k)) :: eEachI q rs) []) := by rw [← v0K_full]; exact HR.out.two
            clear HR
            go_wp2_with (at_builtin; refine own_row (by rfl) _ _ (by rfl) (by rfl) HO2.out (by rfl) (by rfl) hlen1 ?_)
            intro g8 cap8 w8 ho8
            have HE : Hid (KP wb w8 P D free q (k + 1) (.slice (some ⟨g8, 0, none⟩) (rs.length + 1) cap8)) :=
              ⟨rs ++ [(gw, iF q (kv P D free 1 false k))], ownI_snoc (iF_length _ _) HRL.out ho8, by rw [List.length_append, HLen.out]; rfl, rowsI_snoc HRows.out gw HLen.out⟩
            clear ho8 HO2
            go_wp2
            go_roundw
            case rel => exact ⟨k + 1, by omega, by go_num, HE⟩
            case measure => simp [intOf]; omega
    · obtain rfl : k = M := by omega
      obtain ⟨At, ct, htv⟩ := ownI_form HO.out
      rw [HLen.out] at htv
      subst htv
      have HS2 : Hid (K1 wb wr P D free N 0 true (.slice At k ct)) := ⟨rs, HO.out, by rw [HLen.out, HM.out], HRows.out, fun _ => .inl rfl, fun e => absurd e (by decide)⟩
      clear HO HRows HRL HLen hlen1
      go_wp2
      generalize wr = wz at *
      go_loopw [15, 16] (fun gv i wr => ∃ (x : Nat) (gb : Bool), x ≤ 1602 ∧ gv = .bool gb ∧ i = .int .i64 ((x : Int) + 2) ∧ Hid (K1 wb wr P D free N x gb (.slice At k ct))) (fun _ i _ => 2000 - (intOf i).toNat)
      case atStart => exact ⟨0, true, by omega, rfl, rfl, HS2⟩
      case round =>
        clear HS2
        obtain ⟨x, gb, hx, rfl, rfl, HS⟩ := hrel
        rcases gb with _ | _
        · obtain ⟨rs, h1, h2, h3, _, h5⟩ := HS.out
          have HTab := Lib.hid (ownI_tab (N := N) (rs := rs) (A := At) (cap := ct) (by rw [h2, HM.out]; exact h1))
          have hbw := h1.1.below
          have HBe := Lib.hid (HB.out.trans (hbw.mono HB.out.size))
          have HLen := Lib.hid h2
          rw [HM.out] at HLen
          have HRows : Hid (RowsI N rs (kvAll P D free)) := rowsI_congr h3 fun y z hy hz => kv_end HG.out (fun p q hp hq e => lk_gap HG.out (h5 rfl) (x + 1) (by omega) p q hp hq e) (by rw [← h2]; exact hy) (by rw [HN.out]; exact hz) false
          have HX2 := Lib.hid (HX.out.on hbw)
          have HY2 := Lib.hid (HY.out.on hbw)
          have HDA2 := Lib.hid (HDA.out.on hbw)
          have HDB2 := Lib.hid (HDB.out.on hbw)
          have XC2 : Hid (∀ W, Below wr.heap.size wr W → ∀ i, i < k → W.cell? ⟨gx, i, none⟩ = some (.bool (isAlive P i))) := fun W hW i hi => XC.out W (hbw.trans (hW.mono hbw.size)) i hi
          have YC2 : Hid (∀ W, Below wr.heap.size wr W → ∀ i, i < N → W.cell? ⟨gy, i, none⟩ = some (.bool (isAlive D i))) := fun W hW i hi => YC.out W (hbw.trans (hW.mono hbw.size)) i hi
          clear h1 h2 h3 h5 HS hbw HX HY HDA HDB XC YC HB
          generalize wr = w2 at *
          have HPl : Hid (p < P.next.length) := by unfold Hid; rw [HM.out]; exact hpM
          have HQl : Hid (q < D.next.length) := by unfold Hid; rw [HN.out]; exact hqN
          have hc1 := HX2.out.c1
          have hd1 := HY2.out.c1
          obtain ⟨adt, r0, eA, h1, h2⟩ := HTab.out.at_ HRows.out (x := p) (y := q) (by rw [HLen.out]; exact hpM) hqN
          subst eA
          have e1 : (p : Int) < (k : Int) := by omega
          have e2 : (q : Int) < (N : Int) := by omega
          rcases lk_cases P D free p q with hv | ⟨k0, hv⟩
          · as_aux_lemma =>
              rw [kvAll_neg (by rw [hv]; omega)] at h2
              have HE : Hid (T = (true, [])) := by
                unfold Hid
                rw [HTT.out]
                unfold tellsB
                rw [keptW_no HG.out (by rw [HSp.out, HSq.out]; exact hv)]
              have HO : Hid (Own w2 w2 [] [eInts (.slice none 0 0) []]) := ((own_start w2).nil 3 1).fin
              clear hv
              go_wp2
              go_ret2
              exact ⟨_, by rw [HE.out]; rfl, by rw [HE.out]; exact HO.out.base HBe.out⟩
          · rw [kvAll_eq.2 hv] at h2
            have hk := lk_lt HG.out HPl.out HQl.out hv
            have hk9 : P.next.length * D.next.length ≤ 40 * 40 := Nat.mul_le_mul HG.out.ga.n40 HG.out.gb.n40
            have hk0 : k0 ≤ 1600 := by omega
            have HS : Hid (WK w2 w2 P D free p q k0 (.slice none 0 0) (pickB P D free k0 p q)) := ⟨[], (own_start w2).nil 3 1, rfl, hv, HPl.out, HQl.out, by simp; omega⟩
            have HE : Hid (T = (false, pickB P D free k0 p q)) := by
              unfold Hid
              rw [HTT.out]
              unfold tellsB
              rw [keptW_lk HG.out (by rw [HSp.out, HSq.out]; exact hv), HSp.out, HSq.out]
            clear hv hk hk9
            go_wp2
            clear hc1 hd1 h1 h2 e1 e2
            generalize pickB P D free k0 p q = W at *
            go_loopw [20, 21, 22, 23] (fun sv tv kv lv wr => ∃ (x y j : Nat), sv = .int .i64 x ∧ tv = .int .i64 y ∧ kv = .int .i64 ((j : Int) + 1) ∧ j ≤ 1600 ∧ Hid (WK w2 wr P D free x y j lv W)) (fun _ _ kv _ _ => (intOf kv).toNat)
            case atStart => exact ⟨p, q, k0, rfl, rfl, rfl, by omega, HS⟩
            case round =>
              clear HS
              obtain ⟨x, y, j, rfl, rfl, rfl, hj, HS⟩ := hrel
              obtain ⟨l, ho, hw, hl, hxM, hyN, hll⟩ := HS.out
              have HO := Lib.hid ho
              have HWw := Lib.hid hw
              have HLv := Lib.hid hl
              have HxM := Lib.hid hxM
              have HyN := Lib.hid hyN
              rw [HM.out] at hxM
              rw [HN.out] at hyN
              rcases j with _ | j
              · as_aux_lemma =>
                  have hz := (lk_zero HG.out HxM.out HyN.out).1 hl
                  rw [lenB, Bool.and_eq_true] at hz
                  obtain ⟨c0, hc0⟩ := least_any hz.2
                  obtain ⟨hc0n, hc0b, hc0m⟩ := least_some hc0
                  have hc0n : c0 < n := by have := HL.out; omega
                  have HC0 := Lib.hid hc0b
                  have HE2 : Hid (T = (false, l ++ [(c0 : Int)])) := by
                    unfold Hid
                    rw [HE.out, ← hw, pickB_last (least_some hc0).1 hc0b hc0m]
                  have HMin := Lib.hid hc0m
                  have hbl : l.length < 17592186044416 := by omega
                  clear HS ho hw hl hz hc0 hc0b hc0m HE HWw HLv
                  go_wp2
                  go_loopw [25] (fun cv wr => ∃ (c : Nat), c ≤ c0 ∧ cv = .int .i64 c ∧ Hid (Own w2 wr [eInts u23 l] [])) (fun cv _ => c0 - (intOf cv).toNat)
                  case atStart => exact ⟨0, by omega, rfl, HO⟩
                  case round =>
                    clear HO
                    obtain ⟨c, hc, rfl, HO⟩ := hrel
                    have hb2 := HO.out.below
                    have HcL : Hid ((c : Int) < P.L) := by rw [HL.out]; unfold Hid; omega
                    obtain ⟨ad, ar, mr, cr, eA, hadb, hcell, hjm, harb, hac⟩ := (HDA2.out.on hb2).step_at HG.out.ga HxM.out (i := c) HcL.out
                    obtain ⟨ad', ar', mr', cr', eC, hadb', hcell', hjm', harb', hac'⟩ := (HDB2.out.on hb2).step_at HG.out.gb HyN.out (i := c) (by rw [HLb.out]; omega)
                    subst eA eC
                    have hu := HG.out.ga.step_lt HxM.out HcL.out
                    have hv := HG.out.gb.step_lt HyN.out (a := c) (by rw [HLb.out]; omega)
                    rw [HM.out] at hu
                    rw [HN.out] at hv
                    have hxu := XC2.out _ hb2 _ hu
                    have hyv := YC2.out _ hb2 _ hv
                    have hca := (HX2.out.on hb2).c2
                    have hcb := (HY2.out.on hb2).c2
                    have e1 : (x : Int) < (k : Int) := by omega
                    have e2 : (y : Int) < (N : Int) := by omega
                    have e3 : (c : Int) < (mr : Int) := by omega
                    have e4 : (c : Int) < (mr' : Int) := by omega
                    have e5 : (Df.step P x c : Int) < (k : Int) := by omega
                    have e6 : (Df.step D y c : Int) < (N : Int) := by omega
                    have HBt := Lib.hid (HBit.out c wr (by omega))
                    have HBad : Hid (badC P D free x y c = (has free (c : Int) && isAlive P (Df.step P x c) && !isAlive D (Df.step D y c))) := rfl
                    clear hb2 hadb hadb' harb harb' hjm hjm' HcL
                    generalize isAlive P (Df.step P x c) = b4 at *
                    generalize isAlive D (Df.step D y c) = b5 at *
                    generalize Df.step P x c = u at *
                    generalize Df.step D y c = v at *
                    generalize has free (c : Int) = b3 at *
                    by_cases hcc : c = c0
                    · subst hcc
                      have hbb := HBad.out
                      rw [HC0.out] at hbb
                      rcases b3 with _ | _ <;> rcases b4 with _ | _ <;> rcases b5 with _ | _ <;> first | exact absurd hbb (by decide) | skip
                      clear hbb HBad
                      go_wp2_with fail
                      refine HBt.out.mono ?_
                      rintro e w9 ⟨he, rfl⟩
                      obtain rfl := he.out
                      clear he HBt
                      go_wp2_with (at_builtin; refine own_int (by rfl) _ _ (by rfl) (by rfl) HO.out (by rfl) hbl ?_)
                      intro g8 cap8 w8 ho8
                      have HF : Hid (Own w w8 [] [eInts (.slice (some ⟨g8, 0, none⟩) (l.length + 1) cap8) (l ++ [(c : Int)])]) := (ho8.base HBe.out).fin
                      clear ho8 HO
                      go_wp2
                      go_ret2
                      exact ⟨_, by rw [HE2.out]; rfl, by rw [HE2.out]; exact HF.out⟩
                    · have hne := HMin.out c (by omega)
                      rw [HBad.out] at hne
                      have hlt : c < c0 := by omega
                      clear HBad
                      rcases b3 with _ | _
                      · clear hne
                        go_wp2_with fail
                        refine HBt.out.mono ?_
                        rintro e w9 ⟨he, rfl⟩
                        obtain rfl := he.out
                        clear he HBt
                        go_wp2
                        refine ⟨?_, ?measure⟩
                        (repeat apply Exists.intro)
                        refine ⟨?rel, rfl⟩
                        case rel => exact ⟨c + 1, by omega, by go_num, HO⟩
                        case measure => simp [intOf]; omega
                      · rcases b4 with _ | _
                        · clear hne
                          go_wp2_with fail
                          refine HBt.out.mono ?_
                          rintro e w9 ⟨he, rfl⟩
                          obtain rfl := he.out
                          clear he HBt
                          go_wp2
                          refine ⟨?_, ?measure⟩
                          (repeat apply Exists.intro)
                          refine ⟨?rel, rfl⟩
                          case rel => exact ⟨c + 1, by omega, by go_num, HO⟩
                          case measure => simp [intOf]; omega
                        · rcases b5 with _ | _
                          · exact absurd hne (by decide)
                          · clear hne
                            go_wp2_with fail
                            refine HBt.out.mono ?_
                            rintro e w9 ⟨he, rfl⟩
                            obtain rfl := he.out
                            clear he HBt
                            go_wp2
                            refine ⟨?_, ?measure⟩
                            (repeat apply Exists.intro)
                            refine ⟨?rel, rfl⟩
                            case rel => exact ⟨c + 1, by omega, by go_num, HO⟩
                            case measure => simp [intOf]; omega
              · obtain ⟨c0, hc0, hc0l⟩ := lk_down HG.out HxM.out HyN.out hl
                have hc0n : c0 < n := by have := HL.out; omega
                have HC0 := Lib.hid hc0l
                have HS0 : Hid (Own w2 wr [eInts u23 l] [] ∧ ∀ e : Nat, e < 0 → lk P D free (Df.step P x e) (Df.step D y e) ≠ (j : Int)) := ⟨ho, fun e he => absurd he (Nat.not_lt_zero _)⟩
                clear HS ho hw hl hc0 hc0l HO
                go_wp2
                generalize wr = wz at *
                go_loopw [24] (fun cv wr => ∃ (c : Nat), c ≤ c0 ∧ cv = .int .i64 c ∧ Hid (Own w2 wr [eInts u23 l] [] ∧ ∀ e : Nat, e < c → lk P D free (Df.step P x e) (Df.step D y e) ≠ (j : Int))) (fun cv _ => c0 - (intOf cv).toNat)
                case atStart => exact ⟨0, by omega, rfl, HS0⟩
                case round =>
                  clear HS0
                  obtain ⟨c, hc, rfl, HS⟩ := hrel
                  as_aux_lemma =>
                    obtain ⟨ho, hall⟩ := HS.out
                    have hb2 := ho.below
                    have HcL : Hid ((c : Int) < P.L) := by rw [HL.out]; unfold Hid; omega
                    obtain ⟨ad, ar, mr, cr, eA, hadb, hcell, hjm, harb, hac⟩ := (HDA2.out.on hb2).step_at HG.out.ga HxM.out (i := c) HcL.out
                    obtain ⟨ad', ar', mr', cr', eC, hadb', hcell', hjm', harb', hac'⟩ := (HDB2.out.on hb2).step_at HG.out.gb HyN.out (i := c) (by rw [HLb.out]; omega)
                    subst eA eC
                    have hu := HG.out.ga.step_lt HxM.out HcL.out
                    have hv := HG.out.gb.step_lt HyN.out (a := c) (by rw [HLb.out]; omega)
                    have HuM := Lib.hid hu
                    have HvN := Lib.hid hv
                    rw [HM.out] at hu
                    rw [HN.out] at hv
                    obtain ⟨adt', rU, eT, hatu, hcu⟩ := (HTab.out.on hb2).at_ HRows.out (x := Df.step P x c) (y := Df.step D y c) (by rw [HLen.out]; exact hu) hv
                    cases eT
                    have hca := (HX2.out.on hb2).c2
                    have hcb := (HY2.out.on hb2).c2
                    have e1 : (x : Int) < (k : Int) := by omega
                    have e2 : (y : Int) < (N : Int) := by omega
                    have e3 : (c : Int) < (mr : Int) := by omega
                    have e4 : (c : Int) < (mr' : Int) := by omega
                    have e5 : (Df.step P x c : Int) < (k : Int) := by omega
                    have e6 : (Df.step D y c : Int) < (N : Int) := by omega
                    have hw9 : IntKind.i64.wrap (((j + 1 : Nat) : Int) + 1 - 1) = (j : Int) + 1 := by rw [show (((j + 1 : Nat) : Int) + 1 - 1) = (j : Int) + 1 by omega]; exact IntWalk.i64_in _ ⟨by omega, by omega⟩
                    have hO2 := ho.drewN 1
                    by_cases hit : lk P D free (Df.step P x c) (Df.step D y c) = (j : Int)
                    · have hit2 := kvAll_eq.2 hit
                      have HW2 : Hid (pickB P D free (j + 1) x y = (c : Int) :: pickB P D free j (Df.step P x c) (Df.step D y c)) := pickB_next HG.out HxM.out HyN.out HLv.out HcL.out hit fun e he => hall e he
                      have hbl : l.length < 17592186044416 := by omega
                      have HO9 : Hid (∀ g cap w', Own w2 w' (eInts (.slice (some ⟨g, 0, none⟩) (l.length + 1) cap) (l ++ [(c : Int)]) :: []) [] → WK w2 w' P D free (Df.step P x c) (Df.step D y c) j (.slice (some ⟨g, 0, none⟩) (l.length + 1) cap) W) := fun g cap w' ho => ⟨l ++ [(c : Int)], ho, by
                        rw [List.append_assoc, ← HWw.out, HW2.out]; rfl, hit, HuM.out, HvN.out, by rw [List.length_append]; simp; omega⟩
                      have HOd := Lib.hid hO2
                      have HStA := Lib.hid (fun W (h : Below w2.heap.size w2 W) => (HDA2.out.on h).step_at HG.out.ga HxM.out (i := c) HcL.out)
                      have HStB := Lib.hid (fun W (h : Below w2.heap.size w2 W) => (HDB2.out.on h).step_at HG.out.gb HyN.out (i := c) (by rw [HLb.out]; omega))
                      rw [hit2] at hcu
                      clear ho hall HS hadb hadb' harb harb' HC0 hO2 hb2 hit hit2
                      generalize Df.step P x c = u at *
                      generalize Df.step D y c = v at *
                      go_wp2_with fail
                      go_region
                      clear hcell hcell' hac hac' hw9 hatu hcu hca hcb
                      go_wp2_with (at_builtin; refine own_int (by rfl) _ _ (by rfl) (by rfl) HOd.out (by rfl) hbl ?_)
                      intro g8 cap8 w8 ho8
                      have HE9 := Lib.hid (HO9.out _ _ _ ho8)
                      have hb8 := ho8.below
                      obtain ⟨ad2, ar2, mr2, cr2, eA, hadb2, hcell2, hjm2, harb2, hac2⟩ := HStA.out w8 hb8
                      obtain ⟨ad3, ar3, mr3, cr3, eC, hadb3, hcell3, hjm3, harb3, hac3⟩ := HStB.out w8 hb8
                      cases eA
                      cases eC
                      have hca2 := (HX2.out.on hb8).c2
                      have hcb2 := (HY2.out.on hb8).c2
                      have e7 : (c : Int) < (mr2 : Int) := by omega
                      have e8 : (c : Int) < (mr3 : Int) := by omega
                      clear ho8 hb8 HOd HO9 HStA HStB hadb2 hadb3 harb2 harb3
                      go_wp2
                      clear hcell2 hcell3 hac2 hac3 hca2 hcb2
                      go_roundw
                      case rel => exact ⟨u, v, j, by go_num, by go_num, by go_num, by omega, HE9⟩
                      case measure => simp [intOf]; omega
                    · have hne : c < c0 := by
                        rcases Nat.lt_or_eq_of_le hc with h | h
                        · exact h
                        · exact absurd (by rw [h]; exact HC0.out) hit
                      have hit2 : kvAll P D free (Df.step P x c) (Df.step D y c) ≠ (j : Int) + 1 := fun q => hit (kvAll_eq.1 q)
                      have HE2 : Hid (Own w2 (wr.drewN 1) [eInts u23 l] [] ∧ ∀ e : Nat, e < c + 1 → lk P D free (Df.step P x e) (Df.step D y e) ≠ (j : Int)) := ⟨hO2, fun e he => by
                        rcases Nat.lt_or_eq_of_le (Nat.le_of_lt_succ he) with h | h
                        · exact hall e h
                        · rw [h]; exact hit⟩
                      clear ho hb2 hall HS hadb hadb' harb harb' HC0 hO2 hit
                      generalize kvAll P D free (Df.step P x c) (Df.step D y c) = X at *
                      generalize Df.step P x c = u at *
                      generalize Df.step D y c = v at *
                      go_wp2_with fail
                      go_region
                      clear hcell hcell' hac hac' hw9 hatu hcu hca hcb
                      go_wp2
                      go_roundw
                      case rel => exact ⟨c + 1, by omega, by go_num, HE2⟩
                      case measure => simp [intOf]; omega
        · have hx2 : x ≤ 1600 := by
            obtain ⟨rs, _, _, _, h4, _⟩ := HS.out
            rcases h4 rfl with rfl | ⟨p, q, hp, hq, e⟩
            · omega
            · have h7 := lk_lt HG.out hp hq e
              have h8 : P.next.length * D.next.length ≤ 40 * 40 := Nat.mul_le_mul HG.out.ga.n40 HG.out.gb.n40
              omega
          have HT0 := Lib.hid (k1_start HS.out)
          clear HS
          go_wp2
          go_loopw [15, 17] (fun gv i wr => ∃ (s : Nat) (gb : Bool), s ≤ k ∧ gv = .bool gb ∧ i = .int .i64 s ∧ Hid (K2 wb wr P D free N x s 0 gb (.slice At k ct))) (fun _ i _ => k - (intOf i).toNat)
          case atStart => exact ⟨0, false, by omega, rfl, rfl, HT0⟩
          case round =>
            clear HT0
            obtain ⟨s, gb, hs, rfl, rfl, HS⟩ := hrel
            by_cases hsk : s < k
            · go_wp2
              go_loopw [15, 18] (fun gv i wr => ∃ (t : Nat) (gb : Bool), t ≤ N ∧ gv = .bool gb ∧ i = .int .i64 t ∧ Hid (K2 wb wr P D free N x s t gb (.slice At k ct))) (fun _ i _ => N - (intOf i).toNat)
              case atStart => exact ⟨0, gb, by omega, rfl, rfl, HS⟩
              case round =>
                clear HS
                obtain ⟨t, gb, ht, rfl, rfl, HS⟩ := hrel
                by_cases htN : t < N
                · have HC0 := Lib.hid (kc_start HS.out)
                  have HKs : Hid (s < P.next.length) := by unfold Hid; rw [HM.out]; exact hsk
                  have HKt : Hid (t < D.next.length) := by unfold Hid; rw [HN.out]; exact htN
                  clear HS
                  go_wp2
                  go_loopw [15, 19] (fun gv i wr => ∃ (c : Nat) (gb : Bool), c ≤ n ∧ gv = .bool gb ∧ i = .int .i64 c ∧ Hid (KC wb wr P D free N x s t c gb (.slice At k ct))) (fun _ i _ => n - (intOf i).toNat)
                  case atStart => exact ⟨0, gb, by omega, rfl, rfl, HC0⟩
                  case round =>
                    clear HC0
                    obtain ⟨c, gb, hc, rfl, rfl, HS⟩ := hrel
                    have HBw : Hid (Below wb.heap.size wb wr) := by rcases HS.out with ⟨⟨rs, h1, _⟩, _⟩ | ⟨⟨rs, h1, _⟩, _⟩ <;> exact h1.1.below
                    have hc0 := (HX.out.on HBw.out).c0
                    have hxc := XC.out _ HBw.out s hsk
                    have hyc := YC.out _ HBw.out t htN
                    have e1 : (s : Int) < (k : Int) := by omega
                    have e2 : (t : Int) < (N : Int) := by omega
                    by_cases hcn : c < n
                    · by_cases hlv : live2 P D s t = true
                      · rcases HS.out with ⟨⟨rs, hown, hlen, hrows, hag⟩, hneg, hall⟩ | ⟨⟨rs, hown, hlen, hrows, hag⟩, hpos⟩
                        · as_aux_lemma =>
                            have hT := ownI_tab (N := N) (rs := rs) (A := At) (cap := ct) (by rw [hlen, HM.out]; exact hown)
                            have HcL : Hid ((c : Int) < P.L) := by rw [HL.out]; unfold Hid; omega
                            obtain ⟨ad, ar, mr, cr, eA, hadb, hcell, hjm, harb, hac⟩ := (HDA.out.on HBw.out).step_at HG.out.ga HKs.out (i := c) HcL.out
                            obtain ⟨ad', ar', mr', cr', eC, hadb', hcell', hjm', harb', hac'⟩ := (HDB.out.on HBw.out).step_at HG.out.gb HKt.out (i := c) (by rw [HLb.out]; omega)
                            subst eA eC
                            have hu := HG.out.ga.step_lt HKs.out HcL.out
                            have hv := HG.out.gb.step_lt HKt.out (a := c) (by rw [HLb.out]; omega)
                            rw [HM.out] at hu
                            rw [HN.out] at hv
                            obtain ⟨rS, hrS⟩ : ∃ r, rs[s]? = some r := ⟨_, List.getElem?_eq_getElem (by rw [hlen, HM.out]; exact hsk)⟩
                            obtain ⟨rU, hrU⟩ : ∃ r, rs[Df.step P s c]? = some r := ⟨_, List.getElem?_eq_getElem (by rw [hlen, HM.out]; exact hu)⟩
                            obtain ⟨⟨adt, e0, hatb, hats⟩, hrSb, hrSc⟩ := hT s rS hrS
                            subst e0
                            obtain ⟨⟨adt', e0, hatb', hatu⟩, hrUb, hrUc⟩ := hT _ rU hrU
                            cases e0
                            have c1 := hrSc t _ (hrows.get hrS htN)
                            have c2 := hrUc (Df.step D t c) _ (hrows.get hrU hv)
                            have c4 := (ownI_frozen hown hrS (hrows.get hrS htN)).2
                            have hca := (HX.out.on HBw.out).c2
                            have hcb := (HY.out.on HBw.out).c2
                            have hv1 : vtK P D free (x + 1) s t s t = kv P D free (x + 1) false s t := by unfold vtK; rw [turn_at]
                            rw [hv1] at c1
                            have HHit : Hid (vtK P D free (x + 1) s t (Df.step P s c) (Df.step D t c) = (x : Int) + 1 ↔ lk P D free (Df.step P s c) (Df.step D t c) = (x : Int)) := kv_hit
                            have HSet : Hid (lk P D free (Df.step P s c) (Df.step D t c) = (x : Int) → KC wb ((wr.drewN 1).setCell ⟨rS.1, t, none⟩ (.int .i64 ((x : Int) + 2))) P D free N x s t (c + 1) true (.slice (some adt) k ct)) := fun e =>
                              .inr ⟨by
                                have h9 := k2_set HG.out HKs.out HKt.out (ownI_on hown (below_drewN (Below.refl _ _) 1)) hlen hrows hrS hneg HcL.out e
                                rw [show (((x + 1 : Nat) : Int) + 1) = (x : Int) + 2 by omega] at h9
                                exact h9, by rw [(kv_set HG.out HKs.out HKt.out hneg HcL.out e).2]; omega⟩
                            have HKeep : Hid (lk P D free (Df.step P s c) (Df.step D t c) ≠ (x : Int) → KC wb (wr.drewN 1) P D free N x s t (c + 1) gb (.slice (some adt) k ct)) := fun e =>
                              .inl ⟨⟨rs, ownI_on hown (below_drewN (Below.refl _ _) 1), hlen, hrows, hag⟩, hneg, fun y hy => by
                                rcases Nat.lt_or_eq_of_le (Nat.le_of_lt_succ hy) with h | rfl
                                · exact hall y h
                                · exact e⟩
                            unfold irV at hats hatu
                            unfold live2 at hlv
                            rw [Bool.and_eq_true] at hlv
                            rw [hlv.1] at hxc
                            rw [hlv.2] at hyc
                            have e3 : (c : Int) < (mr : Int) := by omega
                            have e4 : (c : Int) < (mr' : Int) := by omega
                            have e5 : (Df.step P s c : Int) < (k : Int) := by omega
                            have e6 : (Df.step D t c : Int) < (N : Int) := by omega
                            have hw9 : IntKind.i64.wrap ((x : Int) + 2 - 1) = (x : Int) + 1 := by rw [show ((x : Int) + 2 - 1) = (x : Int) + 1 by omega]; exact IntWalk.i64_in _ ⟨by omega, by omega⟩
                            clear hown hlen hrows hag hT hrSc hrUc hrS hrU HS hall hv1 hadb hadb' harb harb' hatb hatb' hrSb hrUb HcL hlv
                            generalize hX : vtK P D free (x + 1) s t (Df.step P s c) (Df.step D t c) = X at *
                            clear hX
                            generalize lk P D free (Df.step P s c) (Df.step D t c) = Y at *
                            generalize Df.step P s c = u at *
                            generalize Df.step D t c = v at *
                            generalize kv P D free (x + 1) false s t = V at *
                            by_cases hit : X = (x : Int) + 1
                            · have HE := Lib.hid (HSet.out (HHit.out.1 hit))
                              clear HSet HKeep HHit
                              subst hit
                              go_wp2_with fail
                              go_region
                              clear hcell hcell' hac hac' hw9 hatu c2 hca hcb
                              go_wp2
                              go_roundw
                              case rel => exact ⟨c + 1, true, by omega, rfl, by go_num, HE⟩
                              case measure => simp [intOf]; omega
                            · have HE := Lib.hid (HKeep.out (fun e => hit (HHit.out.2 e)))
                              clear HSet HKeep HHit
                              go_wp2_with fail
                              go_region
                              clear hcell hcell' hac hac' hw9 hatu c2 hca hcb
                              go_wp2
                              go_roundw
                              case rel => exact ⟨c + 1, gb, by omega, rfl, by go_num, HE⟩
                              case measure => simp [intOf]; omega
                        · as_aux_lemma =>
                            have hT := ownI_tab (N := N) (rs := rs) (A := At) (cap := ct) (by rw [hlen, HM.out]; exact hown)
                            obtain ⟨rS, hrS⟩ : ∃ r, rs[s]? = some r := ⟨_, List.getElem?_eq_getElem (by rw [hlen, HM.out]; exact hsk)⟩
                            obtain ⟨⟨adt, e0, hatb, hats⟩, hrSb, hrSc⟩ := hT s rS hrS
                            subst e0
                            have c1 := hrSc t _ (hrows.get hrS htN)
                            have hv1 : vtK P D free (x + 1) s (t + 1) s t = kv P D free (x + 1) true s t := by unfold vtK; rw [turn_done]
                            rw [hv1] at c1
                            have HE : Hid (K2 wb wr P D free N x s (t + 1) gb (.slice (some adt) k ct)) := ⟨rs, hown, hlen, hrows, hag⟩
                            unfold irV at hats
                            unfold live2 at hlv
                            rw [Bool.and_eq_true] at hlv
                            rw [hlv.1] at hxc
                            rw [hlv.2] at hyc
                            clear hown hlen hrows hag hT hrSc hrS HS hv1 hatb hrSb hlv
                            generalize kv P D free (x + 1) true s t = V at *
                            go_wp2
                            go_roundw
                            case rel => exact ⟨t + 1, gb, by omega, rfl, by go_num, HE⟩
                            case measure => simp [intOf]; omega
                      · have HE := Lib.hid (kc_dead HG.out HKs.out HKt.out (by simpa using hlv) HS.out)
                        unfold live2 at hlv
                        clear HS
                        rcases h8 : isAlive P s with _ | _
                        · rw [h8] at hxc
                          clear hlv h8
                          go_wp2
                          go_roundw
                          case rel => exact ⟨t + 1, gb, by omega, rfl, by go_num, HE⟩
                          case measure => simp [intOf]; omega
                        · rcases h9 : isAlive D t with _ | _
                          · rw [h8] at hxc
                            rw [h9] at hyc
                            clear hlv h8 h9
                            go_wp2
                            go_roundw
                            case rel => exact ⟨t + 1, gb, by omega, rfl, by go_num, HE⟩
                            case measure => simp [intOf]; omega
                          · rw [h8, h9] at hlv
                            exact absurd rfl hlv
                    · obtain rfl : c = n := by omega
                      have HE := Lib.hid (kc_end HG.out HKs.out HKt.out HL.out HS.out)
                      clear HS
                      go_wp2
                      go_roundw
                      case rel => exact ⟨t + 1, gb, by omega, rfl, by go_num, HE⟩
                      case measure => simp [intOf]; omega
                · obtain rfl : t = N := by omega
                  have HE := Lib.hid (k2_row HN.out HS.out)
                  clear HS
                  go_wp2
                  go_roundw
                  case rel => exact ⟨s + 1, gb, by omega, rfl, by go_num, HE⟩
                  case measure => simp [intOf]; omega
            · obtain rfl : s = k := by omega
              have HE := Lib.hid (k2_end HM.out HS.out)
              clear HS
              go_wp2
              go_roundw
              case rel => exact ⟨x + 1, gb, by omega, rfl, by go_num, HE⟩
              case measure => simp [intOf]; omega
end Go.Proofs.YtbciefeipiphiaaDoor.Su
