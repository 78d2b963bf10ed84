/- The walk of the document's answer that tells states apart: stilewardref1's Apart. -/
import Derived.Test.YtjecphfjkpinlaaDoorIntT
import Derived.Test.YtjecphfjkpinlaaDoorRefPair
namespace Go.Proofs.YtjecphfjkpinlaaDoor.Sm
open Go.RowKit Go.IntWalk Go.Proofs.YtjecphfjkpinlaaDoor.Wd Go.Proofs.YtjecphfjkpinlaaDoor.Wo Go.Proofs.YtjecphfjkpinlaaDoor.Df Go.Proofs.YtjecphfjkpinlaaDoor.Rc

/-- The first rows under way. -/
def P1 (w1 wr : World) (a b : Aut) (N k : Nat) (tv : Value) : Prop := ∃ rs, OwnI w1 wr N tv rs ∧ rs.length = k ∧ RowsI N rs (val a b 1 false)
set_option linter.unusedSimpArgs false in
set_option maxRecDepth 100000 in
set_option maxHeartbeats 4000000 in
theorem rapart_any (v z : Value) (a b : Aut) (w : World) (ha : DfaAt w w.heap.size v a) (hb : DfaAt w w.heap.size z b) (hg : Good2 a b) :
    Calls Tryd.prog 23 #[v, z] w fun e w' => Hid (∃ A cap rs, e = .returned (.slice A a.next.length cap) ∧ rs.length = a.next.length ∧ RowsI b.next.length rs (lev a b) ∧ TabI w' A b.next.length rs ∧ Below w.heap.size w w') := by
  obtain ⟨L, s, A, c, F, cf, rfl, ha⟩ := ha
  obtain ⟨L', t, C, d, G, cg, rfl, hb⟩ := hb
  obtain ⟨wx, hwx, hBx, hX, hd1⟩ := box_dfa w ha
  obtain ⟨w1, hw1, hB1, hY, hd2⟩ := box_dfa wx (hb.on hBx)
  have hs1 : wx.heap.size = w.heap.size + 1 := by rw [hwx]; simp
  rw [hs1] at hY
  have HB := Lib.hid (hBx.trans (hB1.mono hBx.size))
  have HX := Lib.hid (hX.on hB1)
  have HY := Lib.hid hY
  have HDA := Lib.hid (hd1.on hB1)
  have HDB := Lib.hid hd2
  have HW : Hid (w1 = (w.alloc (.cells #[.int .i64 L, .int .i64 s, .slice A a.next.length c, .slice F a.fin.length cf] 25)).alloc (.cells #[.int .i64 L', .int .i64 t, .slice C b.next.length d, .slice G b.fin.length cg] 25)) := by
    rw [← hwx]; exact hw1
  have HG := Lib.hid hg
  obtain ⟨n, hn⟩ := Int.eq_ofNat_of_zero_le (show 0 ≤ L by have := hg.ga.l1; have := ha.eL; omega)
  subst hn
  have HL : Hid (a.L = (n : Int)) := ha.eL
  have HLb : Hid (b.L = (n : Int)) := by have := hg.eL; have := ha.eL; unfold Hid; omega
  have hn6 : n ≤ 6 := by have := hg.ga.l6; have := ha.eL; omega
  have hM40 := hg.ga.n40
  have hN40 := hg.gb.n40
  have hfa := hg.ga.fin
  have hfb := hg.gb.fin
  clear hwx hw1 hBx hB1 hX hY hd1 hd2 hs1 ha hb hg
  generalize a.fin.length = fa at *
  generalize b.fin.length = fb at *
  generalize hM : a.next.length = M at *
  generalize hN : b.next.length = N at *
  have HM := Lib.hid hM
  have HN := Lib.hid hN
  have hfa1 : fa ≤ M := by omega
  have hfa2 : M ≤ fa := by omega
  have hfb1 : fb ≤ N := by omega
  have hfb2 : N ≤ fb := by omega
  clear hM hN hfa hfb
  have HS : Hid (P1 w1 w1 a b N 0 (.slice none 0 0)) := ⟨[], ⟨(own_start w1).nil 36 1, fun r hr => by simp at hr⟩, rfl, fun j r hj => by simp at hj⟩
  go_enter Tryd.func23, Tryd.ntmps23
  go_wp2
  rw [← HW.out]
  clear HW
  go_loopw [5, 6] (fun tv i wr => ∃ (k : Nat), k ≤ M ∧ i = .int .i64 k ∧ Hid (P1 w1 wr a b N k tv)) (fun _ i _ => M - (intOf i).toNat)
  case atStart => exact ⟨0, by omega, rfl, HS⟩
  case round =>
    clear HS
    obtain ⟨k, hk, rfl, HS⟩ := hrel
    obtain ⟨rs, hown, hlen, hrows⟩ := HS.out
    have HLen := Lib.hid hlen
    have HRows := Lib.hid hrows
    have HRL := Lib.hid hown.2
    have HO := Lib.hid hown
    have hlen1 : (rs.map (irV N)).length < 1099511627776 := by rw [List.length_map]; omega
    clear HS hown hlen hrows
    have hc2 := (HX.out.on HO.out.1.below).c2
    by_cases hkM : k < M
    · as_aux_lemma =>
        have hd2 := (HY.out.on HO.out.1.below).c2
        go_wp2_with (at_make; refine mk_ints rfl _ _ rfl N rfl rfl (by omega) ?_)
        intro w4 hm4
        have hj4 := HO.out.1.join (Own.of_nums hm4)
        have HR0 : Hid (Own w1 w4 (eInts (rowV wr.heap.size N) (iF N (v0 a b k 0)) :: eRows u5 (rs.map (irV N)) :: eEachI N rs) []) := by
          rw [← v0_start]; exact hj4
        clear hm4 hj4 HO hc2 hd2
        generalize wr.heap.size = gw at *
        go_wp2
        have HKl : Hid (k < a.next.length) := by unfold Hid; rw [HM.out]; exact hkM
        go_loopw [8] (fun i wi => ∃ (q : Nat), q ≤ N ∧ i = .int .i64 q ∧ Hid (Own w1 wi (eInts (rowV gw N) (iF N (v0 a b k q)) :: eRows u5 (rs.map (irV N)) :: eEachI N rs) [])) (fun i _ => N - (intOf i).toNat)
        case atStart => exact ⟨0, by omega, rfl, HR0⟩
        case round =>
          clear HR0
          obtain ⟨q, hq, rfl, HR⟩ := hrel
          by_cases hqN : q < N
          · have hqN' : Hid (q < b.next.length) := by unfold Hid; rw [HN.out]; exact hqN
            obtain ⟨hk1, hk2⟩ := own_ints_cell (g := gw) (n := N) (cap := N) (l := iF N (v0 a b k q)) HR.out (List.mem_append_left _ List.mem_cons_self) (iF_length _ _) (iF_get _ hqN)
            have HR1 := Lib.hid (own_ints_set HR.out (iF_length _ _) q (-1))
            obtain ⟨hk3, hk4⟩ := own_ints_cell (g := gw) (n := N) (cap := N) (l := (iF N (v0 a b k q)).set q (-1)) HR1.out (List.mem_append_left _ List.mem_cons_self) (by rw [List.length_set]; exact iF_length _ _) (x := -1) (j := q) (by rw [List.getElem?_set, if_pos rfl, if_pos (by rw [iF_length]; exact hqN)])
            have HR2 := Lib.hid (own_ints_set HR1.out (by rw [List.length_set]; exact iF_length _ _) q 0)
            have HE1 : Hid (finA a k = finA b q → Own w1 (wr.setCell ⟨gw, q, none⟩ (.int .i64 (-1))) (eInts (rowV gw N) (iF N (v0 a b k (q + 1))) :: eRows u5 (rs.map (irV N)) :: eEachI N rs) []) := fun e => by
              rw [← v0_one HG.out HKl.out hqN'.out e]; exact HR1.out
            have HE2 : Hid (finA a k ≠ finA b q → Own w1 ((wr.setCell ⟨gw, q, none⟩ (.int .i64 (-1))).setCell ⟨gw, q, none⟩ (.int .i64 0)) (eInts (rowV gw N) (iF N (v0 a b k (q + 1))) :: eRows u5 (rs.map (irV N)) :: eEachI N rs) []) := fun e => by
              rw [← v0_two HG.out HKl.out hqN'.out e]; exact HR2.out
            obtain ⟨adf, eF, hfa', hcf, _⟩ := (HDA.out.on HR1.out.below).fins.at_ (HG.out.ga.fin_at HKl.out)
            obtain ⟨adg, eG, hfb', hcg, _⟩ := (HDB.out.on HR1.out.below).fins.at_ (HG.out.gb.fin_at hqN'.out)
            subst eF eG
            have hc3 := (HX.out.on HR1.out.below).c3
            have hd3 := (HY.out.on HR1.out.below).c3
            have e1 : (k : Int) < (fa : Int) := by omega
            have e2 : (q : Int) < (fb : Int) := by omega
            have e3 : (q : Int) < (N : Int) := by omega
            clear HR HR1 HR2 hqN' hfa' hfb'
            generalize v0 a b k q q = old at *
            go_wp2_with fail
            generalize hw5 : wr.setCell ⟨gw, q, none⟩ (.int .i64 (-1)) = w5 at *
            clear hw5 hk1 hk2
            go_region
            clear hcf hcg hc3 hd3
            rcases h1 : finA a k with _ | _ <;> rcases h2 : finA b q with _ | _ <;> rw [h1, h2] at HE1 HE2
            · have HE := Lib.hid ((HE1.out rfl).drewN 1)
              clear HE1 HE2 h1 h2
              go_wp2
              go_roundw
              case rel => exact ⟨q + 1, by omega, by go_num, HE⟩
              case measure => simp [intOf]; omega
            · have HE := Lib.hid ((HE2.out (by decide)).drewN 1)
              clear HE1 HE2 h1 h2
              go_wp2
              go_roundw
              case rel => exact ⟨q + 1, by omega, by go_num, HE⟩
              case measure => simp [intOf]; omega
            · have HE := Lib.hid ((HE2.out (by decide)).drewN 1)
              clear HE1 HE2 h1 h2
              go_wp2
              go_roundw
              case rel => exact ⟨q + 1, by omega, by go_num, HE⟩
              case measure => simp [intOf]; omega
            · have HE := Lib.hid ((HE1.out rfl).drewN 1)
              clear HE1 HE2 h1 h2
              go_wp2
              go_roundw
              case rel => exact ⟨q + 1, by omega, by go_num, HE⟩
              case measure => simp [intOf]; omega
          · obtain rfl : q = N := by omega
            have HO2 : Hid (Own w1 wr (eRows u5 (rs.map (irV q)) :: eInts (rowV gw q) (iF q (val a b 1 false k)) :: eEachI q rs) []) := by rw [← v0_full]; exact HR.out.two
            clear HR
            go_wp2_with (at_builtin; refine own_row (by rfl) _ _ (by rfl) (by rfl) HO2.out (by rfl) (by rfl) hlen1 ?_)
            intro g8 cap8 w8 ho8
            have HE : Hid (P1 w1 w8 a b q (k + 1) (.slice (some ⟨g8, 0, none⟩) (rs.length + 1) cap8)) :=
              ⟨rs ++ [(gw, iF q (val a b 1 false k))], ownI_snoc (iF_length _ _) HRL.out ho8, by rw [List.length_append, HLen.out]; rfl, rowsI_snoc HRows.out gw HLen.out⟩
            clear ho8 HO2
            go_wp2
            go_roundw
            case rel => exact ⟨k + 1, by omega, by go_num, HE⟩
            case measure => simp [intOf]; omega
    · obtain rfl : k = M := by omega
      obtain ⟨At, ct, htv⟩ := ownI_form HO.out
      rw [HLen.out] at htv
      subst htv
      have HS2 : Hid (T1 w1 wr a b N 0 true (.slice At k ct)) := ⟨rs, HO.out, by rw [HLen.out, HM.out], HRows.out, fun _ => .inl rfl, fun e => absurd e (by decide)⟩
      clear HO HRows HRL HLen hlen1
      go_wp2
      clear hc2
      generalize wr = wz at *
      go_loopw [9, 10] (fun gv i wr => ∃ (x : Nat) (gb : Bool), x ≤ 120 ∧ gv = .bool gb ∧ i = .int .i64 ((x : Int) + 1) ∧ Hid (T1 w1 wr a b N x gb (.slice At k ct))) (fun _ i _ => 200 - (intOf i).toNat)
      case atStart => exact ⟨0, true, by omega, rfl, rfl, HS2⟩
      case round =>
        clear HS2
        obtain ⟨x, gb, hx, rfl, rfl, HS⟩ := hrel
        rcases gb with _ | _
        · obtain ⟨rs, h1, h2, h3, _, h5⟩ := HS.out
          have HT := Lib.hid (ownI_tab (N := N) (rs := rs) (A := At) (cap := ct) (by rw [h2, HM.out]; exact h1))
          have HBe := Lib.hid (HB.out.trans (h1.1.below.mono HB.out.size))
          have HLen := Lib.hid h2
          rw [HM.out] at HLen
          have HR : Hid (RowsI N rs (lev a b)) := rowsI_congr h3 fun y z hy hz => val_end HG.out (fun p q hp hq e => by
            have := lev_gap HG.out (h5 rfl) (x + 1) (by omega) p q hp hq
            exact this e) (by rw [← h2]; exact hy) (by rw [HN.out]; exact hz) false
          clear h1 h2 h3 h5 HS
          go_wp2
          go_ret
          exact ⟨At, ct, rs, rfl, HLen.out, HR.out, HT.out, HBe.out⟩
        · have hx2 : x ≤ 100 := by
            obtain ⟨rs, _, _, _, h4, _⟩ := HS.out
            rcases h4 rfl with rfl | ⟨p, q, hp, hq, e⟩
            · omega
            · have := lev_lt HG.out hp hq e
              rw [HM.out, HN.out] at this
              omega
          have HT0 := Lib.hid (t1_start HS.out)
          clear HS
          go_wp2
          go_loopw [9, 11] (fun gv i wr => ∃ (s : Nat) (gb : Bool), s ≤ k ∧ gv = .bool gb ∧ i = .int .i64 s ∧ Hid (T2 w1 wr a b N x s 0 gb (.slice At k ct))) (fun _ i _ => k - (intOf i).toNat)
          case atStart => exact ⟨0, false, by omega, rfl, rfl, HT0⟩
          case round =>
            clear HT0
            obtain ⟨s, gb, hs, rfl, rfl, HS⟩ := hrel
            have HBw : Hid (Below w1.heap.size w1 wr) := by obtain ⟨rs, h1, _⟩ := HS.out; exact h1.1.below
            have hc2 := (HX.out.on HBw.out).c2
            by_cases hsk : s < k
            · go_wp2
              clear hc2 HBw
              go_loopw [9, 12] (fun gv i wr => ∃ (t : Nat) (gb : Bool), t ≤ N ∧ gv = .bool gb ∧ i = .int .i64 t ∧ Hid (T2 w1 wr a b N x s t gb (.slice At k ct))) (fun _ i _ => N - (intOf i).toNat)
              case atStart => exact ⟨0, gb, by omega, rfl, rfl, HS⟩
              case round =>
                clear HS
                obtain ⟨t, gb, ht, rfl, rfl, HS⟩ := hrel
                have HBw : Hid (Below w1.heap.size w1 wr) := by obtain ⟨rs, h1, _⟩ := HS.out; exact h1.1.below
                have hd2 := (HY.out.on HBw.out).c2
                by_cases htN : t < N
                · have HC0 := Lib.hid (c2_start HS.out)
                  have HKs : Hid (s < a.next.length) := by unfold Hid; rw [HM.out]; exact hsk
                  have HKt : Hid (t < b.next.length) := by unfold Hid; rw [HN.out]; exact htN
                  go_wp2
                  clear hd2 HBw HS
                  go_loopw [9, 13] (fun gv i wr => ∃ (c : Nat) (gb : Bool), c ≤ n ∧ gv = .bool gb ∧ i = .int .i64 c ∧ Hid (C2 w1 wr a b N x s t c gb (.slice At k ct))) (fun _ i _ => n - (intOf i).toNat)
                  case atStart => exact ⟨0, gb, by omega, rfl, rfl, HC0⟩
                  case round =>
                    clear HC0
                    obtain ⟨c, gb, hc, rfl, rfl, HS⟩ := hrel
                    have HBw : Hid (Below w1.heap.size w1 wr) := by rcases HS.out with ⟨⟨rs, h1, _⟩, _⟩ | ⟨⟨rs, h1, _⟩, _⟩ <;> exact h1.1.below
                    have hc0 := (HX.out.on HBw.out).c0
                    by_cases hcn : c < n
                    · rcases HS.out with ⟨⟨rs, hown, hlen, hrows, hag⟩, hneg, hall⟩ | ⟨⟨rs, hown, hlen, hrows, hag⟩, hpos⟩
                      · as_aux_lemma =>
                          have hT := ownI_tab (N := N) (rs := rs) (A := At) (cap := ct) (by rw [hlen, HM.out]; exact hown)
                          have HcL : Hid ((c : Int) < a.L) := by rw [HL.out]; unfold Hid; omega
                          obtain ⟨ad, ar, mr, cr, eA, hadb, hcell, hjm, harb, hac⟩ := (HDA.out.on HBw.out).step_at HG.out.ga HKs.out (i := c) HcL.out
                          obtain ⟨ad', ar', mr', cr', eC, hadb', hcell', hjm', harb', hac'⟩ := (HDB.out.on HBw.out).step_at HG.out.gb HKt.out (i := c) (by rw [HLb.out]; omega)
                          subst eA eC
                          have hu := HG.out.ga.step_lt HKs.out HcL.out
                          have hv := HG.out.gb.step_lt HKt.out (a := c) (by rw [HLb.out]; omega)
                          rw [HM.out] at hu
                          rw [HN.out] at hv
                          obtain ⟨rS, hrS⟩ : ∃ r, rs[s]? = some r := ⟨_, List.getElem?_eq_getElem (by rw [hlen, HM.out]; exact hsk)⟩
                          obtain ⟨rU, hrU⟩ : ∃ r, rs[Df.step a s c]? = some r := ⟨_, List.getElem?_eq_getElem (by rw [hlen, HM.out]; exact hu)⟩
                          obtain ⟨⟨adt, e0, hatb, hats⟩, hrSb, hrSc⟩ := hT s rS hrS
                          subst e0
                          obtain ⟨⟨adt', e0, hatb', hatu⟩, hrUb, hrUc⟩ := hT _ rU hrU
                          cases e0
                          have c1 := hrSc t _ (hrows.get hrS htN)
                          have c2 := hrUc (Df.step b t c) _ (hrows.get hrU hv)
                          have c4 := (ownI_frozen hown hrS (hrows.get hrS htN)).2
                          have hca := (HX.out.on HBw.out).c2
                          have hcb := (HY.out.on HBw.out).c2
                          have hv1 : vt a b (x + 1) s t s t = val a b (x + 1) false s t := by unfold vt; rw [turn_at]
                          rw [hv1] at c1
                          have HHit : Hid (vt a b (x + 1) s t (Df.step a s c) (Df.step b t c) = (x : Int) ↔ lev a b (Df.step a s c) (Df.step b t c) = (x : Int)) := val_hit
                          have HSet : Hid (lev a b (Df.step a s c) (Df.step b t c) = (x : Int) → C2 w1 ((wr.drewN 1).setCell ⟨rS.1, t, none⟩ (.int .i64 ((x : Int) + 1))) a b N x s t (c + 1) true (.slice (some adt) k ct)) := fun e =>
                            .inr ⟨t2_set HG.out HKs.out HKt.out (ownI_on hown (below_drewN (Below.refl _ _) 1)) hlen hrows hrS hneg HcL.out e, by rw [val_set HG.out HKs.out HKt.out hneg HcL.out e]; omega⟩
                          have HKeep : Hid (lev a b (Df.step a s c) (Df.step b t c) ≠ (x : Int) → C2 w1 (wr.drewN 1) a b N x s t (c + 1) gb (.slice (some adt) k ct)) := fun e =>
                            .inl ⟨⟨rs, ownI_on hown (below_drewN (Below.refl _ _) 1), hlen, hrows, hag⟩, hneg, fun y hy => by
                              rcases Nat.lt_or_eq_of_le (Nat.le_of_lt_succ hy) with h | rfl
                              · exact hall y h
                              · exact e⟩
                          unfold irV at hats hatu
                          have e1 : (s : Int) < (k : Int) := by omega
                          have e2 : (t : Int) < (N : Int) := by omega
                          have e3 : (c : Int) < (mr : Int) := by omega
                          have e4 : (c : Int) < (mr' : Int) := by omega
                          have e5 : (Df.step a s c : Int) < (k : Int) := by omega
                          have e6 : (Df.step b t c : Int) < (N : Int) := by omega
                          have hw9 : IntKind.i64.wrap ((x : Int) + 1 - 1) = (x : Int) := by rw [show ((x : Int) + 1 - 1) = (x : Int) by omega]; exact IntWalk.i64_in _ ⟨by omega, by omega⟩
                          clear hown hlen hrows hag hT hrSc hrUc hrS hrU HS hall hv1 hadb hadb' harb harb' hatb hatb' hrSb hrUb HcL
                          generalize hX : vt a b (x + 1) s t (Df.step a s c) (Df.step b t c) = X at *
                          clear hX
                          generalize lev a b (Df.step a s c) (Df.step b t c) = Y at *
                          generalize Df.step a s c = u at *
                          generalize Df.step b t c = v at *
                          generalize val a b (x + 1) false s t = V at *
                          by_cases hit : X = (x : Int)
                          · have HE := Lib.hid (HSet.out (HHit.out.1 hit))
                            clear HSet HKeep HHit
                            subst hit
                            go_wp2_with fail
                            go_region
                            clear hcell hcell' hac hac' hw9 hatu c2 hca hcb
                            go_wp2
                            go_roundw
                            case rel => exact ⟨c + 1, true, by omega, rfl, by go_num, HE⟩
                            case measure => simp [intOf]; omega
                          · have HE := Lib.hid (HKeep.out (fun e => hit (HHit.out.2 e)))
                            clear HSet HKeep HHit
                            go_wp2_with fail
                            go_region
                            clear hcell hcell' hac hac' hw9 hatu c2 hca hcb
                            go_wp2
                            go_roundw
                            case rel => exact ⟨c + 1, gb, by omega, rfl, by go_num, HE⟩
                            case measure => simp [intOf]; omega
                      · as_aux_lemma =>
                          have hT := ownI_tab (N := N) (rs := rs) (A := At) (cap := ct) (by rw [hlen, HM.out]; exact hown)
                          obtain ⟨rS, hrS⟩ : ∃ r, rs[s]? = some r := ⟨_, List.getElem?_eq_getElem (by rw [hlen, HM.out]; exact hsk)⟩
                          obtain ⟨⟨adt, e0, hatb, hats⟩, hrSb, hrSc⟩ := hT s rS hrS
                          subst e0
                          have c1 := hrSc t _ (hrows.get hrS htN)
                          have hv1 : vt a b (x + 1) s (t + 1) s t = val a b (x + 1) true s t := by unfold vt; rw [turn_done]
                          rw [hv1] at c1
                          have HE : Hid (T2 w1 wr a b N x s (t + 1) gb (.slice (some adt) k ct)) := ⟨rs, hown, hlen, hrows, hag⟩
                          unfold irV at hats
                          have e1 : (s : Int) < (k : Int) := by omega
                          have e2 : (t : Int) < (N : Int) := by omega
                          clear hown hlen hrows hag hT hrSc hrS HS hv1 hatb hrSb
                          generalize val a b (x + 1) true s t = V at *
                          go_wp2
                          go_roundw
                          case rel => exact ⟨t + 1, gb, by omega, rfl, by go_num, HE⟩
                          case measure => simp [intOf]; omega
                    · obtain rfl : c = n := by omega
                      have HE := Lib.hid (c2_end HG.out HKs.out HKt.out HL.out HS.out)
                      clear HS
                      go_wp2
                      go_roundw
                      case rel => exact ⟨t + 1, gb, by omega, rfl, by go_num, HE⟩
                      case measure => simp [intOf]; omega
                · obtain rfl : t = N := by omega
                  have HE := Lib.hid (t2_row HN.out HS.out)
                  clear HS
                  go_wp2
                  go_roundw
                  case rel => exact ⟨s + 1, gb, by omega, rfl, by go_num, HE⟩
                  case measure => simp [intOf]; omega
            · obtain rfl : s = k := by omega
              have HE := Lib.hid (t2_end HM.out HS.out)
              clear HS
              go_wp2
              go_roundw
              case rel => exact ⟨x + 1, gb, by omega, rfl, by go_num, HE⟩
              case measure => simp [intOf]; omega
end Go.Proofs.YtjecphfjkpinlaaDoor.Sm
