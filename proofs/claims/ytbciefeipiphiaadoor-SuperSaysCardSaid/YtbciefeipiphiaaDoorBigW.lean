/- The document's Apart, Trim and Minimal of automata of at most 41 states. Written by tools/big.py. -/
import Derived.Test.YtbciefeipiphiaaDoorBigM

namespace Go.Proofs.YtbciefeipiphiaaDoor.Sm
open Go.RowKit Go.IntWalk Go.Proofs.YtbciefeipiphiaaDoor.Wd Go.Proofs.YtbciefeipiphiaaDoor.Wo Go.Proofs.YtbciefeipiphiaaDoor.Df Go.Proofs.YtbciefeipiphiaaDoor.Rc
theorem v0_oneB {a b : Aut} (g : Good2B a b) {s t n : Nat} (hs : s < a.next.length) (ht : t < b.next.length) (h : finA a s = finA b t) : (iF n (v0 a b s t)).set t (-1) = iF n (v0 a b s (t + 1)) := by
  rw [iF_set]
  refine iF_congr fun y _ => ?_
  unfold v0
  by_cases e : y = t
  · subst e; rw [if_pos rfl, if_pos (by omega), val_startB g hs ht, if_neg (by rw [h]; simp)]
  · rw [if_neg e]
    by_cases e2 : y < t
    · rw [if_pos e2, if_pos (by omega)]
    · rw [if_neg e2, if_neg (by omega)]
end Go.Proofs.YtbciefeipiphiaaDoor.Sm

namespace Go.Proofs.YtbciefeipiphiaaDoor.Sm
open Go.RowKit Go.IntWalk Go.Proofs.YtbciefeipiphiaaDoor.Wd Go.Proofs.YtbciefeipiphiaaDoor.Wo Go.Proofs.YtbciefeipiphiaaDoor.Df Go.Proofs.YtbciefeipiphiaaDoor.Rc
theorem v0_twoB {a b : Aut} (g : Good2B a b) {s t n : Nat} (hs : s < a.next.length) (ht : t < b.next.length) (h : finA a s ≠ finA b t) : ((iF n (v0 a b s t)).set t (-1)).set t 0 = iF n (v0 a b s (t + 1)) := by
  rw [List.set_set, iF_set]
  refine iF_congr fun y _ => ?_
  unfold v0
  by_cases e : y = t
  · subst e; rw [if_pos rfl, if_pos (by omega), val_startB g hs ht, if_pos h]
  · rw [if_neg e]
    by_cases e2 : y < t
    · rw [if_pos e2, if_pos (by omega)]
    · rw [if_neg e2, if_neg (by omega)]
end Go.Proofs.YtbciefeipiphiaaDoor.Sm

namespace Go.Proofs.YtbciefeipiphiaaDoor.Sm
open Go.RowKit Go.IntWalk Go.Proofs.YtbciefeipiphiaaDoor.Wd Go.Proofs.YtbciefeipiphiaaDoor.Wo Go.Proofs.YtbciefeipiphiaaDoor.Df Go.Proofs.YtbciefeipiphiaaDoor.Rc
theorem t2_keepB {w1 wr : World} {a b : Aut} {N k s t : Nat} {g : Bool} {tv : Value} (gd : Good2B a b) (hs : s < a.next.length) (ht : t < b.next.length) (h : T2 w1 wr a b N k s t g tv) (h0 : ∀ c : Nat, (c : Int) < a.L → lev a b (Df.step a s c) (Df.step b t c) ≠ (k : Int)) : T2 w1 wr a b N k s (t + 1) g tv := by
  obtain ⟨rs, h1, h2, h3, h4, h5⟩ := h
  obtain ⟨k1, k2⟩ := val_keepB gd hs ht h0
  refine ⟨rs, h1, h2, rowsI_congr h3 fun x y _ _ => ?_, h4, fun e x y hx hy ht' => ?_⟩
  · unfold vt
    by_cases q : x = s ∧ y = t
    · obtain ⟨rfl, rfl⟩ := q; rw [turn_at, turn_done, k1]
    · rw [turn_next s t x y q]
  · by_cases q : x = s ∧ y = t
    · obtain ⟨rfl, rfl⟩ := q; exact k2
    · exact h5 e x y hx hy (by rw [turn_next s t x y q]; exact ht')
end Go.Proofs.YtbciefeipiphiaaDoor.Sm

namespace Go.Proofs.YtbciefeipiphiaaDoor.Sm
open Go.RowKit Go.IntWalk Go.Proofs.YtbciefeipiphiaaDoor.Wd Go.Proofs.YtbciefeipiphiaaDoor.Wo Go.Proofs.YtbciefeipiphiaaDoor.Df Go.Proofs.YtbciefeipiphiaaDoor.Rc
theorem t2_setB {w1 wr : World} {a b : Aut} {N k s t c : Nat} {tv : Value} {rs : List Ir} {r : Ir} (gd : Good2B a b) (hs : s < a.next.length) (ht : t < b.next.length) (h1 : OwnI w1 wr N tv rs) (h2 : rs.length = a.next.length) (h3 : RowsI N rs (vt a b (k + 1) s t))
    (hr : rs[s]? = some r) (h0 : val a b (k + 1) false s t < 0) (hc : (c : Int) < a.L) (hl : lev a b (Df.step a s c) (Df.step b t c) = (k : Int)) : T2 w1 (wr.setCell ⟨r.1, t, none⟩ (.int .i64 ((k + 1 : Nat) : Int))) a b N k s (t + 1) true tv := by
  have k1 := val_setB gd hs ht h0 hc hl
  refine ⟨_, ownI_set h1 hr t _, by rw [List.length_set]; exact h2, rowsI_set h3 hr ?_ fun y z _ _ q => ?_, ⟨fun _ => ⟨s, t, hs, ht, ?_⟩, fun e => absurd e (by decide)⟩⟩
  · unfold vt; rw [turn_done]; exact k1
  · unfold vt; rw [turn_next s t y z q]
  · have := val_known (k := k + 1) (e := true) (x := s) (y := t) (by rw [k1]; omega)
    rw [← this]; exact k1
end Go.Proofs.YtbciefeipiphiaaDoor.Sm

namespace Go.Proofs.YtbciefeipiphiaaDoor.Sm
open Go.RowKit Go.IntWalk Go.Proofs.YtbciefeipiphiaaDoor.Wd Go.Proofs.YtbciefeipiphiaaDoor.Wo Go.Proofs.YtbciefeipiphiaaDoor.Df Go.Proofs.YtbciefeipiphiaaDoor.Rc
theorem c2_endB {w1 wr : World} {a b : Aut} {N k s t c : Nat} {g : Bool} {tv : Value} (gd : Good2B a b) (hs : s < a.next.length) (ht : t < b.next.length) (hc : a.L = (c : Int)) (h : C2 w1 wr a b N k s t c g tv) : T2 w1 wr a b N k s (t + 1) g tv := by
  rcases h with ⟨h1, h2, h3⟩ | ⟨h1, _⟩
  · exact t2_keepB gd hs ht h1 fun e he => h3 e (by omega)
  · exact h1
end Go.Proofs.YtbciefeipiphiaaDoor.Sm

namespace Go.Proofs.YtbciefeipiphiaaDoor.Sm
open Go.RowKit Go.IntWalk Go.Proofs.YtbciefeipiphiaaDoor.Wd Go.Proofs.YtbciefeipiphiaaDoor.Wo Go.Proofs.YtbciefeipiphiaaDoor.Df Go.Proofs.YtbciefeipiphiaaDoor.Rc
set_option linter.unusedSimpArgs false in
set_option maxRecDepth 100000 in
set_option maxHeartbeats 4000000 in
theorem rapart_anyB (v z : Value) (a b : Aut) (w : World) (ha : DfaAt w w.heap.size v a) (hb : DfaAt w w.heap.size z b) (hg : Good2B a b) :
    Calls Tryd.prog 45 #[v, z] w fun e w' => Hid (∃ A cap rs, e = .returned (.slice A a.next.length cap) ∧ rs.length = a.next.length ∧ RowsI b.next.length rs (lev a b) ∧ TabI w' A b.next.length rs ∧ Below w.heap.size w w') := by
  obtain ⟨L, s, A, c, F, cf, rfl, ha⟩ := ha
  obtain ⟨L', t, C, d, G, cg, rfl, hb⟩ := hb
  obtain ⟨wx, hwx, hBx, hX, hd1⟩ := box_dfa w ha
  obtain ⟨w1, hw1, hB1, hY, hd2⟩ := box_dfa wx (hb.on hBx)
  have hs1 : wx.heap.size = w.heap.size + 1 := by rw [hwx]; simp
  rw [hs1] at hY
  have HB := Lib.hid (hBx.trans (hB1.mono hBx.size))
  have HX := Lib.hid (hX.on hB1)
  have HY := Lib.hid hY
  have HDA := Lib.hid (hd1.on hB1)
  have HDB := Lib.hid hd2
  have HW : Hid (w1 = (w.alloc (.cells #[.int .i64 L, .int .i64 s, .slice A a.next.length c, .slice F a.fin.length cf] 25)).alloc (.cells #[.int .i64 L', .int .i64 t, .slice C b.next.length d, .slice G b.fin.length cg] 25)) := by
    rw [← hwx]; exact hw1
  have HG := Lib.hid hg
  obtain ⟨n, hn⟩ := Int.eq_ofNat_of_zero_le (show 0 ≤ L by have := hg.ga.l1; have := ha.eL; omega)
  subst hn
  have HL : Hid (a.L = (n : Int)) := ha.eL
  have HLb : Hid (b.L = (n : Int)) := by have := hg.eL; have := ha.eL; unfold Hid; omega
  have hn6 : n ≤ 6 := by have := hg.ga.l6; have := ha.eL; omega
  have hM40 := hg.ga.n40
  have hN40 := hg.gb.n40
  have hfa := hg.ga.fin
  have hfb := hg.gb.fin
  clear hwx hw1 hBx hB1 hX hY hd1 hd2 hs1 ha hb hg
  generalize a.fin.length = fa at *
  generalize b.fin.length = fb at *
  generalize hM : a.next.length = M at *
  generalize hN : b.next.length = N at *
  have HM := Lib.hid hM
  have HN := Lib.hid hN
  have hfa1 : fa ≤ M := by omega
  have hfa2 : M ≤ fa := by omega
  have hfb1 : fb ≤ N := by omega
  have hfb2 : N ≤ fb := by omega
  clear hM hN hfa hfb
  have HS : Hid (P1 w1 w1 a b N 0 (.slice none 0 0)) := ⟨[], ⟨(own_start w1).nil 27 1, fun r hr => by simp at hr⟩, rfl, fun j r hj => by simp at hj⟩
  go_enter Tryd.func45, Tryd.ntmps45
  go_wp2
  rw [← HW.out]
  clear HW
  go_loopw [5, 6] (fun tv i wr => ∃ (k : Nat), k ≤ M ∧ i = .int .i64 k ∧ Hid (P1 w1 wr a b N k tv)) (fun _ i _ => M - (intOf i).toNat)
  case atStart => exact ⟨0, by omega, rfl, HS⟩
  case round =>
    clear HS
    obtain ⟨k, hk, rfl, HS⟩ := hrel
    obtain ⟨rs, hown, hlen, hrows⟩ := HS.out
    have HLen := Lib.hid hlen
    have HRows := Lib.hid hrows
    have HRL := Lib.hid hown.2
    have HO := Lib.hid hown
    have hlen1 : (rs.map (irV N)).length < 1099511627776 := by rw [List.length_map]; omega
    clear HS hown hlen hrows
    have hc2 := (HX.out.on HO.out.1.below).c2
    by_cases hkM : k < M
    · as_aux_lemma =>
        have hd2 := (HY.out.on HO.out.1.below).c2
        go_wp2_with (at_make; refine mk_ints rfl _ _ rfl N rfl rfl (by omega) ?_)
        intro w4 hm4
        have hj4 := HO.out.1.join (Own.of_nums hm4)
        have HR0 : Hid (Own w1 w4 (eInts (rowV wr.heap.size N) (iF N (v0 a b k 0)) :: eRows u5 (rs.map (irV N)) :: eEachI N rs) []) := by
          rw [← v0_start]; exact hj4
        clear hm4 hj4 HO hc2 hd2
        generalize wr.heap.size = gw at *
        go_wp2
        have HKl : Hid (k < a.next.length) := by unfold Hid; rw [HM.out]; exact hkM
        go_loopw [8] (fun i wi => ∃ (q : Nat), q ≤ N ∧ i = .int .i64 q ∧ Hid (Own w1 wi (eInts (rowV gw N) (iF N (v0 a b k q)) :: eRows u5 (rs.map (irV N)) :: eEachI N rs) [])) (fun i _ => N - (intOf i).toNat)
        case atStart => exact ⟨0, by omega, rfl, HR0⟩
        case round =>
          clear HR0
          obtain ⟨q, hq, rfl, HR⟩ := hrel
          by_cases hqN : q < N
          · have hqN' : Hid (q < b.next.length) := by unfold Hid; rw [HN.out]; exact hqN
            obtain ⟨hk1, hk2⟩ := own_ints_cell (g := gw) (n := N) (cap := N) (l := iF N (v0 a b k q)) HR.out (List.mem_append_left _ List.mem_cons_self) (iF_length _ _) (iF_get _ hqN)
            have HR1 := Lib.hid (own_ints_set HR.out (iF_length _ _) q (-1))
            obtain ⟨hk3, hk4⟩ := own_ints_cell (g := gw) (n := N) (cap := N) (l := (iF N (v0 a b k q)).set q (-1)) HR1.out (List.mem_append_left _ List.mem_cons_self) (by rw [List.length_set]; exact iF_length _ _) (x := -1) (j := q) (by rw [List.getElem?_set, if_pos rfl, if_pos (by rw [iF_length]; exact hqN)])
            have HR2 := Lib.hid (own_ints_set HR1.out (by rw [List.length_set]; exact iF_length _ _) q 0)
            have HE1 : Hid (finA a k = finA b q → Own w1 (wr.setCell ⟨gw, q, none⟩ (.int .i64 (-1))) (eInts (rowV gw N) (iF N (v0 a b k (q + 1))) :: eRows u5 (rs.map (irV N)) :: eEachI N rs) []) := fun e => by
              rw [← v0_oneB HG.out HKl.out hqN'.out e]; exact HR1.out
            have HE2 : Hid (finA a k ≠ finA b q → Own w1 ((wr.setCell ⟨gw, q, none⟩ (.int .i64 (-1))).setCell ⟨gw, q, none⟩ (.int .i64 0)) (eInts (rowV gw N) (iF N (v0 a b k (q + 1))) :: eRows u5 (rs.map (irV N)) :: eEachI N rs) []) := fun e => by
              rw [← v0_twoB HG.out HKl.out hqN'.out e]; exact HR2.out
            obtain ⟨adf, eF, hfa', hcf, _⟩ := (HDA.out.on HR1.out.below).fins.at_ (HG.out.ga.fin_at HKl.out)
            obtain ⟨adg, eG, hfb', hcg, _⟩ := (HDB.out.on HR1.out.below).fins.at_ (HG.out.gb.fin_at hqN'.out)
            subst eF eG
            have hc3 := (HX.out.on HR1.out.below).c3
            have hd3 := (HY.out.on HR1.out.below).c3
            have e1 : (k : Int) < (fa : Int) := by omega
            have e2 : (q : Int) < (fb : Int) := by omega
            have e3 : (q : Int) < (N : Int) := by omega
            clear HR HR1 HR2 hqN' hfa' hfb'
            generalize v0 a b k q q = old at *
            go_wp2_with fail
            generalize hw5 : wr.setCell ⟨gw, q, none⟩ (.int .i64 (-1)) = w5 at *
            clear hw5 hk1 hk2
            go_region
            clear hcf hcg hc3 hd3
            rcases h1 : finA a k with _ | _ <;> rcases h2 : finA b q with _ | _ <;> rw [h1, h2] at HE1 HE2
            · have HE := Lib.hid ((HE1.out rfl).drewN 1)
              clear HE1 HE2 h1 h2
              go_wp2
              go_roundw
              case rel => exact ⟨q + 1, by omega, by go_num, HE⟩
              case measure => simp [intOf]; omega
            · have HE := Lib.hid ((HE2.out (by decide)).drewN 1)
              clear HE1 HE2 h1 h2
              go_wp2
              go_roundw
              case rel => exact ⟨q + 1, by omega, by go_num, HE⟩
              case measure => simp [intOf]; omega
            · have HE := Lib.hid ((HE2.out (by decide)).drewN 1)
              clear HE1 HE2 h1 h2
              go_wp2
              go_roundw
              case rel => exact ⟨q + 1, by omega, by go_num, HE⟩
              case measure => simp [intOf]; omega
            · have HE := Lib.hid ((HE1.out rfl).drewN 1)
              clear HE1 HE2 h1 h2
              go_wp2
              go_roundw
              case rel => exact ⟨q + 1, by omega, by go_num, HE⟩
              case measure => simp [intOf]; omega
          · obtain rfl : q = N := by omega
            have HO2 : Hid (Own w1 wr (eRows u5 (rs.map (irV q)) :: eInts (rowV gw q) (iF q (val a b 1 false k)) :: eEachI q rs) []) := by rw [← v0_full]; exact HR.out.two
            clear HR
            go_wp2_with (at_builtin; refine own_row (by rfl) _ _ (by rfl) (by rfl) HO2.out (by rfl) (by rfl) hlen1 ?_)
            intro g8 cap8 w8 ho8
            have HE : Hid (P1 w1 w8 a b q (k + 1) (.slice (some ⟨g8, 0, none⟩) (rs.length + 1) cap8)) :=
              ⟨rs ++ [(gw, iF q (val a b 1 false k))], ownI_snoc (iF_length _ _) HRL.out ho8, by rw [List.length_append, HLen.out]; rfl, rowsI_snoc HRows.out gw HLen.out⟩
            clear ho8 HO2
            go_wp2
            go_roundw
            case rel => exact ⟨k + 1, by omega, by go_num, HE⟩
            case measure => simp [intOf]; omega
    · obtain rfl : k = M := by omega
      obtain ⟨At, ct, htv⟩ := ownI_form HO.out
      rw [HLen.out] at htv
      subst htv
      have HS2 : Hid (T1 w1 wr a b N 0 true (.slice At k ct)) := ⟨rs, HO.out, by rw [HLen.out, HM.out], HRows.out, fun _ => .inl rfl, fun e => absurd e (by decide)⟩
      clear HO HRows HRL HLen hlen1
      go_wp2
      clear hc2
      generalize wr = wz at *
      go_loopw [9, 10] (fun gv i wr => ∃ (x : Nat) (gb : Bool), x ≤ 120 ∧ gv = .bool gb ∧ i = .int .i64 ((x : Int) + 1) ∧ Hid (T1 w1 wr a b N x gb (.slice At k ct))) (fun _ i _ => 200 - (intOf i).toNat)
      case atStart => exact ⟨0, true, by omega, rfl, rfl, HS2⟩
      case round =>
        clear HS2
        obtain ⟨x, gb, hx, rfl, rfl, HS⟩ := hrel
        rcases gb with _ | _
        · obtain ⟨rs, h1, h2, h3, _, h5⟩ := HS.out
          have HT := Lib.hid (ownI_tab (N := N) (rs := rs) (A := At) (cap := ct) (by rw [h2, HM.out]; exact h1))
          have HBe := Lib.hid (HB.out.trans (h1.1.below.mono HB.out.size))
          have HLen := Lib.hid h2
          rw [HM.out] at HLen
          have HR : Hid (RowsI N rs (lev a b)) := rowsI_congr h3 fun y z hy hz => val_endB HG.out (fun p q hp hq e => by
            have := lev_gapB HG.out (h5 rfl) (x + 1) (by omega) p q hp hq
            exact this e) (by rw [← h2]; exact hy) (by rw [HN.out]; exact hz) false
          clear h1 h2 h3 h5 HS
          go_wp2
          go_ret
          exact ⟨At, ct, rs, rfl, HLen.out, HR.out, HT.out, HBe.out⟩
        · have hx2 : x ≤ 100 := by
            obtain ⟨rs, _, _, _, h4, _⟩ := HS.out
            rcases h4 rfl with rfl | ⟨p, q, hp, hq, e⟩
            · omega
            · have := lev_ltB HG.out hp hq e
              rw [HM.out, HN.out] at this
              omega
          have HT0 := Lib.hid (t1_start HS.out)
          clear HS
          go_wp2
          go_loopw [9, 11] (fun gv i wr => ∃ (s : Nat) (gb : Bool), s ≤ k ∧ gv = .bool gb ∧ i = .int .i64 s ∧ Hid (T2 w1 wr a b N x s 0 gb (.slice At k ct))) (fun _ i _ => k - (intOf i).toNat)
          case atStart => exact ⟨0, false, by omega, rfl, rfl, HT0⟩
          case round =>
            clear HT0
            obtain ⟨s, gb, hs, rfl, rfl, HS⟩ := hrel
            have HBw : Hid (Below w1.heap.size w1 wr) := by obtain ⟨rs, h1, _⟩ := HS.out; exact h1.1.below
            have hc2 := (HX.out.on HBw.out).c2
            by_cases hsk : s < k
            · go_wp2
              clear hc2 HBw
              go_loopw [9, 12] (fun gv i wr => ∃ (t : Nat) (gb : Bool), t ≤ N ∧ gv = .bool gb ∧ i = .int .i64 t ∧ Hid (T2 w1 wr a b N x s t gb (.slice At k ct))) (fun _ i _ => N - (intOf i).toNat)
              case atStart => exact ⟨0, gb, by omega, rfl, rfl, HS⟩
              case round =>
                clear HS
                obtain ⟨t, gb, ht, rfl, rfl, HS⟩ := hrel
                have HBw : Hid (Below w1.heap.size w1 wr) := by obtain ⟨rs, h1, _⟩ := HS.out; exact h1.1.below
                have hd2 := (HY.out.on HBw.out).c2
                by_cases htN : t < N
                · have HC0 := Lib.hid (c2_start HS.out)
                  have HKs : Hid (s < a.next.length) := by unfold Hid; rw [HM.out]; exact hsk
                  have HKt : Hid (t < b.next.length) := by unfold Hid; rw [HN.out]; exact htN
                  go_wp2
                  clear hd2 HBw HS
                  go_loopw [9, 13] (fun gv i wr => ∃ (c : Nat) (gb : Bool), c ≤ n ∧ gv = .bool gb ∧ i = .int .i64 c ∧ Hid (C2 w1 wr a b N x s t c gb (.slice At k ct))) (fun _ i _ => n - (intOf i).toNat)
                  case atStart => exact ⟨0, gb, by omega, rfl, rfl, HC0⟩
                  case round =>
                    clear HC0
                    obtain ⟨c, gb, hc, rfl, rfl, HS⟩ := hrel
                    have HBw : Hid (Below w1.heap.size w1 wr) := by rcases HS.out with ⟨⟨rs, h1, _⟩, _⟩ | ⟨⟨rs, h1, _⟩, _⟩ <;> exact h1.1.below
                    have hc0 := (HX.out.on HBw.out).c0
                    by_cases hcn : c < n
                    · rcases HS.out with ⟨⟨rs, hown, hlen, hrows, hag⟩, hneg, hall⟩ | ⟨⟨rs, hown, hlen, hrows, hag⟩, hpos⟩
                      · as_aux_lemma =>
                          have hT := ownI_tab (N := N) (rs := rs) (A := At) (cap := ct) (by rw [hlen, HM.out]; exact hown)
                          have HcL : Hid ((c : Int) < a.L) := by rw [HL.out]; unfold Hid; omega
                          obtain ⟨ad, ar, mr, cr, eA, hadb, hcell, hjm, harb, hac⟩ := (HDA.out.on HBw.out).step_atB HG.out.ga HKs.out (i := c) HcL.out
                          obtain ⟨ad', ar', mr', cr', eC, hadb', hcell', hjm', harb', hac'⟩ := (HDB.out.on HBw.out).step_atB HG.out.gb HKt.out (i := c) (by rw [HLb.out]; omega)
                          subst eA eC
                          have hu := HG.out.ga.step_lt HKs.out HcL.out
                          have hv := HG.out.gb.step_lt HKt.out (a := c) (by rw [HLb.out]; omega)
                          rw [HM.out] at hu
                          rw [HN.out] at hv
                          obtain ⟨rS, hrS⟩ : ∃ r, rs[s]? = some r := ⟨_, List.getElem?_eq_getElem (by rw [hlen, HM.out]; exact hsk)⟩
                          obtain ⟨rU, hrU⟩ : ∃ r, rs[Df.step a s c]? = some r := ⟨_, List.getElem?_eq_getElem (by rw [hlen, HM.out]; exact hu)⟩
                          obtain ⟨⟨adt, e0, hatb, hats⟩, hrSb, hrSc⟩ := hT s rS hrS
                          subst e0
                          obtain ⟨⟨adt', e0, hatb', hatu⟩, hrUb, hrUc⟩ := hT _ rU hrU
                          cases e0
                          have c1 := hrSc t _ (hrows.get hrS htN)
                          have c2 := hrUc (Df.step b t c) _ (hrows.get hrU hv)
                          have c4 := (ownI_frozen hown hrS (hrows.get hrS htN)).2
                          have hca := (HX.out.on HBw.out).c2
                          have hcb := (HY.out.on HBw.out).c2
                          have hv1 : vt a b (x + 1) s t s t = val a b (x + 1) false s t := by unfold vt; rw [turn_at]
                          rw [hv1] at c1
                          have HHit : Hid (vt a b (x + 1) s t (Df.step a s c) (Df.step b t c) = (x : Int) ↔ lev a b (Df.step a s c) (Df.step b t c) = (x : Int)) := val_hit
                          have HSet : Hid (lev a b (Df.step a s c) (Df.step b t c) = (x : Int) → C2 w1 ((wr.drewN 1).setCell ⟨rS.1, t, none⟩ (.int .i64 ((x : Int) + 1))) a b N x s t (c + 1) true (.slice (some adt) k ct)) := fun e =>
                            .inr ⟨t2_setB HG.out HKs.out HKt.out (ownI_on hown (below_drewN (Below.refl _ _) 1)) hlen hrows hrS hneg HcL.out e, by rw [val_setB HG.out HKs.out HKt.out hneg HcL.out e]; omega⟩
                          have HKeep : Hid (lev a b (Df.step a s c) (Df.step b t c) ≠ (x : Int) → C2 w1 (wr.drewN 1) a b N x s t (c + 1) gb (.slice (some adt) k ct)) := fun e =>
                            .inl ⟨⟨rs, ownI_on hown (below_drewN (Below.refl _ _) 1), hlen, hrows, hag⟩, hneg, fun y hy => by
                              rcases Nat.lt_or_eq_of_le (Nat.le_of_lt_succ hy) with h | rfl
                              · exact hall y h
                              · exact e⟩
                          unfold irV at hats hatu
                          have e1 : (s : Int) < (k : Int) := by omega
                          have e2 : (t : Int) < (N : Int) := by omega
                          have e3 : (c : Int) < (mr : Int) := by omega
                          have e4 : (c : Int) < (mr' : Int) := by omega
                          have e5 : (Df.step a s c : Int) < (k : Int) := by omega
                          have e6 : (Df.step b t c : Int) < (N : Int) := by omega
                          have hw9 : IntKind.i64.wrap ((x : Int) + 1 - 1) = (x : Int) := by rw [show ((x : Int) + 1 - 1) = (x : Int) by omega]; exact IntWalk.i64_in _ ⟨by omega, by omega⟩
                          clear hown hlen hrows hag hT hrSc hrUc hrS hrU HS hall hv1 hadb hadb' harb harb' hatb hatb' hrSb hrUb HcL
                          generalize hX : vt a b (x + 1) s t (Df.step a s c) (Df.step b t c) = X at *
                          clear hX
                          generalize lev a b (Df.step a s c) (Df.step b t c) = Y at *
                          generalize Df.step a s c = u at *
                          generalize Df.step b t c = v at *
                          generalize val a b (x + 1) false s t = V at *
                          by_cases hit : X = (x : Int)
                          · have HE := Lib.hid (HSet.out (HHit.out.1 hit))
                            clear HSet HKeep HHit
                            subst hit
                            go_wp2_with fail
                            go_region
                            clear hcell hcell' hac hac' hw9 hatu c2 hca hcb
                            go_wp2
                            go_roundw
                            case rel => exact ⟨c + 1, true, by omega, rfl, by go_num, HE⟩
                            case measure => simp [intOf]; omega
                          · have HE := Lib.hid (HKeep.out (fun e => hit (HHit.out.2 e)))
                            clear HSet HKeep HHit
                            go_wp2_with fail
                            go_region
                            clear hcell hcell' hac hac' hw9 hatu c2 hca hcb
                            go_wp2
                            go_roundw
                            case rel => exact ⟨c + 1, gb, by omega, rfl, by go_num, HE⟩
                            case measure => simp [intOf]; omega
                      · as_aux_lemma =>
                          have hT := ownI_tab (N := N) (rs := rs) (A := At) (cap := ct) (by rw [hlen, HM.out]; exact hown)
                          obtain ⟨rS, hrS⟩ : ∃ r, rs[s]? = some r := ⟨_, List.getElem?_eq_getElem (by rw [hlen, HM.out]; exact hsk)⟩
                          obtain ⟨⟨adt, e0, hatb, hats⟩, hrSb, hrSc⟩ := hT s rS hrS
                          subst e0
                          have c1 := hrSc t _ (hrows.get hrS htN)
                          have hv1 : vt a b (x + 1) s (t + 1) s t = val a b (x + 1) true s t := by unfold vt; rw [turn_done]
                          rw [hv1] at c1
                          have HE : Hid (T2 w1 wr a b N x s (t + 1) gb (.slice (some adt) k ct)) := ⟨rs, hown, hlen, hrows, hag⟩
                          unfold irV at hats
                          have e1 : (s : Int) < (k : Int) := by omega
                          have e2 : (t : Int) < (N : Int) := by omega
                          clear hown hlen hrows hag hT hrSc hrS HS hv1 hatb hrSb
                          generalize val a b (x + 1) true s t = V at *
                          go_wp2
                          go_roundw
                          case rel => exact ⟨t + 1, gb, by omega, rfl, by go_num, HE⟩
                          case measure => simp [intOf]; omega
                    · obtain rfl : c = n := by omega
                      have HE := Lib.hid (c2_endB HG.out HKs.out HKt.out HL.out HS.out)
                      clear HS
                      go_wp2
                      go_roundw
                      case rel => exact ⟨t + 1, gb, by omega, rfl, by go_num, HE⟩
                      case measure => simp [intOf]; omega
                · obtain rfl : t = N := by omega
                  have HE := Lib.hid (t2_row HN.out HS.out)
                  clear HS
                  go_wp2
                  go_roundw
                  case rel => exact ⟨s + 1, gb, by omega, rfl, by go_num, HE⟩
                  case measure => simp [intOf]; omega
            · obtain rfl : s = k := by omega
              have HE := Lib.hid (t2_end HM.out HS.out)
              clear HS
              go_wp2
              go_roundw
              case rel => exact ⟨x + 1, gb, by omega, rfl, by go_num, HE⟩
              case measure => simp [intOf]; omega
end Go.Proofs.YtbciefeipiphiaaDoor.Sm

namespace Go.Proofs.YtbciefeipiphiaaDoor.Rc
open Go.RowKit Go.IntWalk Go.Proofs.YtbciefeipiphiaaDoor.Wd Go.Proofs.YtbciefeipiphiaaDoor.Wo Go.Proofs.YtbciefeipiphiaaDoor.Df
theorem part1_nextB {d : Aut} {s : Nat} (hf : found (S1 d) s ≠ none) {l : List Nat} {i : Nat} (h : Part (S1 d) s i l) {x : Nat} (hx : l[i]? = some x) : Part (S1 d) s (i + 1) (addAll l (S1 d x)) := by
  by_cases h4 : 40 < (addAll l (S1 d x)).length
  · exact absurd ((h.step hx).1 h4) hf
  · exact (h.step hx).2 h4
end Go.Proofs.YtbciefeipiphiaaDoor.Rc

namespace Go.Proofs.YtbciefeipiphiaaDoor.Rc
open Go.RowKit Go.IntWalk Go.Proofs.YtbciefeipiphiaaDoor.Wd Go.Proofs.YtbciefeipiphiaaDoor.Wo Go.Proofs.YtbciefeipiphiaaDoor.Df
set_option linter.unusedSimpArgs false in
set_option maxRecDepth 100000 in
set_option maxHeartbeats 4000000 in
theorem rtrim_anyB (v : Value) (d : Aut) (w : World) (h : DfaAt w w.heap.size v d) (hg : Df.GoodB d) (hf0 : found (S1 d) d.s.toNat ≠ none) :
    Calls Tryd.prog 46 #[v] w fun e w' => Hid (∃ x, e = .returned x ∧ DfaOwn w w' x (trimA d)) := by
  obtain ⟨L, s, A, c, F, cf, rfl, h⟩ := h
  obtain ⟨w1, hw1, hB1, hX, hd1⟩ := box_dfa w h
  have HB := Lib.hid hB1
  have HX := Lib.hid hX
  have HW := Lib.hid hw1
  have HD := Lib.hid hd1
  have hres := below_alloc w1 (.cells #[.int .i64 0, .int .i64 0, .slice none 0 0, .slice none 0 0] 25)
  have HX2 := Lib.hid (hX.on hres)
  have hc0 := HX2.out.c0
  have hc1 := HX2.out.c1
  have hc2 := HX2.out.c2
  have hc3 := HX2.out.c3
  have HO := Lib.hid ((own_start w1).dfa (.int .i64 0) (.int .i64 0) (.slice none 0 0) (.slice none 0 0))
  have hsz : w1.heap.size = w.heap.size + 1 := by rw [hw1]; simp
  rw [hsz] at HO
  have HG := Lib.hid hg
  obtain ⟨p, hp⟩ := Int.eq_ofNat_of_zero_le (show 0 ≤ s by have := hg.st.1; have := h.es; omega)
  obtain ⟨n, hn⟩ := Int.eq_ofNat_of_zero_le (show 0 ≤ L by have := hg.l1; have := h.eL; omega)
  subst hp hn
  have hps : d.s.toNat = p := by have := h.es; omega
  have hsl : p < d.next.length := by have := hg.s_lt; omega
  have HL : Hid (d.L = (n : Int)) := h.eL
  have hn6 : n ≤ 6 := by have := hg.l6; have := h.eL; omega
  have h40 := hg.n40
  have hfn := hg.fin
  have HTr : Hid (trimA d = ⟨d.L, 0, (rset d p).map (srow (S1 d) (rset d p)), (rset d p).map (finA d)⟩) := by
    unfold Hid; unfold trimA autOf; rw [hps]
  have HSl := Lib.hid hsl
  have HFd : Hid (found (S1 d) p ≠ none) := by rw [← hps]; exact hf0
  clear hf0
  clear h hd1 hw1 hX hB1 hg hps hsl hres
  generalize hm : d.fin.length = m at *
  generalize hN : d.next.length = N at *
  have HN := Lib.hid hN
  have hmN : N ≤ m := by omega
  clear hN hm hfn
  have HS : Hid (UInv w1 (((w1.alloc (.cells #[.int .i64 0, .int .i64 0, .slice none 0 0, .slice none 0 0] 25)).alloc (.cells #[.int .i64 (n : Int), .int .i64 0, .slice none 0 0, .slice none 0 0] 25)).alloc (.cells #[.int .i64 (p : Int)] 3)) (w.heap.size + 1 + 1) (w.heap.size + 1) d p n 0 (.slice (some ⟨w.heap.size + 1 + 1 + 1, 0, none⟩) 1 1)) := by
    have h1 := HO.out.dfa (.int .i64 (n : Int)) (.int .i64 0) (.slice none 0 0) (.slice none 0 0)
    have h2 := h1.lit 3 1 1 #[.int .i64 (p : Int)] rfl (by simp [maxLen])
    simp only [sizeAl2, hsz] at h2
    exact ⟨_, .slice none 0 0, .slice none 0 0, [], part_zero (S1 d) p, rfl, (((h2.re [1, 2, 0] 3 rfl (by decide)).nil 4 1).nil 27 1)⟩
  go_enter Tryd.func46, Tryd.ntmps46
  go_wp2
  rw [← HW.out]
  clear HW hc0 hc1 hc2 hc3 HX2 HO
  generalize w.heap.size + 1 + 1 = g at *
  go_loopw [4, 5] (fun lv i wr => ∃ (k : Nat), k ≤ 40 ∧ i = .int .i64 k ∧ Hid (UInv w1 wr g (w.heap.size + 1) d p n k lv)) (fun _ i _ => 41 - (intOf i).toNat)
  case atStart => exact ⟨0, by omega, rfl, HS⟩
  case round =>
    clear HS
    obtain ⟨k, hk, rfl, HS⟩ := hrel
    obtain ⟨l, nv, fv, rr, hpart, hbd⟩ := HS.out
    have HP := Lib.hid hpart
    have HBd := Lib.hid hbd
    obtain ⟨Al, cl, hlv, hla⟩ := own_read hbd.2 (v := u4) (l := ints l) (by simp)
    rw [ints_length] at hlv
    subst hlv
    have hl40 := hpart.n40
    have hkl := hpart.le
    clear HS hpart hbd hla
    by_cases hlt : k < l.length
    · obtain ⟨x, hx⟩ := get_of_lt hlt
      have HXL := Lib.hid hx
      have hx1 : x < d.next.length := rch_lt1B HG.out (by rw [HN.out]; exact HSl.out) (HP.out.rch _ (List.mem_of_getElem? hx))
      have HX1 := Lib.hid hx1
      obtain ⟨HRR, hown⟩ := HBd.out
      have HRR := Lib.hid HRR
      have HR0 : Hid (VInv w1 wr g (w.heap.size + 1) d n k l x 0 nv fv rr (.slice Al l.length cl) (.slice none 0 0)) := (hown.nil 3 1).re [5, 0, 1, 2, 3, 4] 6 rfl (by decide)
      clear hown hx hx1 HBd
      go_wp2
      go_loopw [4, 6, 7] (fun lv rv i wi => ∃ (q : Nat), q ≤ n ∧ i = .int .i64 q ∧ Hid (VInv w1 wi g (w.heap.size + 1) d n k l x q nv fv rr lv rv)) (fun _ _ i _ => n - (intOf i).toNat)
      case atStart => exact ⟨0, by omega, rfl, HR0⟩
      case round =>
        clear HR0
        obtain ⟨q, hq, rfl, HR⟩ := hrel
        have hR := HR.out
        unfold VInv at hR
        have hbi := hR.below
        have HXi := Lib.hid (HX.out.on hbi)
        have hc0 := HXi.out.c0
        by_cases hqn : q < n
        · as_aux_lemma =>
            obtain ⟨ada, ara, ma, ca, eA, ha0, ha1, ha2, ha3, ha4⟩ := (HD.out.on hbi).step_atB HG.out (q := x) (i := q) HX1.out (by rw [HL.out]; omega)
            subst eA
            have HT := Lib.hid (S1_get d x (c := q) (by rw [HL.out]; omega))
            have hx1 := HX1.out
            rw [HN.out] at hx1
            generalize Df.step d x q = sa at *
            have HAS := Lib.hid (addAll_succ (l := l) HT.out)
            have HTS := Lib.hid (trow_step (l := l) HT.out)
            have hLn : (addAll l ((S1 d x).take q)).length ≤ 100 := by
              have h1 := addAll_length_le l ((S1 d x).take q)
              have h2 := List.length_take (i := q) (l := S1 d x)
              omega
            have hLk : (addAll l ((S1 d x).take q))[k]? = some x := by
              obtain ⟨m, hm⟩ := addAll_prefix l ((S1 d x).take q)
              rw [hm, List.getElem?_append_left hlt]; exact HXL.out
            have hTl : (trow (S1 d) l x q).length ≤ 100 := by
              unfold trow
              have h2 := List.length_take (i := q) (l := S1 d x)
              rw [List.length_map]; omega
            generalize addAll l ((S1 d x).take q) = Lq at *
            generalize trow (S1 d) l x q = tq at *
            generalize hbs : (l.take k).map (finA d) = bs at *
            have HBs := Lib.hid hbs
            clear hbs
            obtain ⟨Al', cl', hlv, hla⟩ := own_read hR (v := u4) (l := ints Lq) (by simp)
            rw [ints_length] at hlv
            subst hlv
            obtain ⟨adl, e1, hxb, hxc⟩ := cells_int hla (ints_get hLk)
            subst e1
            have HLA := Lib.hid hla
            have hkL : k < Lq.length := (List.getElem?_eq_some_iff.1 hLk).1
            have hca := HXi.out.c2
            have HR2 := Lib.hid hR
            have HY0 : Hid (sa ∉ Lq.take 0) := by simp [Hid]
            have e1 : (x : Int) < (N : Int) := by omega
            have e3 : (q : Int) < (ma : Int) := by omega
            have e5 : (k : Int) < (Lq.length : Int) := by omega
            clear hla hR hbi HR hLk HT hx1
            go_wp2
            go_region
            go_wp2
            clear hca hxc ha0 ha1 ha2 ha3 ha4 e1 e3 e5 hc0 hxb HXi
            have hbq : Below wr.heap.size wr wr.drew := (Below.refl _ _).drew
            have HLA := Lib.hid ((Cells.below HLA.out hbq).more hbq.size)
            have HR2 := Lib.hid (HR2.out.on hbq)
            clear hbq
            generalize wr.drew = wq at *
            go_loop [9] (fun i => ∃ (j : Nat), j ≤ Lq.length ∧ i = .int .i64 j ∧ Hid (sa ∉ Lq.take j)) (fun i => Lq.length - (intOf i).toNat)
            case atStart => exact ⟨0, by omega, rfl, HY0⟩
            case round =>
              clear HY0
              obtain ⟨j, hj, rfl, HJ⟩ := hrel
              by_cases hjl : j < Lq.length
              · have hju := List.getElem?_eq_getElem hjl
                obtain ⟨adl', ex, hxb', hxc'⟩ := cells_int HLA.out (ints_get hju)
                obtain rfl := Option.some.inj ex
                by_cases hfd : sa = Lq[j]
                · as_aux_lemma =>
                    have HF1 : Hid (addTo Lq sa = Lq ∧ num Lq sa = j) := ⟨by unfold addTo; rw [if_pos (hfd ▸ List.getElem_mem hjl)], idx_at HJ.out hjl hfd⟩
                    rw [← hfd] at hxc'
                    have f1 := int_eq' (show (sa : Int) = (sa : Int) from rfl)
                    have f3 := int_ne (show (j : Int) ≠ (Lq.length : Int) by omega)
                    have HR3 : Hid (Own w1 wq (eInts u6 tq :: [eInts (.slice (some adl) Lq.length cl') (ints Lq), eRows nv (rr.map (·.1)), eBools fv bs, eDfa g [.int .i64 (n : Int), .int .i64 0, nv, fv], eDfa (w.heap.size + 1) zero4]) (eEach rr)) := HR2.out.two
                    clear hfd hju ex HLA
                    go_wp2_with (at_builtin; refine own_int (by rfl) _ _ (by rfl) (by rfl) HR3.out (by rfl) (by omega) ?_)
                    intro g7 cap7 w7 ho7
                    have HR9 : Hid (VInv w1 w7 g (w.heap.size + 1) d n k l x (q + 1) nv fv rr (.slice (some adl) Lq.length cl') (.slice (some ⟨g7, 0, none⟩) (tq.length + 1) cap7)) := by
                      unfold Hid VInv
                      rw [HAS.out, HTS.out, HF1.out.1, HF1.out.2, HBs.out]
                      exact ho7.two
                    clear ho7 HR3 HR2 hxc' HJ
                    go_wp2
                    go_roundw
                    case rel => exact ⟨q + 1, by omega, by go_num, HR9⟩
                    case measure => simp [intOf]; omega
                · as_aux_lemma =>
                    have HJ1 := Lib.hid (notin_take_succ HJ.out hjl hfd)
                    have f1 := int_ne' (show ((Lq[j] : Nat) : Int) ≠ (sa : Int) by omega)
                    clear hfd hju
                    generalize Lq[j] = u at *
                    go_wp2
                    go_round
                    case rel => exact ⟨j + 1, by omega, by go_num, HJ1⟩
                    case measure => simp [intOf]; omega
              · as_aux_lemma =>
                  obtain rfl : j = Lq.length := by omega
                  have hnm : sa ∉ Lq := by
                    have := HJ.out
                    rwa [List.take_length] at this
                  have HF2 : Hid (addTo Lq sa = Lq ++ [sa] ∧ num (Lq ++ [sa]) sa = Lq.length) := ⟨by unfold addTo; rw [if_neg hnm], idx_new hnm⟩
                  have f3 := int_eq (show (Lq.length : Int) = (Lq.length : Int) from rfl)
                  have HFs : Hid (ints (Lq ++ [sa]) = ints Lq ++ [(sa : Int)]) := ints_app _ _
                  have hl1 : (ints Lq).length < 17592186044416 := by rw [ints_length]; omega
                  clear hnm HLA HJ
                  generalize ints Lq = X at *
                  have HR3 : Hid (Own w1 wq (eInts (.slice (some adl) Lq.length cl') X :: [eInts u6 tq, eRows nv (rr.map (·.1)), eBools fv bs, eDfa g [.int .i64 (n : Int), .int .i64 0, nv, fv], eDfa (w.heap.size + 1) zero4]) (eEach rr)) := HR2.out
                  go_wp2_with (at_builtin; refine own_int (by rfl) _ _ (by rfl) (by rfl) HR3.out (by rfl) hl1 ?_)
                  intro g7 cap7 w7 ho7
                  have HO7 := Lib.hid ho7.two
                  clear ho7 HR3 HR2
                  go_wp2_with (at_builtin; refine own_int (by rfl) _ _ (by rfl) (by rfl) HO7.out (by rfl) (by omega) ?_)
                  intro g9 cap9 w9 ho9
                  have HR9 : Hid (VInv w1 w9 g (w.heap.size + 1) d n k l x (q + 1) nv fv rr (.slice (some ⟨g7, 0, none⟩) (X.length + 1) cap7) (.slice (some ⟨g9, 0, none⟩) (tq.length + 1) cap9)) := by
                    unfold Hid VInv
                    rw [HAS.out, HTS.out, HF2.out.1, HF2.out.2, HBs.out, HFs.out]
                    exact ho9.two
                  clear ho9 HO7
                  go_wp2
                  go_roundw
                  case rel => exact ⟨q + 1, by omega, by go_num, HR9⟩
                  case measure => simp [intOf]; omega
        · skip
          · obtain rfl : q = n := by omega
            have hS1 : (S1 d x).length = q := by rw [S1_length, HL.out]; rfl
            rw [trow_full hS1, List.take_of_length_le (by omega)] at hR
            have HPn := Lib.hid (part1_nextB HFd.out HP.out HXL.out)
            have HRow := Lib.hid (rows_next HP.out HXL.out)
            have HFlag : Hid (((addAll l (S1 d x)).take (k + 1)).map (finA d) = (l.take k).map (finA d) ++ [finA d x]) := flags_next (S := S1 d) (finA d) HXL.out
            have hLk : (addAll l (S1 d x))[k]? = some x := by
              obtain ⟨m, hm⟩ := addAll_prefix l (S1 d x)
              rw [hm, List.getElem?_append_left hlt]; exact HXL.out
            have hx1 := HX1.out
            have hn40 := HPn.out.n40
            clear hS1 HP HR
            generalize hrw : (l.take k).map (srow (S1 d) l) = rws at *
            generalize hbs : (l.take k).map (finA d) = bs at *
            have HLen : Hid ((rr.map (·.1)).length < 1099511627776 ∧ bs.length < 17592186044416) := by
              have h1 := congrArg List.length HRR.out
              rw [← hrw, List.length_map, List.length_map, List.length_take] at h1
              have h2 := congrArg List.length hbs
              rw [List.length_map, List.length_take] at h2
              exact ⟨by rw [List.length_map]; omega, by omega⟩
            clear hbs hrw
            generalize hl' : addAll l (S1 d x) = l' at *
            clear hl'
            obtain ⟨Al', cl', hlv, hla⟩ := own_read hR (v := u4) (l := ints l') (by simp)
            obtain ⟨Ar', cr', hrv, _⟩ := own_read hR (v := u6) (l := srow (S1 d) l' x) (by simp)
            rw [ints_length] at hlv
            subst hlv hrv
            obtain ⟨adl, e1, hxb, hxc⟩ := cells_int hla (ints_get hLk)
            subst e1
            have hkL : k < l'.length := (List.getElem?_eq_some_iff.1 hLk).1
            have HLk := Lib.hid hLk
            clear hla hLk hxc hxb
            have HBA := Lib.hid (HD.out.fins.at_ (HG.out.fin_at hx1))
            obtain ⟨adf, eF, hfa, hcf, _⟩ := HBA.out
            subst eF
            have HR3 := Lib.hid (hR.re [2, 0, 1, 3, 4, 5] 6 rfl (by decide))
            obtain ⟨hg2, hgf2⟩ := hR.dcell (g := g) (l := [.int .i64 (q : Int), .int .i64 0, nv, fv]) (j := 2) (by simp) rfl
            rw [HN.out] at hx1
            have e2 : (x : Int) < (m : Int) := by omega
            have e5 : (k : Int) < (l'.length : Int) := by omega
            generalize hr9 : (l'.take (k + 1)).map (srow (S1 d) l') = rws9 at *
            have HR9 := Lib.hid hr9
            generalize hs9 : srow (S1 d) l' x = row at *
            clear hr9 hs9 hR hbi hcf
            go_wp2_with (at_builtin; refine own_row (by rfl) _ _ (by rfl) (by rfl) HR3.out (by rfl) (by rfl) HLen.out.1 ?_)
            intro g8 cap8 w8 ho8
            have HB9 : Hid (Build w1 (w8.setCell ⟨g, 2, none⟩ (.slice (some ⟨g8, 0, none⟩) (rr.length + 1) cap8)) g (eDfa (w.heap.size + 1) zero4 :: [eInts (.slice (some adl) l'.length cl') (ints l')]) (q : Int) 0 (rws ++ [row]) bs (.slice (some ⟨g8, 0, none⟩) (rr.length + 1) cap8) fv (rr ++ [(.slice Ar' row.length cr', row)])) :=
              build_row HRR.out (ho8.re [0, 2, 3, 4, 5, 1] 6 rfl (by decide)) rfl
            obtain ⟨hk8, hf8⟩ := ho8.dcell (g := g) (l := [.int .i64 (q : Int), .int .i64 0, nv, fv]) (j := 2) (by simp) rfl
            rw [← HRow.out] at HB9
            clear ho8 hg2 hgf2 HR3 HRow hc0 HXi
            go_wp2_with fail
            generalize hw9 : w8.setCell ⟨g, 2, none⟩ (.slice (some ⟨g8, 0, none⟩) (rr.length + 1) cap8) = w9 at *
            clear hw9 hk8 hf8
            generalize (Value.slice (some ⟨g8, 0, none⟩) (rr.length + 1) cap8) = nv9 at *
            generalize (rr ++ [(Value.slice Ar' row.length cr', row)]) = rr9 at *
            have HO5 := Lib.hid HB9.out.2.two
            generalize finA d x = b at *
            have HK : Hid (∀ W es fs, Own w1 W es fs → eInts (.slice (some adl) l'.length cl') (ints l') ∈ es ++ fs ∧ eDfa g [.int .i64 (q : Int), .int .i64 0, nv9, fv] ∈ es ++ fs → W.cell? ⟨g, 3, none⟩ = some fv ∧ W.cell? ⟨w.heap.size, 3, none⟩ = some (.slice (some adf) m cf) ∧ W.cell? (adl.add k) = some (.int .i64 (x : Int)) ∧ W.cell? (adf.add x) = some (.bool b)) := fun W es fs hW hm => by
              obtain ⟨hm, hm2⟩ := hm
              obtain ⟨ad1, e1, _, c1, _⟩ := HBA.out
              cases e1
              obtain ⟨A7, c7, hv7, hA7⟩ := own_read hW hm
              obtain ⟨adl7, e7, _, hc7⟩ := cells_int hA7 (ints_get HLk.out)
              subst e7
              simp only [Value.slice.injEq, Option.some.injEq] at hv7
              obtain ⟨rfl, _⟩ := hv7
              exact ⟨(hW.dcell hm2 rfl).1, (HX.out.on hW.below).c3, hc7, (hW.below.cell (by rw [Wd.block_add]; assumption)).trans c1⟩
            refine wp_region_Z (fun W => W.cell? ⟨g, 3, none⟩ = some fv ∧ W.cell? ⟨w.heap.size, 3, none⟩ = some (.slice (some adf) m cf) ∧ W.cell? (adl.add k) = some (.int .i64 (x : Int)) ∧ W.cell? (adf.add x) = some (.bool b)) 13 (by kernel_rfl) (HK.out _ _ _ (HB9.out.2.on (by go_grown)) (by simp)) (fun hHeld => ?_)
            refine wpZ_take (i := 0) (v := ?_) rfl (by kernel_rfl) (by kernel_rfl) (by kernel_rfl) (by kernel_rfl) (fun _ _ _ h => h) (Or.inl ⟨by rfl, ?_⟩) hHeld ?_
            rotate_left
            · (go_light; intro w9 hSw; (try dsimp only at hSw); go_simp; try with_reducible rfl)
            try simp only [Act.put, List.setIfInBounds_toArray, List.set_cons_zero, List.set_cons_succ]
            refine wpZ_take (i := 1) (v := ?_) rfl (by kernel_rfl) (by kernel_rfl) (by kernel_rfl) (by kernel_rfl) (fun _ _ _ h => h) (Or.inl ⟨by rfl, ?_⟩) hHeld ?_
            rotate_left
            · (go_light; intro w9 hSw; (try dsimp only at hSw); go_simp; try with_reducible rfl)
            try simp only [Act.put, List.setIfInBounds_toArray, List.set_cons_zero, List.set_cons_succ]
            refine wpZ_take (i := 2) (v := ?_) rfl (by kernel_rfl) (by kernel_rfl) (by kernel_rfl) (by kernel_rfl) (fun _ _ _ h => h) (Or.inl ⟨by rfl, ?_⟩) hHeld ?_
            rotate_left
            · (go_light; intro w9 hSw; (try dsimp only at hSw); go_simp; try with_reducible rfl)
            try simp only [Act.put, List.setIfInBounds_toArray, List.set_cons_zero, List.set_cons_succ]
            refine wpZ_take (i := 3) (v := ?_) rfl (by kernel_rfl) (by kernel_rfl) (by kernel_rfl) (by kernel_rfl) (fun _ _ _ h => h) (Or.inl ⟨by rfl, ?_⟩) hHeld ?_
            rotate_left
            · (go_light; intro w9 hSw; (try dsimp only at hSw); go_simp; try with_reducible rfl)
            try simp only [Act.put, List.setIfInBounds_toArray, List.set_cons_zero, List.set_cons_succ]
            refine wpZ_take (i := 4) (v := ?_) rfl (by kernel_rfl) (by kernel_rfl) (by kernel_rfl) (by kernel_rfl) (fun _ _ _ h => h) (Or.inl ⟨by rfl, ?_⟩) hHeld ?_
            rotate_left
            · (go_light; intro w9 hSw; (try dsimp only at hSw); go_simp; try with_reducible rfl)
            try simp only [Act.put, List.setIfInBounds_toArray, List.set_cons_zero, List.set_cons_succ]
            refine wpZ_take (i := 5) (v := ?_) rfl (by kernel_rfl) (by kernel_rfl) (by kernel_rfl) (by kernel_rfl) (fun _ _ _ h => h) (Or.inl ⟨by rfl, ?_⟩) hHeld ?_
            rotate_left
            · (go_light; intro w9 hSw; (try dsimp only at hSw); go_simp; try with_reducible rfl)
            try simp only [Act.put, List.setIfInBounds_toArray, List.set_cons_zero, List.set_cons_succ]
            refine wpZ_take (i := 6) (v := ?_) rfl (by kernel_rfl) (by kernel_rfl) (by kernel_rfl) (by kernel_rfl) (fun _ _ _ h => h) (Or.inl ⟨by rfl, ?_⟩) hHeld ?_
            rotate_left
            · (go_light; intro w9 hSw; (try dsimp only at hSw); go_simp; try with_reducible rfl)
            try simp only [Act.put, List.setIfInBounds_toArray, List.set_cons_zero, List.set_cons_succ]
            refine wpZ_take (i := 7) (v := ?_) rfl (by kernel_rfl) (by kernel_rfl) (by kernel_rfl) (by kernel_rfl) (fun _ _ _ h => h) (Or.inl ⟨by rfl, ?_⟩) hHeld ?_
            rotate_left
            · (go_light; intro w9 hSw; (try dsimp only at hSw); go_simp; try with_reducible rfl)
            try simp only [Act.put, List.setIfInBounds_toArray, List.set_cons_zero, List.set_cons_succ]
            refine wpZ_take (i := 8) (v := ?_) rfl (by kernel_rfl) (by kernel_rfl) (by kernel_rfl) (by kernel_rfl) (fun _ _ _ h => h) (Or.inl ⟨by rfl, ?_⟩) hHeld ?_
            rotate_left
            · (go_light; intro w9 hSw; (try dsimp only at hSw); go_simp; try with_reducible rfl)
            try simp only [Act.put, List.setIfInBounds_toArray, List.set_cons_zero, List.set_cons_succ]
            refine wpZ_take (i := 9) (v := ?_) rfl (by kernel_rfl) (by kernel_rfl) (by kernel_rfl) (by kernel_rfl) (fun _ _ _ h => h) (Or.inl ⟨by rfl, ?_⟩) hHeld ?_
            rotate_left
            · (go_light; intro w9 hSw; (try dsimp only at hSw); go_simp; try with_reducible rfl)
            try simp only [Act.put, List.setIfInBounds_toArray, List.set_cons_zero, List.set_cons_succ]
            refine wpZ_one (i := 10) rfl (by kernel_rfl) (fun K hK => ?_)
            go_simp
            refine hK.out _ _ (fun _ => HK.out _ _ _ (HB9.out.2.on (by go_grown)) (by simp)) (fun hHeld9 => ?_)
            replace hHeld := hHeld9 (by decide)
            clear hHeld9
            clear hK K
            try simp only [Act.put, List.setIfInBounds_toArray, List.set_cons_zero, List.set_cons_succ]
            refine wpZ_one (i := 11) rfl (by kernel_rfl) (fun K hK => ?_)
            refine step_own_bool (by rfl) _ _ (by rfl) (by rfl) (HO5.out.on (Below.refl _ _).drew) (by rfl) HLen.out.2 ?_
            intro g6 cap6 w6 ho6
            refine hK.out _ _ (fun _ => HK.out _ _ _ ho6.two (by simp)) (fun hHeld9 => ?_)
            replace hHeld := hHeld9 (by decide)
            clear hHeld9
            clear hK K
            try simp only [Act.put, List.setIfInBounds_toArray, List.set_cons_zero, List.set_cons_succ]
            refine wpZ_take (i := 12) (v := ?_) rfl (by kernel_rfl) (by kernel_rfl) (by kernel_rfl) (by kernel_rfl) (fun _ _ _ h => h) (Or.inl ⟨by rfl, ?_⟩) hHeld ?_
            rotate_left
            · (go_light; intro w9 hSw; (try dsimp only at hSw); go_simp; try with_reducible rfl)
            try simp only [Act.put, List.setIfInBounds_toArray, List.set_cons_zero, List.set_cons_succ]
            refine wpZ_one (i := 13) rfl (by kernel_rfl) (fun K hK => ?_)
            have hk4 := (ho6.dcell (g := g) (l := [.int .i64 (q : Int), .int .i64 0, nv9, fv]) (j := 3) (by simp) rfl).2
            go_simp
            refine hK.out _ _ (fun k => absurd rfl k) (fun _ => ?_)
            clear hK K
            try simp only [Act.put, List.setIfInBounds_toArray, List.set_cons_zero, List.set_cons_succ]
            refine wpZ_done (by kernel_rfl) ?_ _
            have HB6 : Hid (UInv w1 (w6.setCell ⟨g, 3, none⟩ (.slice (some ⟨g6, 0, none⟩) (bs.length + 1) cap6)) g (w.heap.size + 1) d p q (k + 1) (.slice (some adl) l'.length cl')) := by
              have HBf := build_flag HB9.out.1 ho6 rfl
              refine ⟨l', nv9, .slice (some ⟨g6, 0, none⟩) (bs.length + 1) cap6, rr9, HPn.out, ?_⟩
              rw [HFlag.out, HR9.out]
              exact HBf
            clear HO5 ho6 HB9 HK hk4 hHeld HBA
            go_wp2
            go_roundw
            case rel => exact ⟨k + 1, by omega, by go_num, HB6⟩
            case measure => simp [intOf]; omega
    · as_aux_lemma =>
        obtain rfl : k = l.length := by omega
        have HRs : Hid (rset d p = l) := by unfold Hid rset; rw [HP.out.stop (Nat.le_refl _)]; rfl
        rw [List.take_length] at HBd
        have HSm := Lib.hid (srow_small (S1 d) l (by omega))
        rw [HRs.out, HL.out] at HTr
        clear HP HRs
        generalize l.map (srow (S1 d) l) = rows at *
        generalize l.map (finA d) = bs at *
        obtain ⟨A2, c2, F2, cf2, e1, e2⟩ := HBd.out.form
        obtain ⟨hg0, hg1, hg2, hg3⟩ := HBd.out.str
        obtain ⟨hr0, hf0⟩ := HBd.out.res (j := 0) (by omega)
        obtain ⟨hr1, hf1⟩ := HBd.out.res (j := 1) (by omega)
        obtain ⟨hr2, hf2⟩ := HBd.out.res (j := 2) (by omega)
        obtain ⟨hr3, hf3⟩ := HBd.out.res (j := 3) (by omega)
        subst e1 e2
        have HEnd := Lib.hid (build_end HBd.out HSm.out ⟨by omega, by omega⟩ ⟨by omega, by omega⟩ rfl)
        generalize rows.length = nr at *
        generalize bs.length = nb' at *
        go_wp2
        obtain ⟨k1, k3, k4, k5, k6⟩ := HEnd.out
        exact bodyPost_ret (res_one rfl _ rfl k3 k4 k5 k6) rfl ⟨_, rfl, by rw [HTr.out]; exact k1.base HB.out⟩
end Go.Proofs.YtbciefeipiphiaaDoor.Rc

namespace Go.Proofs.YtbciefeipiphiaaDoor.Sm
open Go.RowKit Go.IntWalk Go.Proofs.YtbciefeipiphiaaDoor.Wd Go.Proofs.YtbciefeipiphiaaDoor.Wo Go.Proofs.YtbciefeipiphiaaDoor.Df Go.Proofs.YtbciefeipiphiaaDoor.Rc
theorem kin_smallB {d : Aut} (g : Df.GoodB d) {t : Nat} (h : t < d.next.length) : Small (kinI d t) := by
  have h1 := (stand_specB g h).2.1
  have := g.n40
  unfold kinI
  exact ⟨by omega, by omega⟩
end Go.Proofs.YtbciefeipiphiaaDoor.Sm

namespace Go.Proofs.YtbciefeipiphiaaDoor.Sm
open Go.RowKit Go.IntWalk Go.Proofs.YtbciefeipiphiaaDoor.Wd Go.Proofs.YtbciefeipiphiaaDoor.Wo Go.Proofs.YtbciefeipiphiaaDoor.Df Go.Proofs.YtbciefeipiphiaaDoor.Rc
theorem quo_smallB {d : Aut} (g : Df.GoodB d) : ∀ r ∈ (quo d).next, ∀ x ∈ r, Small x := good_smallB (quo_goodB g)
end Go.Proofs.YtbciefeipiphiaaDoor.Sm

namespace Go.Proofs.YtbciefeipiphiaaDoor.Sm
open Go.RowKit Go.IntWalk Go.Proofs.YtbciefeipiphiaaDoor.Wd Go.Proofs.YtbciefeipiphiaaDoor.Wo Go.Proofs.YtbciefeipiphiaaDoor.Df Go.Proofs.YtbciefeipiphiaaDoor.Rc
set_option linter.unusedSimpArgs false in
set_option maxRecDepth 100000 in
set_option maxHeartbeats 4000000 in
theorem rmin_anyB (v : Value) (d : Aut) (w : World) (h : DfaAt w w.heap.size v d) (hg : Df.GoodB d) (hf0 : found (S1 (quo d)) (quo d).s.toNat ≠ none) :
    Calls Tryd.prog 24 #[v] w fun e w' => Hid (∃ x, e = .returned x ∧ DfaOwn w w' x (minA d)) := by
  have HV := h
  have HF0 := Lib.hid hf0
  clear hf0
  obtain ⟨L, s, A, c, F, cf, rfl, h⟩ := h
  obtain ⟨w1, hw1, hB1, hX, hd1⟩ := box_dfa w h
  have HB := Lib.hid hB1
  have HX := Lib.hid hX
  have HW := Lib.hid hw1
  have HD := Lib.hid hd1
  have hres := below_alloc w1 (.cells #[.int .i64 0, .int .i64 0, .slice none 0 0, .slice none 0 0] 25)
  have HX2 := Lib.hid (hX.on hres)
  have hc0 := HX2.out.c0
  have hc1 := HX2.out.c1
  have hc2 := HX2.out.c2
  have hc3 := HX2.out.c3
  have HO := Lib.hid ((own_start w1).dfa (.int .i64 0) (.int .i64 0) (.slice none 0 0) (.slice none 0 0))
  have hsz : w1.heap.size = w.heap.size + 1 := by rw [hw1]; simp
  rw [hsz] at HO
  have HG := Lib.hid hg
  have HT := Lib.hid (rapart_anyB _ _ d d _ ((HV.on hB1).on hres) ((HV.on hB1).on hres) (Good2B.self hg))
  have HRes := Lib.hid hres
  obtain ⟨p, hp⟩ := Int.eq_ofNat_of_zero_le (show 0 ≤ s by have := hg.st.1; have := h.es; omega)
  obtain ⟨n, hn⟩ := Int.eq_ofNat_of_zero_le (show 0 ≤ L by have := hg.l1; have := h.eL; omega)
  subst hp hn
  have hps : d.s.toNat = p := by have := h.es; omega
  have hsl : p < d.next.length := by have := hg.s_lt; omega
  have HL : Hid (d.L = (n : Int)) := h.eL
  have HPs := Lib.hid hps
  have hn6 : n ≤ 6 := by have := hg.l6; have := h.eL; omega
  have h40 := hg.n40
  have hfn := hg.fin
  clear h hd1 hw1 hX hB1 hg hps hres HV
  generalize hm : d.fin.length = m at *
  generalize hN : d.next.length = N at *
  have HN := Lib.hid hN
  have hmN : N ≤ m := by omega
  have hmN2 : m ≤ N := by omega
  have HM := Lib.hid hm
  clear hN hm hfn
  go_enter Tryd.func24, Tryd.ntmps24
  go_wp2_with fail
  rw [← HW.out]
  clear HW
  refine HT.out.mono ?_
  rintro e w2 he
  obtain ⟨At, ct, rs, rfl, hlen, hrows, htab, hbel⟩ := he.out
  have HO2 := Lib.hid (HO.out.on hbel)
  have HB2 := Lib.hid (HRes.out.trans (hbel.mono HRes.out.size))
  have HLen := Lib.hid hlen
  have HRows := Lib.hid hrows
  have HTab := Lib.hid htab
  clear hc0 hc1 hc2 hc3 HX2 he hlen hrows htab hbel HT HO HRes
  have HX2 := Lib.hid (HX.out.on HB2.out)
  have HD2 := Lib.hid (HD.out.on HB2.out)
  clear HX HD
  have hc2 := HX2.out.c2
  go_wp2_with (at_make; refine mk_ints rfl _ _ rfl N rfl rfl (by omega) ?_)
  intro w4 hm4
  have HS0 : Hid (Own w2 w4 [eInts (rowV w2.heap.size N) (iF N (stF d 0))] []) := by rw [← stF_start]; exact Own.of_nums hm4
  clear hm4 hc2
  obtain ⟨gs, hgs⟩ : ∃ gs, gs = w2.heap.size := ⟨_, rfl⟩
  rw [← hgs] at HS0
  rw [← hgs]
  clear hgs
  go_wp2
  go_loopw [5] (fun i wr => ∃ (s : Nat), s ≤ N ∧ i = .int .i64 s ∧ Hid (Own w2 wr [eInts (rowV gs N) (iF N (stF d s))] [])) (fun i _ => N - (intOf i).toNat)
  case atStart => exact ⟨0, by omega, rfl, HS0⟩
  case round =>
    clear HS0
    obtain ⟨s, hs, rfl, HS⟩ := hrel
    by_cases hsN : s < N
    · as_aux_lemma =>
        have HsN : Hid (s < d.next.length) := by unfold Hid; rw [HN.out]; exact hsN
        obtain ⟨hk1, hk2, _, hk4⟩ := kin_specB (Good2B.self HG.out) HsN.out HsN.out (Alike.refl d s)
        have hk3 := (stand_specB HG.out HsN.out).2.2
        rw [HN.out] at hk2
        have HNo : Hid (∀ t, t < kin d d s → ∃ j : Nat, lev d d s t = (j : Int)) := fun t ht => by
          rcases lev_cases d d s t with e | e
          · exact absurd ((lev_neverB (Good2B.self HG.out) HsN.out (by rw [HN.out]; omega)).1 e) (hk4 t ht)
          · exact e
        have HYes : Hid (lev d d s (kin d d s) = -1) := (lev_neverB (Good2B.self HG.out) HsN.out (by rw [HN.out]; omega)).2 hk3
        have HS2 : Hid (Own w2 (wr.setCell ⟨gs, s, none⟩ (.int .i64 ((kin d d s : Nat) : Int))) [eInts (rowV gs N) (iF N (stF d (s + 1)))] []) := by
          rw [← stF_step]; exact own_ints_set HS.out (iF_length _ _) s _
        obtain ⟨hq1, hq2⟩ := own_ints_cell (g := gs) (n := N) (cap := N) (l := iF N (stF d s)) HS.out (List.mem_append_left _ List.mem_cons_self) (iF_length _ _) (iF_get _ hsN)
        have HTw := Lib.hid (HTab.out.on HS.out.below)
        clear hk1 hk3 hk4 HS
        generalize stF d s s = old at *
        generalize hK : kin d d s = K at *
        clear hK
        go_wp2
        go_loop [6] (fun i => ∃ (t : Nat), t ≤ K ∧ i = .int .i64 t) (fun i => K - (intOf i).toNat)
        case atStart => exact ⟨0, by omega, rfl⟩
        case round =>
          obtain ⟨t, ht, rfl⟩ := hrel
          obtain ⟨adt, r0, eT, h1, h2⟩ := HTw.out.at_ HRows.out (x := s) (y := t) (by rw [HLen.out]; exact hsN) (by omega)
          subst eT
          have e1 : (s : Int) < (N : Int) := by omega
          have e2 : (t : Int) < (N : Int) := by omega
          by_cases htK : t < K
          · obtain ⟨j, hj⟩ := HNo.out t htK
            rw [hj] at h2
            clear hj
            go_wp2
            go_round
            case rel => exact ⟨t + 1, by omega, by go_num⟩
            case measure => simp [intOf]; omega
          · obtain rfl : t = K := by omega
            rw [HYes.out] at h2
            go_wp2
            go_roundw
            case rel => exact ⟨s + 1, by omega, by go_num, HS2⟩
            case measure => simp [intOf]; omega
    · obtain rfl : s = N := by omega
      have HSt : Hid (Own w2 wr [eInts (rowV gs s) (iF s (kinI d))] []) := by rw [← stF_full]; exact HS.out
      clear HS
      have hpl := hsl
      have hc0 := (HX2.out.on HSt.out.below).c0
      have hc1 := (HX2.out.on HSt.out.below).c1
      have hkp := (own_ints_cell (g := gs) (n := s) (cap := s) (l := iF s (kinI d)) HSt.out (List.mem_append_left _ List.mem_cons_self) (iF_length _ _) (iF_get _ hsl)).1
      have e1 : (p : Int) < (s : Int) := by omega
      generalize hkk : kinI d p = kp at *
      have HK := Lib.hid hkk
      clear hkk
      have HK10 : Hid (∀ W es fs, Own w2 W es fs → eInts (rowV gs s) (iF s (kinI d)) ∈ es ++ fs → W.cell? ⟨w.heap.size, 0, none⟩ = some (.int .i64 (n : Int)) ∧ W.cell? ⟨w.heap.size, 1, none⟩ = some (.int .i64 (p : Int)) ∧ W.cell? ⟨gs, p, none⟩ = some (.int .i64 kp)) := fun W es fs hW hm => by
        rw [← HK.out]
        exact ⟨(HX2.out.on hW.below).c0, (HX2.out.on hW.below).c1, (own_ints_cell (g := gs) (n := s) (cap := s) (l := iF s (kinI d)) hW hm (iF_length _ _) (iF_get _ hpl)).1⟩
      have HS3 := Lib.hid ((HSt.out.dfa (.int .i64 0) (.int .i64 0) (.slice none 0 0) (.slice none 0 0)).on (Below.refl _ _).drew)
      clear hc0 hc1 hkp
      go_wp2_with fail
      refine wp_region_Z (fun W => W.cell? ⟨w.heap.size, 0, none⟩ = some (.int .i64 (n : Int)) ∧ W.cell? ⟨w.heap.size, 1, none⟩ = some (.int .i64 (p : Int)) ∧ W.cell? ⟨gs, p, none⟩ = some (.int .i64 kp)) 9 (by kernel_rfl) (HK10.out _ _ _ (HSt.out.on (Below.refl _ _).drew) (by simp)) (fun hHeld => ?_)
      refine wpZ_take (i := 0) (v := ?_) rfl (by kernel_rfl) (by kernel_rfl) (by kernel_rfl) (by kernel_rfl) (fun _ _ _ h => h) (Or.inl ⟨by rfl, ?_⟩) hHeld ?_
      rotate_left
      · (go_light; intro w9 hSw; (try dsimp only at hSw); go_simp; try with_reducible rfl)
      try simp only [Act.put, List.setIfInBounds_toArray, List.set_cons_zero, List.set_cons_succ]
      refine wpZ_take (i := 1) (v := ?_) rfl (by kernel_rfl) (by kernel_rfl) (by kernel_rfl) (by kernel_rfl) (fun _ _ _ h => h) (Or.inl ⟨by rfl, ?_⟩) hHeld ?_
      rotate_left
      · (go_light; intro w9 hSw; (try dsimp only at hSw); go_simp; try with_reducible rfl)
      try simp only [Act.put, List.setIfInBounds_toArray, List.set_cons_zero, List.set_cons_succ]
      refine wpZ_take (i := 2) (v := ?_) rfl (by kernel_rfl) (by kernel_rfl) (by kernel_rfl) (by kernel_rfl) (fun _ _ _ h => h) (Or.inl ⟨by rfl, ?_⟩) hHeld ?_
      rotate_left
      · (go_light; intro w9 hSw; (try dsimp only at hSw); go_simp; try with_reducible rfl)
      try simp only [Act.put, List.setIfInBounds_toArray, List.set_cons_zero, List.set_cons_succ]
      refine wpZ_take (i := 3) (v := ?_) rfl (by kernel_rfl) (by kernel_rfl) (by kernel_rfl) (by kernel_rfl) (fun _ _ _ h => h) (Or.inl ⟨by rfl, ?_⟩) hHeld ?_
      rotate_left
      · (go_light; intro w9 hSw; (try dsimp only at hSw); go_simp; try with_reducible rfl)
      try simp only [Act.put, List.setIfInBounds_toArray, List.set_cons_zero, List.set_cons_succ]
      refine wpZ_take (i := 4) (v := ?_) rfl (by kernel_rfl) (by kernel_rfl) (by kernel_rfl) (by kernel_rfl) (fun _ _ _ h => h) (Or.inl ⟨by rfl, ?_⟩) hHeld ?_
      rotate_left
      · (go_light; intro w9 hSw; (try dsimp only at hSw); go_simp; try with_reducible rfl)
      try simp only [Act.put, List.setIfInBounds_toArray, List.set_cons_zero, List.set_cons_succ]
      refine wpZ_take (i := 5) (v := ?_) rfl (by kernel_rfl) (by kernel_rfl) (by kernel_rfl) (by kernel_rfl) (fun _ _ _ h => h) (Or.inl ⟨by rfl, ?_⟩) hHeld ?_
      rotate_left
      · (go_light; intro w9 hSw; (try dsimp only at hSw); go_simp; try with_reducible rfl)
      try simp only [Act.put, List.setIfInBounds_toArray, List.set_cons_zero, List.set_cons_succ]
      refine wpZ_take (i := 6) (v := ?_) rfl (by kernel_rfl) (by kernel_rfl) (by kernel_rfl) (by kernel_rfl) (fun _ _ _ h => h) (Or.inl ⟨by rfl, ?_⟩) hHeld ?_
      rotate_left
      · (go_light; intro w9 hSw; (try dsimp only at hSw); go_simp; try with_reducible rfl)
      try simp only [Act.put, List.setIfInBounds_toArray, List.set_cons_zero, List.set_cons_succ]
      refine wpZ_take (i := 7) (v := ?_) rfl (by kernel_rfl) (by kernel_rfl) (by kernel_rfl) (by kernel_rfl) (fun _ _ _ h => h) (Or.inl ⟨by rfl, ?_⟩) hHeld ?_
      rotate_left
      · (go_light; intro w9 hSw; (try dsimp only at hSw); go_simp; try with_reducible rfl)
      try simp only [Act.put, List.setIfInBounds_toArray, List.set_cons_zero, List.set_cons_succ]
      refine wpZ_one (i := 8) rfl (by kernel_rfl) (fun K hK => ?_)
      go_simp
      refine hK.out _ _ (fun _ => HK10.out _ _ _ HS3.out (by simp)) (fun hHeld9 => ?_)
      replace hHeld := hHeld9 (by decide)
      clear hHeld9
      clear hK K
      try simp only [Act.put, List.setIfInBounds_toArray, List.set_cons_zero, List.set_cons_succ]
      refine wpZ_one (i := 9) rfl (by kernel_rfl) (fun K hK => ?_)
      obtain ⟨hr0, hf0⟩ := HS3.out.dcell (g := wr.heap.size) (l := zero4) (j := 0) (by simp) rfl
      obtain ⟨hr1, hf1⟩ := HS3.out.dcell (g := wr.heap.size) (l := zero4) (j := 1) (by simp) rfl
      obtain ⟨hr2, hf2⟩ := HS3.out.dcell (g := wr.heap.size) (l := zero4) (j := 2) (by simp) rfl
      obtain ⟨hr3, hf3⟩ := HS3.out.dcell (g := wr.heap.size) (l := zero4) (j := 3) (by simp) rfl
      go_simp
      refine hK.out _ _ (fun k => absurd rfl k) (fun _ => ?_)
      clear hK K
      try simp only [Act.put, List.setIfInBounds_toArray, List.set_cons_zero, List.set_cons_succ]
      refine wpZ_done (by kernel_rfl) ?_ _
      have HQ0 : Hid (QM w2 ((wr.alloc (.cells #[.int .i64 (n : Int), .int .i64 kp, .slice none 0 0, .slice none 0 0] 25)).drew) wr.heap.size gs s d n p 0) := by
        have h9 := (HSt.out.dfa (.int .i64 (n : Int)) (.int .i64 kp) (.slice none 0 0) (.slice none 0 0)).on (Below.refl _ _).drew
        refine ⟨.slice none 0 0, .slice none 0 0, [], rfl, ?_⟩
        rw [HK.out]
        exact (h9.nil 4 1).nil 27 1
      clear HS3 HSt HK10 hHeld hr0 hr1 hr2 hr3 hf0 hf1 hf2 hf3
      go_wp2
      generalize ((wr.alloc (.cells #[.int .i64 (n : Int), .int .i64 kp, .slice none 0 0, .slice none 0 0] 25)).drew) = wz at *
      generalize wr.heap.size = g at *
      go_loopw [8] (fun i wr => ∃ (k : Nat), k ≤ s ∧ i = .int .i64 k ∧ Hid (QM w2 wr g gs s d n p k)) (fun i _ => s - (intOf i).toNat)
      case atStart => exact ⟨0, by omega, rfl, HQ0⟩
      case round =>
        clear HQ0
        obtain ⟨k, hk, rfl, HS⟩ := hrel
        obtain ⟨nv, fv, rr, hrr, hown⟩ := HS.out
        have HRR := Lib.hid hrr
        have HOw := Lib.hid hown
        clear hrr hown HS
        by_cases hks : k < s
        · have HKs : Hid (k < d.next.length) := by unfold Hid; rw [HN.out]; exact hks
          have HR0 : Hid (QR w2 wr g gs s d n p k nv fv rr (.slice none 0 0) 0) := HOw.out.nil 3 1
          clear HOw
          go_wp2
          go_loopw [9, 10] (fun rv i wi => ∃ (q : Nat), q ≤ n ∧ i = .int .i64 q ∧ Hid (QR w2 wi g gs s d n p k nv fv rr rv q)) (fun _ i _ => n - (intOf i).toNat)
          case atStart => exact ⟨0, by omega, rfl, HR0⟩
          case round =>
            clear HR0
            obtain ⟨q, hq, rfl, HR⟩ := hrel
            have hown := HR.out
            unfold QR at hown
            have hbi := hown.below
            have hc0 := (HX2.out.on hbi).c0
            by_cases hqn : q < n
            · as_aux_lemma =>
                obtain ⟨ad, ar, mr, cr, eA, hadb, hcell, hjm, harb, hac⟩ := (HD2.out.on hbi).step_atB HG.out HKs.out (i := q) (by rw [HL.out]; omega)
                subst eA
                have hst := HG.out.step_lt HKs.out (a := q) (by rw [HL.out]; omega)
                rw [HN.out] at hst
                have HS1 := Lib.hid (S1_get d k (c := q) (by rw [HL.out]; omega))
                have hkc := (own_ints_cell (g := gs) (n := s) (cap := s) (l := iF s (kinI d)) hown (List.mem_append_left _ (by simp)) (iF_length _ _) (iF_get _ hst)).1
                have hca := (HX2.out.on hbi).c2
                have hlen := rowQ_len d k q
                have hl1 : (rowQ d k q).length < 17592186044416 := by omega
                have HOn := Lib.hid hown
                have HNx : Hid (rowQ d k (q + 1) = rowQ d k q ++ [kinI d (Df.step d k q)]) := rowQ_step HS1.out
                have e1 : (k : Int) < (s : Int) := by omega
                have e2 : (q : Int) < (mr : Int) := by omega
                have e3 : (Df.step d k q : Int) < (s : Int) := by omega
                clear hown hbi HR hadb harb HS1 hlen
                generalize hrq : rowQ d k q = rq at *
                generalize kinI d (Df.step d k q) = kz at *
                generalize Df.step d k q = u at *
                go_wp2_with (at_builtin; refine own_int (by rfl) _ _ (by rfl) (by rfl) HOn.out (by rfl) hl1 ?_)
                intro g8 cap8 w8 ho8
                have HE : Hid (QR w2 w8 g gs s d n p k nv fv rr (.slice (some ⟨g8, 0, none⟩) (rq.length + 1) cap8) (q + 1)) := by
                  unfold Hid QR
                  rw [HNx.out]
                  exact ho8
                clear ho8 HOn hcell hac hkc hca hc0
                go_wp2
                go_roundw
                case rel => exact ⟨q + 1, by omega, by go_num, HE⟩
                case measure => simp [intOf]; omega
            · as_aux_lemma =>
                obtain rfl : q = n := by omega
                have hS1 : (S1 d k).length = q := by rw [S1_length, HL.out]; rfl
                have hrq : rowQ d k q = (S1 d k).map fun t => ((kin d d t : Nat) : Int) := by unfold rowQ; rw [List.take_of_length_le (by omega)]
                have HRow : Hid ((quo d).next.take (k + 1) = (quo d).next.take k ++ [rowQ d k q]) := by rw [hrq]; exact take_succ' _ (quo_row HKs.out)
                have HFlag : Hid (d.fin.take (k + 1) = d.fin.take k ++ [finA d k]) := take_succ' _ (HG.out.fin_at HKs.out)
                obtain ⟨Ar, cr, hrv, _⟩ := own_read hown (v := u9) (l := rowQ d k q) (by simp)
                subst hrv
                have HLen : Hid ((rr.map (·.1)).length < 1099511627776 ∧ (d.fin.take k).length < 17592186044416) := by
                  have h1 := congrArg List.length HRR.out
                  rw [List.length_map, List.length_take] at h1
                  exact ⟨by rw [List.length_map]; omega, by rw [List.length_take]; omega⟩
                have HO2' := Lib.hid hown.two
                obtain ⟨hg2, hgf2⟩ := hown.dcell (g := g) (l := [.int .i64 (q : Int), .int .i64 (kinI d p), nv, fv]) (j := 2) (by simp) rfl
                obtain ⟨A2, c2, hnv, _⟩ := hown.form (e := eRows nv (rr.map (·.1))) (by simp)
                simp only [eRows, List.length_map] at hnv
                subst hnv
                clear hown HR hS1 hbi hrq
                rw [HK.out] at HO2'
                generalize (quo d).next.take k = rws at *
                generalize d.fin.take k = bs at *
                generalize rowQ d k q = rowx at *
                go_wp2_with (at_builtin; refine own_row (by rfl) _ _ (by rfl) (by rfl) HO2'.out (by rfl) (by rfl) HLen.out.1 ?_)
                intro g8 cap8 w8 ho8
                have HB9 : Hid (Build w2 (w8.setCell ⟨g, 2, none⟩ (.slice (some ⟨g8, 0, none⟩) (rr.length + 1) cap8)) g [eInts (rowV gs s) (iF s (kinI d))] (q : Int) kp (rws ++ [rowx]) bs (.slice (some ⟨g8, 0, none⟩) (rr.length + 1) cap8) fv (rr ++ [(.slice Ar rowx.length cr, rowx)])) :=
                  build_row HRR.out ho8 rfl
                obtain ⟨hk8, hf8⟩ := ho8.dcell (g := g) (l := [.int .i64 (q : Int), .int .i64 kp, .slice A2 rr.length c2, fv]) (j := 2) (by simp) rfl
                rw [← HRow.out] at HB9
                clear ho8 hg2 hgf2 HO2' HRow hc0
                go_wp2_with fail
                generalize hw9 : w8.setCell ⟨g, 2, none⟩ (.slice (some ⟨g8, 0, none⟩) (rr.length + 1) cap8) = w9 at *
                clear hw9 hk8 hf8
                have HBA := Lib.hid (HD2.out.fins.at_ (HG.out.fin_at HKs.out))
                obtain ⟨adf, eF, _, _, _⟩ := HBA.out
                subst eF
                have e7 : (k : Int) < (m : Int) := by omega
                have HO5 := Lib.hid HB9.out.2.two
                generalize (Value.slice (some ⟨g8, 0, none⟩) (rr.length + 1) cap8) = nv9 at *
                generalize (rr ++ [(Value.slice Ar rowx.length cr, rowx)]) = rr9 at *
                generalize finA d k = b at *
                have HKr : Hid (∀ W es fs, Own w2 W es fs → eDfa g [.int .i64 (q : Int), .int .i64 kp, nv9, fv] ∈ es ++ fs → W.cell? ⟨g, 3, none⟩ = some fv ∧ W.cell? ⟨w.heap.size, 3, none⟩ = some (.slice (some adf) m cf) ∧ W.cell? (adf.add k) = some (.bool b)) := fun W es fs hW hm2 => by
                  obtain ⟨ad1, e1, _, c1, _⟩ := HBA.out
                  cases e1
                  exact ⟨(hW.dcell hm2 rfl).1, (HX2.out.on hW.below).c3, (hW.below.cell (by rw [Wd.block_add]; assumption)).trans c1⟩
                refine wp_region_Z (fun W => W.cell? ⟨g, 3, none⟩ = some fv ∧ W.cell? ⟨w.heap.size, 3, none⟩ = some (.slice (some adf) m cf) ∧ W.cell? (adf.add k) = some (.bool b)) 10 (by kernel_rfl) (HKr.out _ _ _ (HB9.out.2.on (by go_grown)) (by simp)) (fun hHeld => ?_)
                refine wpZ_take (i := 0) (v := ?_) rfl (by kernel_rfl) (by kernel_rfl) (by kernel_rfl) (by kernel_rfl) (fun _ _ _ h => h) (Or.inl ⟨by rfl, ?_⟩) hHeld ?_
                rotate_left
                · (go_light; intro w9 hSw; (try dsimp only at hSw); go_simp; try with_reducible rfl)
                try simp only [Act.put, List.setIfInBounds_toArray, List.set_cons_zero, List.set_cons_succ]
                refine wpZ_take (i := 1) (v := ?_) rfl (by kernel_rfl) (by kernel_rfl) (by kernel_rfl) (by kernel_rfl) (fun _ _ _ h => h) (Or.inl ⟨by rfl, ?_⟩) hHeld ?_
                rotate_left
                · (go_light; intro w9 hSw; (try dsimp only at hSw); go_simp; try with_reducible rfl)
                try simp only [Act.put, List.setIfInBounds_toArray, List.set_cons_zero, List.set_cons_succ]
                refine wpZ_take (i := 2) (v := ?_) rfl (by kernel_rfl) (by kernel_rfl) (by kernel_rfl) (by kernel_rfl) (fun _ _ _ h => h) (Or.inl ⟨by rfl, ?_⟩) hHeld ?_
                rotate_left
                · (go_light; intro w9 hSw; (try dsimp only at hSw); go_simp; try with_reducible rfl)
                try simp only [Act.put, List.setIfInBounds_toArray, List.set_cons_zero, List.set_cons_succ]
                refine wpZ_take (i := 3) (v := ?_) rfl (by kernel_rfl) (by kernel_rfl) (by kernel_rfl) (by kernel_rfl) (fun _ _ _ h => h) (Or.inl ⟨by rfl, ?_⟩) hHeld ?_
                rotate_left
                · (go_light; intro w9 hSw; (try dsimp only at hSw); go_simp; try with_reducible rfl)
                try simp only [Act.put, List.setIfInBounds_toArray, List.set_cons_zero, List.set_cons_succ]
                refine wpZ_take (i := 4) (v := ?_) rfl (by kernel_rfl) (by kernel_rfl) (by kernel_rfl) (by kernel_rfl) (fun _ _ _ h => h) (Or.inl ⟨by rfl, ?_⟩) hHeld ?_
                rotate_left
                · (go_light; intro w9 hSw; (try dsimp only at hSw); go_simp; try with_reducible rfl)
                try simp only [Act.put, List.setIfInBounds_toArray, List.set_cons_zero, List.set_cons_succ]
                refine wpZ_take (i := 5) (v := ?_) rfl (by kernel_rfl) (by kernel_rfl) (by kernel_rfl) (by kernel_rfl) (fun _ _ _ h => h) (Or.inl ⟨by rfl, ?_⟩) hHeld ?_
                rotate_left
                · (go_light; intro w9 hSw; (try dsimp only at hSw); go_simp; try with_reducible rfl)
                try simp only [Act.put, List.setIfInBounds_toArray, List.set_cons_zero, List.set_cons_succ]
                refine wpZ_take (i := 6) (v := ?_) rfl (by kernel_rfl) (by kernel_rfl) (by kernel_rfl) (by kernel_rfl) (fun _ _ _ h => h) (Or.inl ⟨by rfl, ?_⟩) hHeld ?_
                rotate_left
                · (go_light; intro w9 hSw; (try dsimp only at hSw); go_simp; try with_reducible rfl)
                try simp only [Act.put, List.setIfInBounds_toArray, List.set_cons_zero, List.set_cons_succ]
                refine wpZ_one (i := 7) rfl (by kernel_rfl) (fun K hK => ?_)
                go_simp
                refine hK.out _ _ (fun _ => HKr.out _ _ _ (HB9.out.2.on (by go_grown)) (by simp)) (fun hHeld9 => ?_)
                replace hHeld := hHeld9 (by decide)
                clear hHeld9
                clear hK K
                try simp only [Act.put, List.setIfInBounds_toArray, List.set_cons_zero, List.set_cons_succ]
                refine wpZ_one (i := 8) rfl (by kernel_rfl) (fun K hK => ?_)
                refine step_own_bool (by rfl) _ _ (by rfl) (by rfl) (HO5.out.on (Below.refl _ _).drew) (by rfl) HLen.out.2 ?_
                intro g6 cap6 w6 ho6
                refine hK.out _ _ (fun _ => HKr.out _ _ _ ho6.two (by simp)) (fun hHeld9 => ?_)
                replace hHeld := hHeld9 (by decide)
                clear hHeld9
                clear hK K
                try simp only [Act.put, List.setIfInBounds_toArray, List.set_cons_zero, List.set_cons_succ]
                refine wpZ_take (i := 9) (v := ?_) rfl (by kernel_rfl) (by kernel_rfl) (by kernel_rfl) (by kernel_rfl) (fun _ _ _ h => h) (Or.inl ⟨by rfl, ?_⟩) hHeld ?_
                rotate_left
                · (go_light; intro w9 hSw; (try dsimp only at hSw); go_simp; try with_reducible rfl)
                try simp only [Act.put, List.setIfInBounds_toArray, List.set_cons_zero, List.set_cons_succ]
                refine wpZ_one (i := 10) rfl (by kernel_rfl) (fun K hK => ?_)
                have hk4 := (ho6.dcell (g := g) (l := [.int .i64 (q : Int), .int .i64 kp, nv9, fv]) (j := 3) (by simp) rfl).2
                go_simp
                refine hK.out _ _ (fun k => absurd rfl k) (fun _ => ?_)
                clear hK K
                try simp only [Act.put, List.setIfInBounds_toArray, List.set_cons_zero, List.set_cons_succ]
                refine wpZ_done (by kernel_rfl) ?_ _
                have HB6 : Hid (QM w2 (w6.setCell ⟨g, 3, none⟩ (.slice (some ⟨g6, 0, none⟩) (bs.length + 1) cap6)) g gs s d q p (k + 1)) := by
                  have HBf := build_flag HB9.out.1 ho6 rfl
                  refine ⟨nv9, .slice (some ⟨g6, 0, none⟩) (bs.length + 1) cap6, rr9, ?_⟩
                  rw [HFlag.out, HK.out]
                  exact HBf
                clear HO5 ho6 HB9 HKr hk4 hHeld HBA
                go_wp2
                go_roundw
                case rel => exact ⟨k + 1, by omega, by go_num, HB6⟩
                case measure => simp [intOf]; omega
        · as_aux_lemma =>
          obtain rfl : k = s := by omega
          have HBd0 : Hid (Build w2 wr g [eInts (rowV gs k) (iF k (kinI d))] (n : Int) kp ((quo d).next.take k) (d.fin.take k) nv fv rr) := ⟨HRR.out, by rw [← HK.out]; exact HOw.out⟩
          have hq1 : (quo d).next.length = k := by rw [quo_len]; exact HN.out
          have hq2 : d.fin.length = k := by rw [HG.out.fin]; exact HN.out
          rw [List.take_of_length_le (by omega), List.take_of_length_le (by omega)] at HBd0
          have HQ : Hid (quo d = ⟨(n : Int), kp, (quo d).next, d.fin⟩) := by
            unfold Hid
            rw [← HK.out, ← HL.out, ← HPs.out]
            rfl
          obtain ⟨A2, c2, F2, cf2, e1, e2⟩ := HBd0.out.form
          subst e1 e2
          have hbw := HBd0.out.2.below
          have hq0 := quo_goodB HG.out
          have HDq : Hid (DfaAt wr wr.heap.size (.agg #[.int .i64 (n : Int), .int .i64 kp, .slice A2 (quo d).next.length c2, .slice F2 d.fin.length cf2]) (quo d)) := by
            have h := own_dfa (nv := .slice A2 (quo d).next.length c2) (fv := .slice F2 d.fin.length cf2) (rs := rr) (bs := d.fin) (L := (n : Int)) (s := kp) HBd0.out.2 (by simp) (fun e he => List.mem_append_right _ he) (by simp)
              (fun p hp => quo_smallB HG.out _ (by rw [← HBd0.out.1]; exact List.mem_map.2 ⟨p, hp, rfl⟩)) ⟨by omega, by omega⟩ (by rw [← HK.out]; exact kin_smallB HG.out (by rw [HN.out]; exact hpl))
            rw [HBd0.out.1, ← HQ.out] at h
            exact h
          have HTr := Lib.hid (rtrim_anyB _ (quo d) wr HDq.out hq0 HF0.out)
          have HOr := Lib.hid (HO2.out.on hbw)
          obtain ⟨hg0, hg1, hg2, hg3⟩ := HBd0.out.str
          clear HBd0 HOw HRR hbw hq0 HDq hq1 hq2
          generalize (quo d).next.length = l1 at *
          generalize d.fin.length = l2 at *
          go_wp2_with fail
          refine HTr.out.mono ?_
          rintro e w7 he
          obtain ⟨x, h6, ho6⟩ := he.out
          subst h6
          obtain ⟨nv, fv, A5, n5, c5, F5, m5, k5, e6, e7, e8⟩ := ho6.form
          have HO7 := Lib.hid (HOr.out.on ho6.below)
          have HO6 : Hid (DfaOwn wr w7 x (minA d)) := ho6
          clear he ho6
          generalize (trimA (quo d)).L = L5 at *
          generalize (trimA (quo d)).s = s5 at *
          subst e6 e7 e8
          obtain ⟨hr0, hf0⟩ := HO7.out.dcell (g := w.heap.size + 1) (l := zero4) (j := 0) (by simp) rfl
          obtain ⟨hr1, hf1⟩ := HO7.out.dcell (g := w.heap.size + 1) (l := zero4) (j := 1) (by simp) rfl
          obtain ⟨hr2, hf2⟩ := HO7.out.dcell (g := w.heap.size + 1) (l := zero4) (j := 2) (by simp) rfl
          obtain ⟨hr3, hf3⟩ := HO7.out.dcell (g := w.heap.size + 1) (l := zero4) (j := 3) (by simp) rfl
          have HEnd := Lib.hid (res_own HOr.out HO6.out rfl)
          clear HTr HOr HO6 HO7 hg0 hg1 hg2 hg3
          go_wp2
          obtain ⟨k1, k3, k4, k5, k6⟩ := HEnd.out
          exact bodyPost_ret (Rc.res_one rfl _ rfl k3 k4 k5 k6) rfl ⟨_, rfl, k1.base HB.out⟩
end Go.Proofs.YtbciefeipiphiaaDoor.Sm
