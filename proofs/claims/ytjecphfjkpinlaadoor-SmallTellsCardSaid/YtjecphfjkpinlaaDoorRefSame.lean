/- The walk of the document's answer whether two accept the same: stilewardref1's Same. -/
import Derived.Test.YtjecphfjkpinlaaDoorRefApart
namespace Go.Proofs.YtjecphfjkpinlaaDoor.Sm
open Go.RowKit Go.IntWalk Go.Proofs.YtjecphfjkpinlaaDoor.Wd Go.Proofs.YtjecphfjkpinlaaDoor.Wo Go.Proofs.YtjecphfjkpinlaaDoor.Df Go.Proofs.YtjecphfjkpinlaaDoor.Rc

/-- What it answers: whether, and the word. -/
def tellsR (a b : Aut) : Bool × List Int := match diffW a b a.s.toNat b.s.toNat with
  | none => (true, [])
  | some w => (false, w)
/-- The word under way: what is written, and what is still to come. -/
def WInv (w2 wr : World) (a b : Aut) (x y k : Nat) (lv : Value) (W : List Int) : Prop := ∃ l, Own w2 wr [eInts lv l] [] ∧ l ++ pick2 a b k x y = W ∧ lev a b x y = (k : Int) ∧ x < a.next.length ∧ y < b.next.length ∧ l.length + k ≤ 80
/-- What a table's row reads as, at one place. -/
theorem TabI.at_ {w : World} {A : Option Addr} {N : Nat} {rs : List Ir} {M : Nat → Nat → Int} (h : TabI w A N rs) (hr : RowsI N rs M) {x y : Nat} (hx : x < rs.length) (hy : y < N) : ∃ ad r, A = some ad ∧ w.cell? (ad.add x) = some (.slice (some ⟨r, 0, none⟩) N N) ∧ w.cell? ⟨r, y, none⟩ = some (.int .i64 (M x y)) := by
  obtain ⟨r, hrx⟩ : ∃ r, rs[x]? = some r := ⟨_, List.getElem?_eq_getElem hx⟩
  obtain ⟨⟨ad, e, _, h2⟩, _, h4⟩ := h x r hrx
  exact ⟨ad, r.1, e, h2, h4 y _ (hr.get hrx hy)⟩
theorem lev_small {a b : Aut} (g : Good2 a b) {x y : Nat} (hx : x < a.next.length) (hy : y < b.next.length) : -1 ≤ lev a b x y ∧ lev a b x y ≤ 80 := by
  have h1 := g.ga.n40
  have h2 := g.gb.n40
  rcases lev_cases a b x y with e | ⟨k, e⟩
  · omega
  · have := lev_lt g hx hy e; omega
set_option linter.unusedSimpArgs false in
set_option maxRecDepth 100000 in
set_option maxHeartbeats 4000000 in
theorem rsame_any (v z : Value) (a b : Aut) (w : World) (ha : DfaAt w w.heap.size v a) (hb : DfaAt w w.heap.size z b) (hg : Good2 a b) :
    Calls Tryd.prog 13 #[v, z] w fun e w' => Hid (∃ lv, e = .returned (.tuple #[.bool (tellsR a b).1, lv]) ∧ Own w w' [] [eInts lv (tellsR a b).2]) := by
  have HA := ha
  have HZ := hb
  obtain ⟨L, s, A, c, F, cf, rfl, ha⟩ := ha
  obtain ⟨L', t, C, d, G, cg, rfl, hb⟩ := hb
  obtain ⟨wx, hwx, hBx, hX, hd1⟩ := box_dfa w ha
  obtain ⟨w1, hw1, hB1, hY, hd2⟩ := box_dfa wx (hb.on hBx)
  have hs1 : wx.heap.size = w.heap.size + 1 := by rw [hwx]; simp
  rw [hs1] at hY
  have HB := Lib.hid (hBx.trans (hB1.mono hBx.size))
  have HX := Lib.hid (hX.on hB1)
  have HY := Lib.hid hY
  have HDA := Lib.hid (hd1.on hB1)
  have HDB := Lib.hid hd2
  have HT := Lib.hid (rapart_any _ _ a b w1 (HA.on HB.out) (HZ.on HB.out) hg)
  have HW : Hid (w1 = (w.alloc (.cells #[.int .i64 L, .int .i64 s, .slice A a.next.length c, .slice F a.fin.length cf] 25)).alloc (.cells #[.int .i64 L', .int .i64 t, .slice C b.next.length d, .slice G b.fin.length cg] 25)) := by
    rw [← hwx]; exact hw1
  have HG := Lib.hid hg
  obtain ⟨n, hn⟩ := Int.eq_ofNat_of_zero_le (show 0 ≤ L by have := hg.ga.l1; have := ha.eL; omega)
  subst hn
  obtain ⟨p, hp⟩ := Int.eq_ofNat_of_zero_le (show 0 ≤ s by have := hg.ga.st.1; have := ha.es; omega)
  obtain ⟨q, hq⟩ := Int.eq_ofNat_of_zero_le (show 0 ≤ t by have := hg.gb.st.1; have := hb.es; omega)
  subst hp hq
  have HL : Hid (a.L = (n : Int)) := ha.eL
  have HLb : Hid (b.L = (n : Int)) := by have := hg.eL; have := ha.eL; unfold Hid; omega
  have hn6 : n ≤ 6 := by have := hg.ga.l6; have := ha.eL; omega
  have hsp : a.s.toNat = p := by have := ha.es; omega
  have hsq : b.s.toNat = q := by have := hb.es; omega
  have hpM := hg.ga.s_lt
  have hqN := hg.gb.s_lt
  rw [hsp] at hpM
  rw [hsq] at hqN
  have HPl := Lib.hid hpM
  have HQl := Lib.hid hqN
  have HR : Hid (tellsR a b = match diffW a b p q with | none => (true, []) | some w => (false, w)) := by unfold tellsR Hid; rw [hsp, hsq]
  have hM40 := hg.ga.n40
  have hN40 := hg.gb.n40
  have hfa := hg.ga.fin
  have hfb := hg.gb.fin
  clear hwx hw1 hBx hB1 hX hY hd1 hd2 hs1 ha hb hg HA HZ hsp hsq
  generalize a.fin.length = fa at *
  generalize b.fin.length = fb at *
  generalize hM : a.next.length = M at *
  generalize hN : b.next.length = N at *
  have HM := Lib.hid hM
  have HN := Lib.hid hN
  have hfa1 : fa ≤ M := by omega
  have hfa2 : M ≤ fa := by omega
  have hfb1 : fb ≤ N := by omega
  have hfb2 : N ≤ fb := by omega
  clear hM hN hfa hfb
  obtain ⟨T, hT⟩ : ∃ T, T = tellsR a b := ⟨_, rfl⟩
  have HTT := Lib.hid hT
  clear hT
  rw [← HTT.out]
  have hc0 := HX.out.c0
  have hc1 := HX.out.c1
  have hc2 := HX.out.c2
  have hc3 := HX.out.c3
  have hd0 := HY.out.c0
  have hd1 := HY.out.c1
  have hd2 := HY.out.c2
  have hd3 := HY.out.c3
  go_enter Tryd.func13, Tryd.ntmps13
  go_wp2_with fail
  rw [← HW.out]
  clear HW
  refine HT.out.mono ?_
  rintro e w2 he
  obtain ⟨At, ct, rs, rfl, hlen, hrows, htab, hbel⟩ := he.out
  have HBe := Lib.hid (HB.out.trans (hbel.mono HB.out.size))
  have HX2 := Lib.hid (HX.out.on hbel)
  have HY2 := Lib.hid (HY.out.on hbel)
  have HDA2 := Lib.hid (HDA.out.on hbel)
  have HDB2 := Lib.hid (HDB.out.on hbel)
  have HLen := Lib.hid hlen
  have HRows := Lib.hid hrows
  have HTab := Lib.hid htab
  clear HX HY HDA HDB HB hc0 hc1 hc2 hc3 hd0 hd1 hd2 hd3 he hlen hrows htab hbel HT
  have HPl : Hid (p < a.next.length) := by unfold Hid; rw [HM.out]; exact hpM
  have HQl : Hid (q < b.next.length) := by unfold Hid; rw [HN.out]; exact hqN
  have hc1 := HX2.out.c1
  have hd1 := HY2.out.c1
  obtain ⟨adt, r0, eA, h1, h2⟩ := HTab.out.at_ HRows.out (x := p) (y := q) (by rw [HLen.out]; exact hpM) hqN
  subst eA
  have e1 : (p : Int) < (M : Int) := by omega
  have e2 : (q : Int) < (N : Int) := by omega
  rcases lev_cases a b p q with hv | ⟨k, hv⟩
  · as_aux_lemma =>
      rw [hv] at h2
      have HE : Hid (T = (true, [])) := by
        unfold Hid
        rw [HTT.out, HR.out, (diffW_none HG.out HPl.out HQl.out).2 ((lev_never HG.out HPl.out HQl.out).1 hv)]
      have HO : Hid (Own w2 w2 [] [eInts (.slice none 0 0) []]) := ((own_start w2).nil 3 1).fin
      clear hv
      go_wp2
      go_ret2
      exact ⟨_, by rw [HE.out]; rfl, by rw [HE.out]; exact HO.out.base HBe.out⟩
  · rw [hv] at h2
    have hk := lev_lt HG.out HPl.out HQl.out hv
    rw [HM.out, HN.out] at hk
    have HS : Hid (WInv w2 w2 a b p q k (.slice none 0 0) (pick2 a b k p q)) := ⟨[], (own_start w2).nil 3 1, rfl, hv, HPl.out, HQl.out, by simp; omega⟩
    have HE : Hid (T = (false, pick2 a b k p q)) := by
      unfold Hid
      rw [HTT.out, HR.out, diffW_lev hv]
    clear hv
    go_wp2
    clear hc1 hd1 h1 h2
    generalize pick2 a b k p q = W at *
    go_loopw [7, 8, 9, 10] (fun sv tv kv lv wr => ∃ (x y j : Nat), sv = .int .i64 x ∧ tv = .int .i64 y ∧ kv = .int .i64 j ∧ j ≤ 80 ∧ Hid (WInv w2 wr a b x y j lv W)) (fun _ _ kv _ _ => (intOf kv).toNat)
    case atStart => exact ⟨p, q, k, rfl, rfl, rfl, by omega, HS⟩
    case round =>
      clear HS
      obtain ⟨x, y, j, rfl, rfl, rfl, hj, HS⟩ := hrel
      rcases j with _ | j
      · as_aux_lemma =>
          obtain ⟨l, ho, hw, _⟩ := HS.out
          have HO := Lib.hid ho
          have HE2 : Hid (T = (false, l)) := by
            unfold Hid
            rw [HE.out, ← hw]
            have : pick2 a b 0 x y = [] := rfl
            rw [this, List.append_nil]
          clear ho hw HS
          go_wp2
          go_ret2
          exact ⟨_, by rw [HE2.out]; rfl, by rw [HE2.out]; exact (HO.out.base HBe.out).fin⟩
      · obtain ⟨l, ho, hw, hl, hxM, hyN, hll⟩ := HS.out
        have HO := Lib.hid ho
        have HWw := Lib.hid hw
        have HLv := Lib.hid hl
        have HxM := Lib.hid hxM
        have HyN := Lib.hid hyN
        rw [HM.out] at hxM
        rw [HN.out] at hyN
        obtain ⟨c0, hc0, hc0l⟩ := lev_down HG.out HxM.out HyN.out hl
        have hc0n : c0 < n := by have := HL.out; omega
        have HC0 := Lib.hid hc0l
        have HS0 : Hid (Own w2 wr [eInts u10 l] [] ∧ ∀ e : Nat, e < 0 → lev a b (Df.step a x e) (Df.step b y e) ≠ (j : Int)) := ⟨ho, fun e he => absurd he (Nat.not_lt_zero _)⟩
        clear HS ho hw hl hc0 hc0l HO
        go_wp2
        generalize wr = wz at *
        go_loopw [11] (fun cv wr => ∃ (c : Nat), c ≤ c0 ∧ cv = .int .i64 c ∧ Hid (Own w2 wr [eInts u10 l] [] ∧ ∀ e : Nat, e < c → lev a b (Df.step a x e) (Df.step b y e) ≠ (j : Int))) (fun cv _ => c0 - (intOf cv).toNat)
        case atStart => exact ⟨0, by omega, rfl, HS0⟩
        case round =>
          clear HS0
          obtain ⟨c, hc, rfl, HS⟩ := hrel
          as_aux_lemma =>
            obtain ⟨ho, hall⟩ := HS.out
            have hb2 := ho.below
            have HcL : Hid ((c : Int) < a.L) := by rw [HL.out]; unfold Hid; omega
            obtain ⟨ad, ar, mr, cr, eA, hadb, hcell, hjm, harb, hac⟩ := (HDA2.out.on hb2).step_at HG.out.ga HxM.out (i := c) HcL.out
            obtain ⟨ad', ar', mr', cr', eC, hadb', hcell', hjm', harb', hac'⟩ := (HDB2.out.on hb2).step_at HG.out.gb HyN.out (i := c) (by rw [HLb.out]; omega)
            subst eA eC
            have hu := HG.out.ga.step_lt HxM.out HcL.out
            have hv := HG.out.gb.step_lt HyN.out (a := c) (by rw [HLb.out]; omega)
            have HuM := Lib.hid hu
            have HvN := Lib.hid hv
            rw [HM.out] at hu
            rw [HN.out] at hv
            obtain ⟨adt', rU, eT, hatu, hcu⟩ := (HTab.out.on hb2).at_ HRows.out (x := Df.step a x c) (y := Df.step b y c) (by rw [HLen.out]; exact hu) hv
            cases eT
            have hca := (HX2.out.on hb2).c2
            have hcb := (HY2.out.on hb2).c2
            have e1 : (x : Int) < (M : Int) := by omega
            have e2 : (y : Int) < (N : Int) := by omega
            have e3 : (c : Int) < (mr : Int) := by omega
            have e4 : (c : Int) < (mr' : Int) := by omega
            have e5 : (Df.step a x c : Int) < (M : Int) := by omega
            have e6 : (Df.step b y c : Int) < (N : Int) := by omega
            have hw9 : IntKind.i64.wrap (((j + 1 : Nat) : Int) - 1) = (j : Int) := by rw [show (((j + 1 : Nat) : Int) - 1) = (j : Int) by omega]; exact IntWalk.i64_in _ ⟨by omega, by omega⟩
            have hO2 := ho.drewN 1
            by_cases hit : lev a b (Df.step a x c) (Df.step b y c) = (j : Int)
            · have HW2 : Hid (pick2 a b (j + 1) x y = (c : Int) :: pick2 a b j (Df.step a x c) (Df.step b y c)) := pick2_lev HG.out HxM.out HyN.out HLv.out HcL.out hit fun e he => hall e he
              have hbl : l.length < 17592186044416 := by omega
              have HO9 : Hid (∀ g cap w', Own w2 w' (eInts (.slice (some ⟨g, 0, none⟩) (l.length + 1) cap) (l ++ [(c : Int)]) :: []) [] → WInv w2 w' a b (Df.step a x c) (Df.step b y c) j (.slice (some ⟨g, 0, none⟩) (l.length + 1) cap) W) := fun g cap w' ho => ⟨l ++ [(c : Int)], ho, by rw [← HWw.out, HW2.out, List.append_assoc]; rfl, hit, HuM.out, HvN.out, by simp; omega⟩
              have HOd := Lib.hid hO2
              have HStA := Lib.hid (fun W (h : Below w2.heap.size w2 W) => (HDA2.out.on h).step_at HG.out.ga HxM.out (i := c) HcL.out)
              have HStB := Lib.hid (fun W (h : Below w2.heap.size w2 W) => (HDB2.out.on h).step_at HG.out.gb HyN.out (i := c) (by rw [HLb.out]; omega))
              clear ho hall HS hadb hadb' harb harb' HC0 hO2 hb2
              generalize hX : lev a b (Df.step a x c) (Df.step b y c) = X at *
              clear hX
              subst hit
              generalize Df.step a x c = u at *
              generalize Df.step b y c = v at *
              go_wp2_with fail
              go_region
              clear hcell hcell' hac hac' hw9 hatu hcu hca hcb
              go_wp2_with (at_builtin; refine own_int (by rfl) _ _ (by rfl) (by rfl) HOd.out (by rfl) hbl ?_)
              intro g8 cap8 w8 ho8
              have HE9 := Lib.hid (HO9.out _ _ _ ho8)
              have hb8 := ho8.below
              obtain ⟨ad2, ar2, mr2, cr2, eA, hadb2, hcell2, hjm2, harb2, hac2⟩ := HStA.out w8 hb8
              obtain ⟨ad3, ar3, mr3, cr3, eC, hadb3, hcell3, hjm3, harb3, hac3⟩ := HStB.out w8 hb8
              cases eA
              cases eC
              have hca2 := (HX2.out.on hb8).c2
              have hcb2 := (HY2.out.on hb8).c2
              have e7 : (c : Int) < (mr2 : Int) := by omega
              have e8 : (c : Int) < (mr3 : Int) := by omega
              clear ho8 hb8 HOd HO9 HStA HStB hadb2 hadb3 harb2 harb3
              go_wp2
              clear hcell2 hcell3 hac2 hac3 hca2 hcb2
              go_roundw
              case rel => exact ⟨u, v, j, by go_num, by go_num, by go_num, by omega, HE9⟩
              case measure => simp [intOf]
            · have hne : c < c0 := by
                rcases Nat.lt_or_eq_of_le hc with h | h
                · exact h
                · exact absurd (by rw [h]; exact HC0.out) hit
              have HE2 : Hid (Own w2 (wr.drewN 1) [eInts u10 l] [] ∧ ∀ e : Nat, e < c + 1 → lev a b (Df.step a x e) (Df.step b y e) ≠ (j : Int)) := ⟨hO2, fun e he => by
                rcases Nat.lt_or_eq_of_le (Nat.le_of_lt_succ he) with h | h
                · exact hall e h
                · rw [h]; exact hit⟩
              clear ho hb2 hall HS hadb hadb' harb harb' HC0 hO2
              generalize lev a b (Df.step a x c) (Df.step b y c) = X at *
              generalize Df.step a x c = u at *
              generalize Df.step b y c = v at *
              go_wp2_with fail
              go_region
              clear hcell hcell' hac hac' hw9 hatu hcu hca hcb
              go_wp2
              go_roundw
              case rel => exact ⟨c + 1, by omega, by go_num, HE2⟩
              case measure => simp [intOf]; omega
end Go.Proofs.YtjecphfjkpinlaaDoor.Sm
