/- The walk of package dfa's product. -/
import Derived.Test.YtjecphfjkpinlaaDoorDfaQ
import Derived.Test.YtjecphfjkpinlaaDoorRegL
import Derived.Handy
import Derived.Deep.Light
namespace Go.Proofs.YtjecphfjkpinlaaDoor.Df
open Go.RowKit Go.IntWalk Go.Proofs.YtjecphfjkpinlaaDoor.Wd Go.Proofs.YtjecphfjkpinlaaDoor.Wo

theorem chkD2_ok {v z : Value} {a b : Aut} {w : World} (ha : DfaAt w w.heap.size v a) (hb : DfaAt w w.heap.size z b) (g : chkD2 a b = 0) :
    Calls Tryd.prog 31 #[v, z] w fun e w' => e = .returned .nilIface ∧ Below w.heap.size w w' :=
  (chkD2_any v z a b w ha hb).mono fun e w' ⟨he, hw⟩ => ⟨by rw [he.out, g]; rfl, hw⟩
theorem chkD2_bad {v z : Value} {a b : Aut} {w : World} (ha : DfaAt w w.heap.size v a) (hb : DfaAt w w.heap.size z b) {e0 : Nat} (g : chkD2 a b = e0 + 1) {x : Int} (hx : x = ((e0 + 1 : Nat) : Int)) :
    Calls Tryd.prog 31 #[v, z] w fun e w' => e = .returned (errI x) ∧ Below w.heap.size w w' :=
  (chkD2_any v z a b w ha hb).mono fun e w' ⟨he, hw⟩ => ⟨by rw [he.out, g, hx]; rfl, hw⟩
theorem srow_small {α : Type} [DecidableEq α] (S : α → List α) (l : List α) (h : l.length ≤ 40) : ∀ r ∈ l.map (srow S l), ∀ x ∈ r, Small x := by
  intro r hr x hx
  obtain ⟨y, _, rfl⟩ := List.mem_map.1 hr
  obtain ⟨t, _, rfl⟩ := List.mem_map.1 hx
  have : num l t ≤ l.length := List.idxOf_le_length
  exact ⟨by omega, by omega⟩
/-- The state of a product, midway. -/
def PInv (w1 wr : World) (g gr : Nat) (a b : Aut) (h : Bool → Bool → Bool) (i : Nat) (pv : Value) : Prop :=
  ∃ l nv fv rs, Part (S2 a b) (start2 a b) i l ∧ Build w1 wr g (eDfa gr zero4 :: ePairs pv l :: []) a.L 0 ((l.take i).map (srow (S2 a b) l)) ((l.take i).map (fun p => h (finA a p.1) (finA b p.2))) nv fv rs
/-- The same within a row. -/
def RInv (w1 wi : World) (g gr gh gw : Nat) (a b : Aut) (h : Bool → Bool → Bool) (k : Nat) (l : List (Nat × Nat)) (p : Nat × Nat) (n c : Nat) (nv fv : Value) (rs : List (Value × List Int)) (pv : Value) : Prop :=
  Own w1 wi [ePairs pv (addAll l ((S2 a b p).take c)), eInts (.slice (some ⟨gw, 0, none⟩) n n) (prow (S2 a b) l p n c), ePairs (.slice (some ⟨gh, 0, none⟩) 1 1) [p],
    eRows nv (rs.map (·.1)), eBools fv ((l.take k).map (fun p => h (finA a p.1) (finA b p.2))), eDfa g [.int .i64 (n : Int), .int .i64 0, nv, fv], eDfa gr zero4] (eEach rs)
/-- What a step of a state reads. -/
theorem DfaIs.step_at {w : World} {B : Nat} {L s : Int} {A F : Option Addr} {c cf : Nat} {d : Aut} (h : DfaIs w B L s A c F cf d) (g : Good d) {q i : Nat} (hq : q < d.next.length) (hi : (i : Int) < d.L) :
    ∃ ad ar m cr, A = some ad ∧ ad.block < B ∧ w.cell? (ad.add q) = some (.slice (some ar) m cr) ∧ i < m ∧ ar.block < B ∧ w.cell? (ar.add i) = some (.int .i64 ((step d q i : Nat) : Int)) := by
  obtain ⟨r, hr, _, hl, hra, _⟩ := g.at_ hq hi
  obtain ⟨ad, A', c', e, h1, h2, _, _, h5⟩ := h.rows q r hr
  obtain ⟨ar, e2, h6, h7, h8⟩ := h5.get hra
  subst e2
  exact ⟨ad, ar, r.length, c', e, h1, h2, h8, h6, h7⟩
set_option linter.unusedSimpArgs false in
set_option maxRecDepth 100000 in
set_option maxHeartbeats 4000000 in
theorem prod_any (f : Nat) (hcf : ∀ args W, (callFunc f args).run Tryd.prog W = .ok (.enter f args) W) (h : Bool → Bool → Bool)
    (hF : ∀ x y W, Calls Tryd.prog f #[.bool x, .bool y] W fun e w' => e = .returned (.bool (h x y)) ∧ w' = W) (v z : Value) (a b : Aut) (w : World) (ha : DfaAt w w.heap.size v a) (hb : DfaAt w w.heap.size z b) :
    Calls Tryd.prog 33 #[v, z, .func (.func f) #[] #[]] w fun e w' => Hid (∃ x, e = .returned (.tuple #[x, errV (prodOut h a b).2]) ∧ DfaOwn w w' x (prodOut h a b).1) := by
  have HA := ha
  have HZ := hb
  obtain ⟨L, s, A, c, F, cf, rfl, ha⟩ := ha
  obtain ⟨M, t, C, d, G, cg, rfl, hb⟩ := hb
  obtain ⟨wx, hwx, hBx, hX, hd1⟩ := box_dfa w ha
  obtain ⟨w1, hw1, hB1, hY, hd2⟩ := box_dfa wx (hb.on hBx)
  have hs1 : wx.heap.size = w.heap.size + 1 := by rw [hwx]; simp
  have hs2 : w1.heap.size = w.heap.size + 2 := by rw [hw1]; simp; omega
  rw [hs1] at hY
  have hres := below_alloc w1 (.cells #[.int .i64 0, .int .i64 0, .slice none 0 0, .slice none 0 0] 25)
  have HB := Lib.hid (hBx.trans (hB1.mono hBx.size))
  have HX := Lib.hid (hX.on hB1)
  have HY := Lib.hid hY
  have HDA := Lib.hid (hd1.on hB1)
  have HDB := Lib.hid hd2
  have HA := Lib.hid ((HA.on HB.out).on hres)
  have HZ := Lib.hid ((HZ.on HB.out).on hres)
  have HW : Hid (w1 = (w.alloc (.cells #[.int .i64 L, .int .i64 s, .slice A a.next.length c, .slice F a.fin.length cf] 25)).alloc (.cells #[.int .i64 M, .int .i64 t, .slice C b.next.length d, .slice G b.fin.length cg] 25)) := by
    rw [← hwx]; exact hw1
  have HO := Lib.hid ((own_start w1).dfa (.int .i64 0) (.int .i64 0) (.slice none 0 0) (.slice none 0 0))
  rw [hs2] at HO
  have HX2 := Lib.hid (HX.out.on hres)
  have HY2 := Lib.hid (HY.out.on hres)
  have HL : Hid (a.L = L ∧ a.s = s ∧ b.L = M ∧ b.s = t) := ⟨ha.eL, ha.es, hb.eL, hb.es⟩
  have hc0 := HX2.out.c0
  have hc1 := HX2.out.c1
  have hc2 := HX2.out.c2
  have hc3 := HX2.out.c3
  have hd0 := HY2.out.c0
  have hd1' := HY2.out.c1
  have hd2' := HY2.out.c2
  have hd3 := HY2.out.c3
  clear hwx hw1 hBx hB1 hX hY hd1 hd2 hs1 hs2 ha hb hres
  rcases g1 : chkD2 a b with _ | e0
  · have HC := Lib.hid (chkD2_ok HA.out HZ.out g1)
    have HG : Hid (Good2 a b) := chkD2_iff.1 g1
    have HG1 := Lib.hid g1
    obtain ⟨hL, hs, hM, ht⟩ := HL.out
    obtain ⟨n, hn⟩ := Int.eq_ofNat_of_zero_le (show 0 ≤ L by have := HG.out.ga.l1; omega)
    obtain ⟨p0, hp0⟩ := Int.eq_ofNat_of_zero_le (show 0 ≤ s by have := HG.out.ga.st.1; omega)
    obtain ⟨q0, hq0⟩ := Int.eq_ofNat_of_zero_le (show 0 ≤ t by have := HG.out.gb.st.1; omega)
    have hMn : M = (n : Int) := by have := HG.out.eL; omega
    have HS0 : Hid (start2 a b = (p0, q0)) := by unfold start2 Hid; rw [hs, ht, hp0, hq0]; rfl
    have hn1 : 1 ≤ n := by have := HG.out.ga.l1; omega
    have hn6 : n ≤ 6 := by have := HG.out.ga.l6; omega
    have HN : Hid (a.L = (n : Int)) := by rw [hL, hn]; rfl
    subst hn hp0 hq0 hMn
    clear hL hs hM ht g1 HL HA HZ
    generalize hm1 : a.fin.length = fa at *
    generalize hm2 : b.fin.length = fb at *
    have HFA := Lib.hid hm1
    have HFB := Lib.hid hm2
    clear hm1 hm2
    go_enter Tryd.func33, Tryd.ntmps33
    go_wp2_with fail
    rw [← HW.out]
    clear HW
    refine HC.out.mono ?_
    rintro e w2 ⟨rfl, hb⟩
    have HO2 := Lib.hid (HO.out.on hb)
    have HX3 := Lib.hid (HX2.out.on hb)
    have HY3 := Lib.hid (HY2.out.on hb)
    clear hc0 hc1 hc2 hc3 hd0 hd1' hd2' hd3 HX2 HY2 HO hb HC
    have hc0 := HX3.out.c0
    have hc1 := HX3.out.c1
    have hd1' := HY3.out.c1
    have hlx := HX3.out.lt
    have hly := HY3.out.lt
    have HS : Hid (PInv w1 ((w2.alloc (.cells #[.int .i64 (n : Int), .int .i64 0, .slice none 0 0, .slice none 0 0] 25)).alloc (.cells #[.int .i64 (p0 : Int), .int .i64 (q0 : Int)] 81)) w2.heap.size (w.heap.size + 1 + 1) a b h 0 (.slice (some ⟨w2.heap.size + 1, 0, none⟩) 1 1)) := by
      have h1 := HO2.out.dfa (.int .i64 (n : Int)) (.int .i64 0) (.slice none 0 0) (.slice none 0 0)
      have h2 := h1.lit 81 2 1 #[.int .i64 (p0 : Int), .int .i64 (q0 : Int)] rfl (by simp [maxLen])
      rw [show (w2.alloc (.cells #[.int .i64 (n : Int), .int .i64 0, .slice none 0 0, .slice none 0 0] 25)).heap.size = w2.heap.size + 1 by simp] at h2
      have hp := part_zero (S2 a b) (start2 a b)
      refine ⟨_, .slice none 0 0, .slice none 0 0, [], hp, rfl, ?_⟩
      rw [HS0.out, HN.out]
      exact ((h2.three.three.nil 4 1).nil 36 1)
    have HG0 : Hid (w1.heap.size ≤ w2.heap.size) := HO2.out.below.size
    clear HO2
    go_wp2
    clear hc0 hc1 hd1' hlx hly HX3 HY3
    generalize w2.heap.size = g at *
    go_loopw [10, 11] (fun pv i wr => ∃ (k : Nat), k ≤ 40 ∧ i = .int .i64 k ∧ Hid (PInv w1 wr g (w.heap.size + 1 + 1) a b h k pv)) (fun _ i _ => 41 - (intOf i).toNat)
    case atStart => exact ⟨0, by omega, rfl, HS⟩
    case round =>
      clear HS
      obtain ⟨k, hk, rfl, HS⟩ := hrel
      obtain ⟨l, nv, fv, rs, hpart, hbd⟩ := HS.out
      have HP := Lib.hid hpart
      have HBd := Lib.hid hbd
      obtain ⟨Ap, cp, hpv, hcp, _, hpa⟩ := own_pairs hbd.2 (v := u10) (l := l) (by simp)
      subst hpv
      have hbw := hbd.2.below
      have HXw := Lib.hid (HX.out.on hbw)
      have HYw := Lib.hid (HY.out.on hbw)
      have HDAw := Lib.hid (HDA.out.on hbw)
      have HDBw := Lib.hid (HDB.out.on hbw)
      have h40 := hpart.n40
      have hkl := hpart.le
      clear HS hpart hbd hbw
      by_cases hlt : k < l.length
      · obtain ⟨⟨x, y⟩, hxy⟩ : ∃ q, l[k]? = some q := ⟨_, List.getElem?_eq_getElem hlt⟩
        obtain ⟨hx, hy⟩ := rch_lt HG.out (HP.out.rch _ (List.mem_of_getElem? hxy))
        simp only at hx hy
        obtain ⟨adp, hAp, hadp, hp0, hp1⟩ := hpa.at_ hxy
        simp only at hp0 hp1
        subst hAp
        have hc0 := HXw.out.c0
        have hlx := HXw.out.lt
        have HXY := Lib.hid hxy
        obtain ⟨HRS, hown⟩ := HBd.out
        have HRS := Lib.hid HRS
        have hO1 := hown.lit 81 2 1 #[.int .i64 (x : Int), .int .i64 (y : Int)] rfl (by simp [maxLen])
        have HO1 := Lib.hid hO1
        clear hown hpa hxy HBd hO1
        go_wp2_with (at_make; refine mk_ints rfl _ _ rfl n rfl rfl (by omega) ?_)
        intro w4 hn4
        have hO4 := HO1.out.join (Own.of_nums (show Nums (wr.alloc (.cells #[.int .i64 (x : Int), .int .i64 (y : Int)] 81)).heap.size _ _ _ _ by simpa using hn4))
        have HR0 : Hid (RInv w1 w4 g (w.heap.size + 1 + 1) wr.heap.size (wr.heap.size + 1) a b h k l (x, y) n 0 nv fv rs (.slice (some adp) l.length cp)) := by
          unfold Hid RInv
          rw [prow_zero, List.take_zero, ← HN.out]
          exact (Own.pull 6 hO4 (by simp))
        clear hO4 hn4 HO1 hc0 hlx hadp hp0 hp1
        generalize wr.heap.size = gh at *
        go_wp2
        go_loopw [10, 47] (fun pv i wi => ∃ (q : Nat), q ≤ n ∧ i = .int .i64 q ∧ Hid (RInv w1 wi g (w.heap.size + 1 + 1) gh (gh + 1) a b h k l (x, y) n q nv fv rs pv)) (fun _ i _ => n - (intOf i).toNat)
        case atStart => exact ⟨0, by omega, rfl, HR0⟩
        case round =>
          clear HR0
          obtain ⟨q, hq, rfl, HR⟩ := hrel
          by_cases hqn : q < n
          · have hbi := HR.out.below
            have HXi := Lib.hid (HX.out.on hbi)
            have HYi := Lib.hid (HY.out.on hbi)
            obtain ⟨ada, ara, ma, ca, eA, ha0, ha1, ha2, ha3, ha4⟩ := (HDA.out.on hbi).step_at HG.out.ga (q := x) (i := q) hx (by rw [HN.out]; omega)
            obtain ⟨adb, arb, mb, cb, eB, hb0, hb1, hb2, hb3, hb4⟩ := (HDB.out.on hbi).step_at HG.out.gb (q := y) (i := q) hy (by rw [← HG.out.eL, HN.out]; omega)
            subst eA eB
            have HT := Lib.hid (S2_get a b (x, y) (c := q) (by rw [HN.out]; omega))
            have HLc : Hid ((addAll l ((S2 a b (x, y)).take q)).length ≤ 1048576) := by
              have h1 := addAll_length_le l ((S2 a b (x, y)).take q)
              have h2 := List.length_take (i := q) (l := S2 a b (x, y))
              unfold Hid; omega
            obtain ⟨hh0, _⟩ := HR.out.cell (t := 81) (sz := 2) (n := 1) (cap := 1) (g := gh) (xs := [.int .i64 (x : Int), .int .i64 (y : Int)]) (j := 0) (by simp [ePairs, pcells]) rfl
            obtain ⟨hh1, _⟩ := HR.out.cell (t := 81) (sz := 2) (n := 1) (cap := 1) (g := gh) (xs := [.int .i64 (x : Int), .int .i64 (y : Int)]) (j := 1) (by simp [ePairs, pcells]) rfl
            have hca := HXi.out.c2
            have hcb := HYi.out.c2
            have hla := HXi.out.lt
            have hlb := HYi.out.lt
            have hlh : gh < wr.heap.size := (HR.out.lt (ad := ⟨gh, 0, none⟩) (t := 81) (sz := 2) (n := 1) (cap := 1) (xs := [.int .i64 (x : Int), .int .i64 (y : Int)]) (by simp [ePairs, pcells])).2
            have e1 : (x : Int) < (a.next.length : Int) := by omega
            have e2 : (y : Int) < (b.next.length : Int) := by omega
            have e3 : (q : Int) < (ma : Int) := by omega
            have e4 : (q : Int) < (mb : Int) := by omega
            simp only at HT
            clear hbi
            generalize hsa : step a x q = sa at *
            generalize hsb : step b y q = sb at *
            clear hsa hsb
            have HK : Hid (∀ W, Below wr.heap.size wr W → W.cell? ⟨w.heap.size, 2, none⟩ = some (.slice (some ada) a.next.length c) ∧ W.cell? ⟨gh, 0, none⟩ = some (.int .i64 (x : Int)) ∧ W.cell? (ada.add x) = some (.slice (some ara) ma ca) ∧ W.cell? (ara.add q) = some (.int .i64 (sa : Int)) ∧
                W.cell? ⟨w.heap.size + 1, 2, none⟩ = some (.slice (some adb) b.next.length d) ∧ W.cell? ⟨gh, 1, none⟩ = some (.int .i64 (y : Int)) ∧ W.cell? (adb.add y) = some (.slice (some arb) mb cb) ∧ W.cell? (arb.add q) = some (.int .i64 (sb : Int))) := fun W hW =>
              ⟨(hW.cell hla).trans hca, (hW.cell hlh).trans hh0, (hW.cell (by rw [Wd.block_add]; exact ha0)).trans ha1, (hW.cell (by rw [Wd.block_add]; exact ha3)).trans ha4,
                (hW.cell hlb).trans hcb, (hW.cell hlh).trans hh1, (hW.cell (by rw [Wd.block_add]; exact hb0)).trans hb1, (hW.cell (by rw [Wd.block_add]; exact hb3)).trans hb4⟩
            go_wp2_with fail
            go_region_held3 (fun W => W.cell? ⟨w.heap.size, 2, none⟩ = some (.slice (some ada) a.next.length c) ∧ W.cell? ⟨gh, 0, none⟩ = some (.int .i64 (x : Int)) ∧ W.cell? (ada.add x) = some (.slice (some ara) ma ca) ∧ W.cell? (ara.add q) = some (.int .i64 (sa : Int)) ∧
                W.cell? ⟨w.heap.size + 1, 2, none⟩ = some (.slice (some adb) b.next.length d) ∧ W.cell? ⟨gh, 1, none⟩ = some (.int .i64 (y : Int)) ∧ W.cell? (adb.add y) = some (.slice (some arb) mb cb) ∧ W.cell? (arb.add q) = some (.int .i64 (sb : Int)))
              (exact HK.out _ (by go_grown)) (fail)
            have HNum := Lib.hid (numbered_any (w0 := w1) u10 (addAll l ((S2 a b (x, y)).take q)) (sa, sb) ((wr.alloc (.cells #[.int .i64 (sa : Int), .int .i64 (sb : Int)] 81)).drew) (HR.out.on (by go_grown)) HLc.out)
            have hS2 : (S2 a b (x, y)).length = n := by rw [S2_length, HN.out]; rfl
            have hpl := prow_length (l := l) hS2 hq
            obtain ⟨old, hold⟩ : ∃ old, (prow (S2 a b) l (x, y) n q)[q]? = some old := ⟨_, List.getElem?_eq_getElem (by omega)⟩
            have HPL : Hid ((prow (S2 a b) l (x, y) n q).length = n ∧ (prow (S2 a b) l (x, y) n q)[q]? = some old) := ⟨hpl, hold⟩
            have HPS := Lib.hid (prow_step (l := l) HT.out hqn)
            have HAS := Lib.hid (addAll_succ (l := l) HT.out)
            clear hS2 hpl hold
            clear HK hca hh0 hcb hh1 ha0 ha1 ha2 ha3 ha4 hb0 hb1 hb2 hb3 hb4 hla hlb hlh e1 e2 e3 e4
            go_wp2_with fail
            refine HNum.out.mono ?_
            rintro e w6 he
            obtain ⟨v', h1, ho6⟩ := he.out
            subst h1
            obtain ⟨hw1, hw2⟩ := own_ints_cell ho6 (List.mem_append_left _ (List.mem_cons_of_mem _ List.mem_cons_self)) HPL.out.1 HPL.out.2
            have ho7 := (own_ints_set ho6.two HPL.out.1 q ((num (addTo (addAll l ((S2 a b (x, y)).take q)) (sa, sb)) (sa, sb) : Nat) : Int)).two
            rw [HPS.out, ← HAS.out] at ho7
            have HR7 : Hid (RInv w1 (w6.setCell ⟨gh + 1, q, none⟩ (.int .i64 ((num (addAll l ((S2 a b (x, y)).take (q + 1))) (sa, sb) : Nat) : Int))) g (w.heap.size + 1 + 1) gh (gh + 1) a b h k l (x, y) n (q + 1) nv fv rs v') := ho7
            rw [HAS.out] at HR7
            clear he ho6 ho7 HNum HR HPS HAS HPL HT HLc HXi HYi
            generalize num (addTo (addAll l ((S2 a b (x, y)).take q)) (sa, sb)) (sa, sb) = K at *
            go_wp2
            go_roundw
            case rel => exact ⟨q + 1, by omega, by go_num, HR7⟩
            case measure => simp [intOf]; omega
          · obtain rfl : q = n := by omega
            have hS2 : (S2 a b (x, y)).length = q := by rw [S2_length, HN.out]; rfl
            have hR := HR.out
            unfold RInv at hR
            rw [prow_full hS2, List.take_of_length_le (by omega)] at hR
            have hstep := HP.out.step HXY.out
            have hrn := rows_next HP.out HXY.out
            have hfn : ((addAll l (S2 a b (x, y))).take (k + 1)).map (fun p => h (finA a p.1) (finA b p.2)) = (l.take k).map (fun p => h (finA a p.1) (finA b p.2)) ++ [h (finA a x) (finA b y)] := flags_next (S := S2 a b) (fun p => h (finA a p.1) (finA b p.2)) HXY.out
            have HRow := Lib.hid hrn
            have HFlag := Lib.hid hfn
            have HStep := Lib.hid hstep
            have HR := Lib.hid hR
            have HSl : Hid ((srow (S2 a b) (addAll l (S2 a b (x, y))) (x, y)).length = q) := by unfold Hid; rw [srow_length]; exact hS2
            clear hR hstep hrn hfn hS2 HP
            generalize hrw : (l.take k).map (srow (S2 a b) l) = rws at *
            generalize hbs : (l.take k).map (fun p => h (finA a p.1) (finA b p.2)) = bs at *
            have HLen : Hid ((rs.map (·.1)).length < 1099511627776 ∧ bs.length < 17592186044416) := by
              have h1 := congrArg List.length HRS.out
              rw [← hrw, List.length_map, List.length_map, List.length_take] at h1
              have h2 := congrArg List.length hbs
              rw [List.length_map, List.length_take] at h2
              exact ⟨by rw [List.length_map]; omega, by omega⟩
            clear hrw hbs
            generalize hl' : addAll l (S2 a b (x, y)) = l' at *
            clear hl'
            obtain ⟨A', c', hv', hlc', hcm', hpa'⟩ := own_pairs HR.out (v := u10) (l := l') (by simp)
            subst hv'
            clear hpa'
            by_cases hfull : 40 < l'.length
            · have hfull' : (40 : Int) < (l'.length : Int) := by omega
              have HNo : Hid (prodOut h a b = (zeroA, 4)) := by unfold Hid; rw [prodOut_full HG1.out (HStep.out.1 hfull)]
              have HR2 := Lib.hid (HR.out.pull 6 (by simp))
              obtain ⟨hr0, hf0⟩ := HR2.out.dcell (g := w.heap.size + 1 + 1) (l := zero4) (j := 0) (by simp) rfl
              obtain ⟨hr1, hf1⟩ := HR2.out.dcell (g := w.heap.size + 1 + 1) (l := zero4) (j := 1) (by simp) rfl
              obtain ⟨hr2, hf2⟩ := HR2.out.dcell (g := w.heap.size + 1 + 1) (l := zero4) (j := 2) (by simp) rfl
              obtain ⟨hr3, hf3⟩ := HR2.out.dcell (g := w.heap.size + 1 + 1) (l := zero4) (j := 3) (by simp) rfl
              have HEnd := Lib.hid (res_bad HR2.out rfl)
              clear HR2 HR
              go_wp2
              obtain ⟨k2, k3, k4, k5, k6⟩ := HEnd.out
              refine bodyPost_ret (results_dfa rfl _ rfl k3 k4 k5 k6) rfl ⟨_, by rw [HNo.out]; rfl, by rw [HNo.out]; exact dfaOwn_zero (HB.out.trans (k2.mono HB.out.size))⟩
            · have hfull' : ¬ (40 : Int) < (l'.length : Int) := by omega
              have HPn := Lib.hid (HStep.out.2 hfull)
              have HR2 := Lib.hid (HR.out.pull 3 (by simp))
              obtain ⟨hg2, hgf2⟩ := HR.out.dcell (g := g) (l := [.int .i64 (q : Int), .int .i64 0, nv, fv]) (j := 2) (by simp) rfl
              clear HStep HR
              go_wp2_with (at_builtin; refine own_row (by rfl) _ _ (by rfl) (by rfl) HR2.out (by rfl) (by rfl) HLen.out.1 ?_)
              intro g8 cap8 w8 ho8
              have hlr : rs.length = (rs.map (·.1)).length := (List.length_map _).symm
              have HB9 : Hid (Build w1 (w8.setCell ⟨g, 2, none⟩ (.slice (some ⟨g8, 0, none⟩) (rs.length + 1) cap8)) g [eDfa (w.heap.size + 1 + 1) zero4, ePairs (.slice A' l'.length c') l', ePairs (.slice (some ⟨gh, 0, none⟩) 1 1) [(x, y)]] (q : Int) 0 (rws ++ [srow (S2 a b) l' (x, y)]) bs (.slice (some ⟨g8, 0, none⟩) (rs.length + 1) cap8) fv (rs ++ [(.slice (some ⟨gh + 1, 0, none⟩) q q, srow (S2 a b) l' (x, y))])) :=
                build_row HRS.out (ho8.re [0, 2, 4, 5, 6, 1, 3] 7 rfl (by decide)) rfl
              obtain ⟨hk8, hf8⟩ := ho8.dcell (g := g) (l := [.int .i64 (q : Int), .int .i64 0, nv, fv]) (j := 2) (by simp) rfl
              rw [← HRow.out] at HB9
              clear ho8 hg2 hgf2 HR2 hlr
              go_wp2_with fail
              generalize hw9 : w8.setCell ⟨g, 2, none⟩ (.slice (some ⟨g8, 0, none⟩) (rs.length + 1) cap8) = w9 at *
              obtain ⟨adf, eF, hfa, hcfa, hfa2⟩ := (HDA.out.on HB9.out.2.below).fins.at_ (HG.out.ga.fin_at hx)
              obtain ⟨adg, eG, hgb, hcgb, hgb2⟩ := (HDB.out.on HB9.out.2.below).fins.at_ (HG.out.gb.fin_at hy)
              subst eF eG
              rw [HFA.out] at hfa2
              rw [HFB.out] at hgb2
              have HA2 := Lib.hid (HX.out.on HB9.out.2.below)
              have HC2 := Lib.hid (HY.out.on HB9.out.2.below)
              have HBA := Lib.hid ((HDA.out).fins.at_ (HG.out.ga.fin_at hx))
              have HBC := Lib.hid ((HDB.out).fins.at_ (HG.out.gb.fin_at hy))
              generalize (Value.slice (some ⟨g8, 0, none⟩) (rs.length + 1) cap8) = nv9 at *
              generalize (rs ++ [(Value.slice (some ⟨gh + 1, 0, none⟩) q q, srow (S2 a b) l' (x, y))]) = rs9 at *
              generalize hr9 : (l'.take (k + 1)).map (srow (S2 a b) l') = rws9 at *
              have HR9 := Lib.hid hr9
              clear hr9
              generalize finA a x = bx at *
              generalize finA b y = by' at *
              have HK : Hid (∀ W es fs, Own w1 W es fs → ePairs (.slice (some ⟨gh, 0, none⟩) 1 1) [(x, y)] ∈ es ++ fs ∧ eDfa g [.int .i64 (q : Int), .int .i64 0, nv9, fv] ∈ es ++ fs → W.cell? ⟨w.heap.size, 3, none⟩ = some (.slice (some adf) fa cf) ∧ W.cell? ⟨gh, 0, none⟩ = some (.int .i64 (x : Int)) ∧ W.cell? (adf.add x) = some (.bool bx) ∧
                  W.cell? ⟨w.heap.size + 1, 3, none⟩ = some (.slice (some adg) fb cg) ∧ W.cell? ⟨gh, 1, none⟩ = some (.int .i64 (y : Int)) ∧ W.cell? (adg.add y) = some (.bool by') ∧ W.cell? ⟨g, 3, none⟩ = some fv) := fun W es fs hW hm => by
                obtain ⟨hm, hm2⟩ := hm
                obtain ⟨ad1, e1, _, c1, _⟩ := HBA.out
                obtain ⟨ad2, e2, _, c2, _⟩ := HBC.out
                cases e1
                cases e2
                exact ⟨(HX.out.on hW.below).c3, (hW.cell (t := 81) (sz := 2) (n := 1) (cap := 1) (g := gh) (xs := [.int .i64 (x : Int), .int .i64 (y : Int)]) (j := 0) hm rfl).1, (hW.below.cell (by rw [Wd.block_add]; assumption)).trans c1,
                  (HY.out.on hW.below).c3, (hW.cell (t := 81) (sz := 2) (n := 1) (cap := 1) (g := gh) (xs := [.int .i64 (x : Int), .int .i64 (y : Int)]) (j := 1) hm rfl).1, (hW.below.cell (by rw [Wd.block_add]; assumption)).trans c2, (hW.dcell hm2 rfl).1⟩
              have e1 : (x : Int) < (fa : Int) := by omega
              have e2 : (y : Int) < (fb : Int) := by omega
              have HO9 := Lib.hid HB9.out.2.two
              have HF := Lib.hid hF
              clear hk8 hf8 hw9
              refine wp_region_Z (fun W => W.cell? ⟨w.heap.size, 3, none⟩ = some (.slice (some adf) fa cf) ∧ W.cell? ⟨gh, 0, none⟩ = some (.int .i64 (x : Int)) ∧ W.cell? (adf.add x) = some (.bool bx) ∧ W.cell? ⟨w.heap.size + 1, 3, none⟩ = some (.slice (some adg) fb cg) ∧ W.cell? ⟨gh, 1, none⟩ = some (.int .i64 (y : Int)) ∧ W.cell? (adg.add y) = some (.bool by') ∧ W.cell? ⟨g, 3, none⟩ = some fv) 19 (by kernel_rfl) (HK.out _ _ _ (HB9.out.2.on (by go_grown)) (by simp)) (fun hHeld => ?_)
              refine wpZ_take (i := 0) (v := ?_) rfl (by kernel_rfl) (by kernel_rfl) (by kernel_rfl) (by kernel_rfl) (fun _ _ _ h => h) (Or.inl ⟨by rfl, ?_⟩) hHeld ?_
              rotate_left
              · (go_light; intro w9 hSw; (try dsimp only at hSw); go_simp; try with_reducible rfl)
              try simp only [Act.put, List.setIfInBounds_toArray, List.set_cons_zero, List.set_cons_succ]
              refine wpZ_take (i := 1) (v := ?_) rfl (by kernel_rfl) (by kernel_rfl) (by kernel_rfl) (by kernel_rfl) (fun _ _ _ h => h) (Or.inl ⟨by rfl, ?_⟩) hHeld ?_
              rotate_left
              · (go_light; intro w9 hSw; (try dsimp only at hSw); go_simp; try with_reducible rfl)
              try simp only [Act.put, List.setIfInBounds_toArray, List.set_cons_zero, List.set_cons_succ]
              refine wpZ_take (i := 2) (v := ?_) rfl (by kernel_rfl) (by kernel_rfl) (by kernel_rfl) (by kernel_rfl) (fun _ _ _ h => h) (Or.inl ⟨by rfl, ?_⟩) hHeld ?_
              rotate_left
              · (go_light; intro w9 hSw; (try dsimp only at hSw); go_simp; try with_reducible rfl)
              try simp only [Act.put, List.setIfInBounds_toArray, List.set_cons_zero, List.set_cons_succ]
              refine wpZ_take (i := 3) (v := ?_) rfl (by kernel_rfl) (by kernel_rfl) (by kernel_rfl) (by kernel_rfl) (fun _ _ _ h => h) (Or.inl ⟨by rfl, ?_⟩) hHeld ?_
              rotate_left
              · (go_light; intro w9 hSw; (try dsimp only at hSw); go_simp; try with_reducible rfl)
              try simp only [Act.put, List.setIfInBounds_toArray, List.set_cons_zero, List.set_cons_succ]
              refine wpZ_take (i := 4) (v := ?_) rfl (by kernel_rfl) (by kernel_rfl) (by kernel_rfl) (by kernel_rfl) (fun _ _ _ h => h) (Or.inl ⟨by rfl, ?_⟩) hHeld ?_
              rotate_left
              · (go_light; intro w9 hSw; (try dsimp only at hSw); go_simp; try with_reducible rfl)
              try simp only [Act.put, List.setIfInBounds_toArray, List.set_cons_zero, List.set_cons_succ]
              refine wpZ_take (i := 5) (v := ?_) rfl (by kernel_rfl) (by kernel_rfl) (by kernel_rfl) (by kernel_rfl) (fun _ _ _ h => h) (Or.inl ⟨by rfl, ?_⟩) hHeld ?_
              rotate_left
              · (go_light; intro w9 hSw; (try dsimp only at hSw); go_simp; try with_reducible rfl)
              try simp only [Act.put, List.setIfInBounds_toArray, List.set_cons_zero, List.set_cons_succ]
              refine wpZ_take (i := 6) (v := ?_) rfl (by kernel_rfl) (by kernel_rfl) (by kernel_rfl) (by kernel_rfl) (fun _ _ _ h => h) (Or.inl ⟨by rfl, ?_⟩) hHeld ?_
              rotate_left
              · (go_light; intro w9 hSw; (try dsimp only at hSw); go_simp; try with_reducible rfl)
              try simp only [Act.put, List.setIfInBounds_toArray, List.set_cons_zero, List.set_cons_succ]
              refine wpZ_take (i := 7) (v := ?_) rfl (by kernel_rfl) (by kernel_rfl) (by kernel_rfl) (by kernel_rfl) (fun _ _ _ h => h) (Or.inl ⟨by rfl, ?_⟩) hHeld ?_
              rotate_left
              · (go_light; intro w9 hSw; (try dsimp only at hSw); go_simp; try with_reducible rfl)
              try simp only [Act.put, List.setIfInBounds_toArray, List.set_cons_zero, List.set_cons_succ]
              refine wpZ_take (i := 8) (v := ?_) rfl (by kernel_rfl) (by kernel_rfl) (by kernel_rfl) (by kernel_rfl) (fun _ _ _ h => h) (Or.inl ⟨by rfl, ?_⟩) hHeld ?_
              rotate_left
              · (go_light; intro w9 hSw; (try dsimp only at hSw); go_simp; try with_reducible rfl)
              try simp only [Act.put, List.setIfInBounds_toArray, List.set_cons_zero, List.set_cons_succ]
              refine wpZ_take (i := 9) (v := ?_) rfl (by kernel_rfl) (by kernel_rfl) (by kernel_rfl) (by kernel_rfl) (fun _ _ _ h => h) (Or.inl ⟨by rfl, ?_⟩) hHeld ?_
              rotate_left
              · (go_light; intro w9 hSw; (try dsimp only at hSw); go_simp; try with_reducible rfl)
              try simp only [Act.put, List.setIfInBounds_toArray, List.set_cons_zero, List.set_cons_succ]
              refine wpZ_take (i := 10) (v := ?_) rfl (by kernel_rfl) (by kernel_rfl) (by kernel_rfl) (by kernel_rfl) (fun _ _ _ h => h) (Or.inl ⟨by rfl, ?_⟩) hHeld ?_
              rotate_left
              · (go_light; intro w9 hSw; (try dsimp only at hSw); go_simp; try with_reducible rfl)
              try simp only [Act.put, List.setIfInBounds_toArray, List.set_cons_zero, List.set_cons_succ]
              refine wpZ_take (i := 11) (v := ?_) rfl (by kernel_rfl) (by kernel_rfl) (by kernel_rfl) (by kernel_rfl) (fun _ _ _ h => h) (Or.inl ⟨by rfl, ?_⟩) hHeld ?_
              rotate_left
              · (go_light; intro w9 hSw; (try dsimp only at hSw); go_simp; try with_reducible rfl)
              try simp only [Act.put, List.setIfInBounds_toArray, List.set_cons_zero, List.set_cons_succ]
              refine wpZ_take (i := 12) (v := ?_) rfl (by kernel_rfl) (by kernel_rfl) (by kernel_rfl) (by kernel_rfl) (fun _ _ _ h => h) (Or.inl ⟨by rfl, ?_⟩) hHeld ?_
              rotate_left
              · (go_light; intro w9 hSw; (try dsimp only at hSw); go_simp; try with_reducible rfl)
              try simp only [Act.put, List.setIfInBounds_toArray, List.set_cons_zero, List.set_cons_succ]
              refine wpZ_take (i := 13) (v := ?_) rfl (by kernel_rfl) (by kernel_rfl) (by kernel_rfl) (by kernel_rfl) (fun _ _ _ h => h) (Or.inl ⟨by rfl, ?_⟩) hHeld ?_
              rotate_left
              · (go_light; intro w9 hSw; (try dsimp only at hSw); go_simp; try with_reducible rfl)
              try simp only [Act.put, List.setIfInBounds_toArray, List.set_cons_zero, List.set_cons_succ]
              refine wpZ_take (i := 14) (v := ?_) rfl (by kernel_rfl) (by kernel_rfl) (by kernel_rfl) (by kernel_rfl) (fun _ _ _ h => h) (Or.inl ⟨by rfl, ?_⟩) hHeld ?_
              rotate_left
              · (go_light; intro w9 hSw; (try dsimp only at hSw); go_simp; try with_reducible rfl)
              try simp only [Act.put, List.setIfInBounds_toArray, List.set_cons_zero, List.set_cons_succ]
              refine wpZ_one (i := 15) rfl (by kernel_rfl) (fun K hK => ?_)
              go_simp
              refine (HF.out _ _ _).mono ?_
              rintro e w9 ⟨rfl, rfl⟩
              try simp only []
              refine hK.out _ _ (fun _ => hHeld) (fun hHeld9 => ?_)
              replace hHeld := hHeld9 (by decide)
              clear hHeld9
              clear hK K
              try simp only [Act.put, List.setIfInBounds_toArray, List.set_cons_zero, List.set_cons_succ]
              refine wpZ_one (i := 16) rfl (by kernel_rfl) (fun K hK => ?_)
              go_simp
              refine hK.out _ _ (fun _ => HK.out _ _ _ (HB9.out.2.on (by go_grown)) (by simp)) (fun hHeld9 => ?_)
              replace hHeld := hHeld9 (by decide)
              clear hHeld9
              clear hK K
              try simp only [Act.put, List.setIfInBounds_toArray, List.set_cons_zero, List.set_cons_succ]
              refine wpZ_one (i := 17) rfl (by kernel_rfl) (fun K hK => ?_)
              refine step_own_bool (by rfl) _ _ (by rfl) (by rfl) (HO9.out.on (Below.refl _ _).drew) (by rfl) HLen.out.2 ?_
              intro g10 cap10 w10 ho10
              refine hK.out _ _ (fun _ => HK.out _ _ _ ho10.two (by simp)) (fun hHeld9 => ?_)
              replace hHeld := hHeld9 (by decide)
              clear hHeld9
              clear hK K
              try simp only [Act.put, List.setIfInBounds_toArray, List.set_cons_zero, List.set_cons_succ]
              refine wpZ_take (i := 18) (v := ?_) rfl (by kernel_rfl) (by kernel_rfl) (by kernel_rfl) (by kernel_rfl) (fun _ _ _ h => h) (Or.inl ⟨by rfl, ?_⟩) hHeld ?_
              rotate_left
              · (go_light; intro w9 hSw; (try dsimp only at hSw); go_simp; try with_reducible rfl)
              try simp only [Act.put, List.setIfInBounds_toArray, List.set_cons_zero, List.set_cons_succ]
              refine wpZ_one (i := 19) rfl (by kernel_rfl) (fun K hK => ?_)
              have hk4 := (ho10.dcell (g := g) (l := [.int .i64 (q : Int), .int .i64 0, nv9, fv]) (j := 3) (by simp) rfl).2
              go_simp
              refine hK.out _ _ (fun k => absurd rfl k) (fun _ => ?_)
              clear hK K
              try simp only [Act.put, List.setIfInBounds_toArray, List.set_cons_zero, List.set_cons_succ]
              refine wpZ_done (by kernel_rfl) ?_ _
              have HBf := build_flag HB9.out.1 ho10 rfl
              have HN1 : Hid (PInv w1 (w10.setCell ⟨g, 3, none⟩ (.slice (some ⟨g10, 0, none⟩) (bs.length + 1) cap10)) g (w.heap.size + 1 + 1) a b h (k + 1) (.slice A' l'.length c')) := by
                refine ⟨l', nv9, .slice (some ⟨g10, 0, none⟩) (bs.length + 1) cap10, rs9, HPn.out, ?_⟩
                rw [HFlag.out, HR9.out, HN.out]
                exact ⟨HBf.1, (HBf.2.re [5, 0, 1, 2, 3, 4] 6 rfl (by decide)).tail⟩
              clear HBf ho10 HB9 HO9 HK hk4 hHeld HF HA2 HC2 HBA HBC
              go_wp2
              go_roundw
              case rel => exact ⟨k + 1, by omega, by go_num, HN1⟩
              case measure => simp [intOf]; omega
      · obtain rfl : k = l.length := by omega
        have HNo : Hid (prodOut h a b = (⟨a.L, 0, l.map (srow (S2 a b) l), l.map fun p => h (finA a p.1) (finA b p.2)⟩, 0)) := by
          unfold Hid; rw [prodOut_some HG1.out (HP.out.stop (Nat.le_refl _))]; rfl
        rw [List.take_length] at HBd
        have HSm := Lib.hid (srow_small (S2 a b) l (by omega))
        rw [HN.out] at HBd HNo
        clear HP HXw HYw HDAw HDBw hpa
        generalize l.map (srow (S2 a b) l) = rows at *
        generalize l.map (fun p => h (finA a p.1) (finA b p.2)) = bs at *
        obtain ⟨A2, c2, F2, cf2, e1, e2⟩ := HBd.out.form
        obtain ⟨hg0, hg1, hg2, hg3⟩ := HBd.out.str
        obtain ⟨hr0, hf0⟩ := HBd.out.res (j := 0) (by omega)
        obtain ⟨hr1, hf1⟩ := HBd.out.res (j := 1) (by omega)
        obtain ⟨hr2, hf2⟩ := HBd.out.res (j := 2) (by omega)
        obtain ⟨hr3, hf3⟩ := HBd.out.res (j := 3) (by omega)
        subst e1 e2
        have HEnd := Lib.hid (build_end HBd.out HSm.out ⟨by omega, by omega⟩ ⟨by omega, by omega⟩ rfl)
        generalize rows.length = nr at *
        generalize bs.length = nb at *
        go_wp2
        obtain ⟨k1, k3, k4, k5, k6⟩ := HEnd.out
        refine bodyPost_ret (results_dfa rfl _ rfl k3 k4 k5 k6) rfl ⟨_, by rw [HNo.out]; rfl, by rw [HNo.out]; exact k1.base HB.out⟩
  · have HC := Lib.hid (chkD2_bad HA.out HZ.out g1 rfl)
    have HNo : Hid (prodOut h a b = (zeroA, e0 + 1)) := by unfold Hid; rw [prodOut_bad (by omega), g1]
    clear g1 HL HX HY HX2 HY2 HDA HDB HA HZ
    generalize a.next.length = na at *
    generalize a.fin.length = fa at *
    generalize b.next.length = nb at *
    generalize b.fin.length = fb at *
    generalize hE : ((e0 + 1 : Nat) : Int) = E at *
    have HE := Lib.hid hE
    clear hE
    go_enter Tryd.func33, Tryd.ntmps33
    go_wp2_with fail
    rw [← HW.out]
    refine HC.out.mono ?_
    rintro e w2 ⟨rfl, hb⟩
    have HO2 := Lib.hid (HO.out.on hb)
    obtain ⟨hr0, hf0⟩ := HO2.out.dcell (g := w.heap.size + 2) (l := zero4) (j := 0) (by simp) rfl
    obtain ⟨hr1, hf1⟩ := HO2.out.dcell (g := w.heap.size + 2) (l := zero4) (j := 1) (by simp) rfl
    obtain ⟨hr2, hf2⟩ := HO2.out.dcell (g := w.heap.size + 2) (l := zero4) (j := 2) (by simp) rfl
    obtain ⟨hr3, hf3⟩ := HO2.out.dcell (g := w.heap.size + 2) (l := zero4) (j := 3) (by simp) rfl
    clear hb HC hc0 hc1 hc2 hc3 hd0 hd1' hd2' hd3
    have HEnd := Lib.hid (res_bad HO2.out rfl)
    go_wp2
    obtain ⟨k2, k3, k4, k5, k6⟩ := HEnd.out
    refine bodyPost_ret (results_dfa rfl _ rfl k3 k4 k5 k6) rfl ⟨_, by rw [HNo.out, errV_succ, HE.out]; rfl, by rw [HNo.out]; exact dfaOwn_zero (HB.out.trans (k2.mono HB.out.size))⟩
end Go.Proofs.YtjecphfjkpinlaaDoor.Df
