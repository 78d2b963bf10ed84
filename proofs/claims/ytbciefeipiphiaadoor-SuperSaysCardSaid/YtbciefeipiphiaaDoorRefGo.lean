/- The walk of a round of the document's super: stilewardref3's good. -/
import Derived.Test.YtbciefeipiphiaaDoorRefKd
import Derived.Test.YtbciefeipiphiaaDoorRefNot
import Derived.Test.YtbciefeipiphiaaDoorSuperM
import Derived.Deep.QuietTactic
import Derived.BigQuiet
namespace Go.Proofs.YtbciefeipiphiaaDoor.Su
open Go.RowKit Go.IntWalk Go.Proofs.YtbciefeipiphiaaDoor.Wd Go.Proofs.YtbciefeipiphiaaDoor.Wo Go.Proofs.YtbciefeipiphiaaDoor.Df Go.Proofs.YtbciefeipiphiaaDoor.Rc Go.Proofs.YtbciefeipiphiaaDoor.Sm

/-- A table's place, read out of memory. -/
def memB (w : World) (tv : Value) (p q : Nat) : Bool := match tv with
  | .slice (some ad) _ _ => match w.cell? (ad.add p) with
    | some (.slice (some ar) _ _) => match w.cell? (ar.add q) with
      | some (.bool b) => b
      | _ => false
    | _ => false
  | _ => false
theorem memB_tab {w : World} {A : Option Addr} {N k c p q : Nat} {rs : List Br} {Y : PS} (h : TabAt w A N rs) (hr : RowsM N rs Y) (hp : p < rs.length) (hq : q < N) : memB w (.slice A k c) p q = Y p q := by
  obtain ⟨r, hrp⟩ : ∃ r, rs[p]? = some r := ⟨_, List.getElem?_eq_getElem hp⟩
  obtain ⟨_, ⟨ad, rfl, _, h2⟩, _, h4⟩ := h p r hrp
  have h5 := h4 q (Y p q) (by rw [hr p r hrp]; exact bF_get _ hq)
  unfold brV at h2
  have e : (⟨r.1, 0, none⟩ : Addr).add q = ⟨r.1, q, none⟩ := by
    by_cases e : q = 0
    · subst e; rfl
    · simp [Addr.add, e]
  show (match w.cell? (ad.add p) with
    | some (.slice (some ar) _ _) => match w.cell? (ar.add q) with
      | some (.bool b) => b
      | _ => false
    | _ => false) = Y p q
  rw [h2]
  show (match w.cell? ((⟨r.1, 0, none⟩ : Addr).add q) with
      | some (.bool b) => b
      | _ => false) = Y p q
  rw [e, h5]
def bOf : Value → Bool
  | .bool b => b
  | _ => false
/-- The passes' table in memory. -/
def GT (w1 wr : World) (M N : Nat) (tv : Value) (Y : PS) : Prop := ∃ rs, OwnM w1 wr N tv rs ∧ rs.length = M ∧ RowsM N rs Y
theorem GT.on {w1 wr w' : World} {M N : Nat} {tv : Value} {Y : PS} (h : GT w1 wr M N tv Y) (hb : Below wr.heap.size wr w') : GT w1 w' M N tv Y := by
  obtain ⟨rs, h1, h2, h3⟩ := h
  exact ⟨rs, ownM_on h1 hb, h2, h3⟩
theorem GT.below {w1 wr : World} {M N : Nat} {tv : Value} {Y : PS} (h : GT w1 wr M N tv Y) : Below w1.heap.size w1 wr := by
  obtain ⟨rs, h1, _⟩ := h
  exact h1.1.below
theorem GT.mem {w1 wr : World} {M N c : Nat} {A : Option Addr} {Y : PS} (h : GT w1 wr M N (.slice A M c) Y) (hN : 0 < N) : ∀ p q, p < M → q < N → memB wr (.slice A M c) p q = Y p q := fun p q hp hq => by
  obtain ⟨rs, h1, h2, h3⟩ := h
  subst h2
  exact memB_tab (ownT_tab hN (ownM_T h1)) h3 hp hq
/-- A place of the table: its cells, and the table with one pair more. -/
theorem GT.at_ {w1 wr : World} {M N c : Nat} {A : Option Addr} {Y : PS} (h : GT w1 wr M N (.slice A M c) Y) {p q : Nat} (hp : p < M) (hq : q < N) :
    ∃ ad g, A = some ad ∧ wr.cell? (ad.add p) = some (.slice (some ⟨g, 0, none⟩) N N) ∧ wr.cell? ⟨g, q, none⟩ = some (.bool (Y p q)) ∧ wr.frozen? ⟨g, q, none⟩ = false ∧ GT w1 (wr.setCell ⟨g, q, none⟩ (.bool true)) M N (.slice A M c) (put2 Y p q) := by
  obtain ⟨rs, h1, h2, h3⟩ := h
  subst h2
  obtain ⟨r, hr⟩ : ∃ r, rs[p]? = some r := ⟨_, List.getElem?_eq_getElem hp⟩
  obtain ⟨ad, e, _, hc⟩ := ownT_row (ownM_T h1) hr
  obtain ⟨k1, k2⟩ := ownM_frozen h1 hr (j := q) (b := Y p q) (by rw [h3 p r hr]; exact bF_get _ hq)
  exact ⟨ad, r.1, e, hc, k1, k2, ⟨_, ownM_set h1 hr q true, by rw [List.length_set], rowsM_set h3 hr⟩⟩
/-- What is only read: a table's place. -/
theorem tab_at {w : World} {A : Option Addr} {N : Nat} {rs : List Br} {Y : PS} (h : TabAt w A N rs) (hr : RowsM N rs Y) {p q : Nat} (hp : p < rs.length) (hq : q < N) :
    ∃ ad g, A = some ad ∧ w.cell? (ad.add p) = some (.slice (some ⟨g, 0, none⟩) N N) ∧ w.cell? ⟨g, q, none⟩ = some (.bool (Y p q)) := by
  obtain ⟨r, hrp⟩ : ∃ r, rs[p]? = some r := ⟨_, List.getElem?_eq_getElem hp⟩
  obtain ⟨_, ⟨ad, e, _, h2⟩, _, h4⟩ := h p r hrp
  exact ⟨ad, r.1, e, h2, h4 q (Y p q) (by rw [hr p r hrp]; exact bF_get _ hq)⟩
/-- The rows that stay, under way. -/
def rowL (Z : PS) (k q y : Nat) : Bool := if y < q then Z k y else false
theorem rowL_start (Z : PS) (k n : Nat) : bF n (rowL Z k 0) = List.replicate n false := by
  rw [← bF_false]; exact bF_congr fun t _ => by unfold rowL; rw [if_neg (by omega)]
theorem rowL_next (Z : PS) (k n q : Nat) {b : Bool} (h : Z k q = b) : (bF n (rowL Z k q)).set q b = bF n (rowL Z k (q + 1)) := by
  rw [bF_set]
  refine bF_congr fun y _ => ?_
  unfold rowL
  by_cases e : y = q
  · subst e; rw [if_pos rfl, if_pos (by omega), h]
  · rw [if_neg e]
    by_cases e2 : y < q
    · rw [if_pos e2, if_pos (by omega)]
    · rw [if_neg e2, if_neg (by omega)]
theorem rowL_full (Z : PS) (k n : Nat) : bF n (rowL Z k n) = bF n (Z k) := bF_congr fun y hy => by unfold rowL; rw [if_pos hy]

set_option linter.unusedSimpArgs false in
set_option maxRecDepth 100000 in
set_option maxHeartbeats 16000000 in
theorem rgood_any (v z : Value) (P D : Aut) (free : Int) (w : World) (ha : DfaAt w w.heap.size v P) (hb : DfaAt w w.heap.size z D) (hg : Good2 P D) (hf : 0 ≤ free) (hf2 : free ≤ 9223372036854775807) {Ax : Option Addr} {cx : Nat} {rx : List Br} {X : PS} (hx : TabAt w Ax D.next.length rx) (hxl : rx.length = P.next.length) (hxr : RowsM D.next.length rx X) :
    Calls Tryd.prog 23 #[v, z, .int .i64 free, .slice Ax P.next.length cx] w fun e w' => Hid (∃ A cap rs Z, e = .returned (.slice A P.next.length cap) ∧ rs.length = P.next.length ∧ RowsM D.next.length rs Z ∧ TabAt w' A D.next.length rs ∧ Round P D free X Z ∧ Below w.heap.size w w') := by
  have HA := ha
  obtain ⟨L, s, A, c, F, cf, rfl, ha⟩ := ha
  obtain ⟨L', t, C, d, G, cg, rfl, hb⟩ := hb
  obtain ⟨wx, hwx, hBx, hX, hd1⟩ := box_dfa w ha
  obtain ⟨w1, hw1, hB1, hY, hd2⟩ := box_dfa wx (hb.on hBx)
  have hs1 : wx.heap.size = w.heap.size + 1 := by rw [hwx]; simp
  rw [hs1] at hY
  have hbb := hBx.trans (hB1.mono hBx.size)
  have HB := Lib.hid hbb
  have HX := Lib.hid (hX.on hB1)
  have HY := Lib.hid hY
  have HDA := Lib.hid (hd1.on hB1)
  have HDB := Lib.hid hd2
  have HL1 := Lib.hid (live_any _ P w1 (HA.on hbb) hg.ga)
  have HXt := Lib.hid (hx.on hbb)
  have HXl := Lib.hid hxl
  have HXr := Lib.hid hxr
  have HW : Hid (w1 = (w.alloc (.cells #[.int .i64 L, .int .i64 s, .slice A P.next.length c, .slice F P.fin.length cf] 25)).alloc (.cells #[.int .i64 L', .int .i64 t, .slice C D.next.length d, .slice G D.fin.length cg] 25)) := by
    rw [← hwx]; exact hw1
  have HG := Lib.hid hg
  obtain ⟨n, hn⟩ := Int.eq_ofNat_of_zero_le (show 0 ≤ L by have := hg.ga.l1; have := ha.eL; omega)
  subst hn
  have HL : Hid (P.L = (n : Int)) := ha.eL
  have HLb : Hid (D.L = (n : Int)) := by have := hg.eL; have := ha.eL; unfold Hid; omega
  have hn6 : n ≤ 6 := by have := hg.ga.l6; have := ha.eL; omega
  have hM40 := hg.ga.n40
  have hN40 := hg.gb.n40
  have hN01 := hg.gb.n1
  have hfa := hg.ga.fin
  have hfb := hg.gb.fin
  clear hwx hw1 hBx hB1 hbb hX hY hd1 hd2 hs1 ha hb hg HA hx hxl hxr
  generalize P.fin.length = fa at *
  generalize D.fin.length = fb at *
  generalize hM : P.next.length = M at *
  generalize hN : D.next.length = N at *
  have HM := Lib.hid hM
  have HN := Lib.hid hN
  have hfa1 : fa ≤ M := by omega
  have hfa2 : M ≤ fa := by omega
  have hfb1 : fb ≤ N := by omega
  have hfb2 : N ≤ fb := by omega
  clear hM hN hfa hfb
  have HBit := Lib.hid (fun (c : Nat) W (hc : c ≤ 1000) => (bit_any free (c : Int) W hf hf2 (by omega) (by omega)).mono fun e w' ⟨h1, h2⟩ => (⟨h1.out, h2.symm⟩ : e = Ending.returned (.bool (has free (c : Int))) ∧ w' = W))
  clear hf hf2
  have hc0 := HX.out.c0
  have hc1 := HX.out.c1
  have hc2 := HX.out.c2
  have hc3 := HX.out.c3
  go_enter Tryd.func23, Tryd.ntmps23
  go_wp2_with fail
  rw [← HW.out]
  clear HW
  refine HL1.out.mono ?_
  rintro e wb he
  obtain ⟨gx, rfl, ho1⟩ := he.out
  have hB2 := ho1.below
  have HX := Lib.hid (HX.out.on hB2)
  have HY := Lib.hid (HY.out.on hB2)
  have HDA := Lib.hid (HDA.out.on hB2)
  have HDB := Lib.hid (HDB.out.on hB2)
  have HB := Lib.hid (HB.out.trans (hB2.mono HB.out.size))
  have HXt := Lib.hid (HXt.out.on hB2)
  have XC : Hid (∀ W, Below wb.heap.size wb W → ∀ i, i < M → W.cell? ⟨gx, i, none⟩ = some (.bool (isAlive P i))) := fun W hW i hi => (own_bools_cell (ho1.on hW) (List.mem_append_right _ List.mem_cons_self) (bF_length _ _) (bF_get _ hi)).1
  clear he ho1 HL1 hB2 hc0 hc1 hc2 hc3
  have HS : Hid (GT wb wb 0 N (.slice none 0 0) (fun _ _ => false)) := ⟨[], ⟨(own_start wb).nil 23 1, fun r hr => by simp at hr⟩, rfl, fun j r hj => by simp at hj⟩
  go_wp2
  go_loopw [10, 11] (fun tv i wr => ∃ (k : Nat), k ≤ M ∧ i = .int .i64 k ∧ Hid (GT wb wr k N tv (fun _ _ => false))) (fun _ i _ => M - (intOf i).toNat)
  case atStart => exact ⟨0, by omega, rfl, HS⟩
  case round =>
    clear HS
    obtain ⟨k, hk, rfl, HS⟩ := hrel
    by_cases hkM : k < M
    · as_aux_lemma =>
        obtain ⟨rs, hown, hlen, hrows⟩ := HS.out
        have HLen := Lib.hid hlen
        have HRows := Lib.hid hrows
        have HRL := Lib.hid hown.2
        have HO := Lib.hid hown
        have hlen1 : (rs.map (brV N)).length < 1099511627776 := by rw [List.length_map]; omega
        have hd2 := (HY.out.on HS.out.below).c2
        clear HS hown hlen hrows
        go_wp2_with (at_make; refine mk_bools rfl _ _ rfl N rfl rfl (by omega) ?_)
        intro w4 ho4
        have HO2 : Hid (Own wb w4 (eBRows u10 (rs.map (brV N)) :: eBools (rowV wr.heap.size N) (bF N (fun _ => false)) :: eEachB N rs) []) := by
          have h1 := (HO.out.1.join ho4).two
          rw [bF_false]; exact h1
        clear ho4 HO hd2
        generalize wr.heap.size = gw at *
        go_wp2_with (at_builtin; refine own_brow (by rfl) _ _ (by rfl) (by rfl) HO2.out (by rfl) (by rfl) hlen1 ?_)
        intro g8 cap8 w8 ho8
        have HE : Hid (GT wb w8 (k + 1) N (.slice (some ⟨g8, 0, none⟩) (rs.length + 1) cap8) (fun _ _ => false)) := by
          refine ⟨rs ++ [(gw, bF N (fun _ => false))], ownM_snoc (bF_length _ _) HRL.out ?_, by rw [List.length_append, HLen.out]; rfl, rowsM_snoc HRows.out gw HLen.out⟩
          exact ho8
        clear ho8 HO2
        go_wp2
        go_roundw
        case rel => exact ⟨k + 1, by omega, by go_num, HE⟩
        case measure => simp [intOf]; omega
    · obtain rfl : k = M := by omega
      obtain ⟨rs, hown, hlen, hrows⟩ := HS.out
      obtain ⟨At, ct, htv⟩ := ownT_form (ownM_T hown)
      rw [hlen] at htv
      subst htv
      have HS2 := Lib.hid HS.out
      have HSo : Hid (SoundG P D X (fun _ _ => false)) := fun p q _ _ h => by cases h
      clear HS hown hlen hrows
      go_wp2
      generalize wr = wz at *
      go_loopw [12] (fun gv wr => ∃ (gb : Bool) (Y : PS), gv = .bool gb ∧ Hid (GT wb wr k N (.slice At k ct) Y) ∧ Hid (SoundG P D X Y) ∧ Hid (gb = false → ∀ p q, p < P.next.length → q < D.next.length → (Y p q = true ↔ Co P D X p q))) (fun gv wr => 2 * (k * N - cntY k N (memB wr (.slice At k ct))) + (if bOf gv = true then 1 else 0))
      case atStart => exact ⟨true, _, rfl, HS2, HSo, fun e => by cases e⟩
      case round =>
        clear HS2 HSo
        obtain ⟨gb, Y0, rfl, HGT, HSd, HFu⟩ := hrel
        rcases gb with _ | _
        · have HRd := Lib.hid (left_round (free := free) HG.out (HFu.out rfl))
          have hbw := HGT.out.below
          obtain ⟨rs, hown, hlen, hrows⟩ := HGT.out
          have HTab := Lib.hid (ownT_tab (N := N) (rs := rs) (A := At) (cap := ct) (by omega) (by rw [hlen]; exact ownM_T hown))
          have HLen := Lib.hid hlen
          have HRows := Lib.hid hrows
          have HX := Lib.hid (HX.out.on hbw)
          have HY := Lib.hid (HY.out.on hbw)
          have HDA := Lib.hid (HDA.out.on hbw)
          have HDB := Lib.hid (HDB.out.on hbw)
          have HXt := Lib.hid (HXt.out.on hbw)
          have HB := Lib.hid (HB.out.trans (hbw.mono HB.out.size))
          have XC : Hid (∀ W, Below wr.heap.size wr W → ∀ i, i < k → W.cell? ⟨gx, i, none⟩ = some (.bool (isAlive P i))) := fun W hW i hi => XC.out W (hbw.trans (hW.mono hbw.size)) i hi
          clear HFu HSd HGT hown hlen hrows hbw
          generalize wr = w2 at *
          obtain ⟨Z, hZ⟩ : ∃ Z, Z = leftY P D free Y0 := ⟨_, rfl⟩
          rw [← hZ] at HRd
          have HZ := Lib.hid hZ
          clear hZ
          have HS3 : Hid (GT w2 w2 0 N (.slice none 0 0) Z) := ⟨[], ⟨(own_start w2).nil 23 1, fun r hr => by simp at hr⟩, rfl, fun j r hj => by simp at hj⟩
          go_wp2
          go_loopw [17, 18] (fun tv i wr => ∃ (m : Nat), m ≤ k ∧ i = .int .i64 m ∧ Hid (GT w2 wr m N tv Z)) (fun _ i _ => k - (intOf i).toNat)
          case atStart => exact ⟨0, by omega, rfl, HS3⟩
          case round =>
            clear HS3
            obtain ⟨m, hm, rfl, HS⟩ := hrel
            obtain ⟨r2, hown, hlen, hrows⟩ := HS.out
            have HLen2 := Lib.hid hlen
            have HRows2 := Lib.hid hrows
            have HRL := Lib.hid hown.2
            have HO := Lib.hid hown
            have hlen1 : (r2.map (brV N)).length < 1099511627776 := by rw [List.length_map]; omega
            have hbw := HS.out.below
            clear HS hown hlen hrows
            by_cases hmk : m < k
            · as_aux_lemma =>
                obtain ⟨adx, gxr, eX, hx1, _⟩ := tab_at (HXt.out.on hbw) HXr.out (p := m) (q := 0) (by rw [HXl.out]; exact hmk) (by omega)
                subst eX
                have e1 : (m : Int) < (k : Int) := by omega
                go_wp2_with (at_make; refine mk_bools rfl _ _ rfl N rfl rfl (by omega) ?_)
                intro w4 ho4
                have HR0 : Hid (Own w2 w4 (eBools (rowV wr.heap.size N) (bF N (rowL Z m 0)) :: eBRows u17 (r2.map (brV N)) :: eEachB N r2) []) := by
                  rw [rowL_start]; exact HO.out.1.join ho4
                clear ho4 HO hx1 hbw
                generalize wr.heap.size = gw at *
                have HKl : Hid (m < P.next.length) := by unfold Hid; rw [HM.out]; exact hmk
                go_wp2
                go_loopw [20] (fun i wi => ∃ (q : Nat), q ≤ N ∧ i = .int .i64 q ∧ Hid (Own w2 wi (eBools (rowV gw N) (bF N (rowL Z m q)) :: eBRows u17 (r2.map (brV N)) :: eEachB N r2) [])) (fun i _ => N - (intOf i).toNat)
                case atStart => exact ⟨0, by omega, rfl, HR0⟩
                case round =>
                  clear HR0
                  obtain ⟨q, hq, rfl, HR⟩ := hrel
                  by_cases hqN : q < N
                  · have HQl : Hid (q < D.next.length) := by unfold Hid; rw [HN.out]; exact hqN
                    have hb2 := HR.out.below
                    obtain ⟨k1, k2⟩ := own_bools_cell (g := gw) (n := N) (cap := N) (l := bF N (rowL Z m q)) HR.out (List.mem_append_left _ List.mem_cons_self) (bF_length _ _) (bF_get _ hqN)
                    obtain ⟨adt, gt, eT, ht1, ht2⟩ := tab_at (HTab.out.on hb2) HRows.out (p := m) (q := q) (by rw [HLen.out]; exact hmk) hqN
                    subst eT
                    have HR1 : Hid (Own w2 (wr.setCell ⟨gw, q, none⟩ (.bool (Y0 m q))) (eBools (rowV gw N) ((bF N (rowL Z m q)).set q (Y0 m q && freeTo P D free Y0 m q 0)) :: eBRows u17 (r2.map (brV N)) :: eEachB N r2) []) := by
                      rw [freeTo_zero, Bool.and_true]
                      exact own_bools_set HR.out (bF_length _ _) q _
                    have hc0 := (HX.out.on HR1.out.below).c0
                    have e3 : (q : Int) < (N : Int) := by omega
                    clear HR hb2
                    obtain ⟨y0, hy0⟩ : ∃ y0, Y0 m q = y0 := ⟨_, rfl⟩
                    have HY0 := Lib.hid hy0
                    rw [hy0] at HR1 ht2 hc0
                    clear hy0
                    generalize rowL Z m q q = old at *
                    go_wp2
                    clear hc0 k1 k2 ht1 ht2
                    go_loopw [21] (fun i wi => ∃ (c : Nat), c ≤ n ∧ i = .int .i64 c ∧ Hid (Own w2 wi (eBools (rowV gw N) ((bF N (rowL Z m q)).set q (y0 && freeTo P D free Y0 m q c)) :: eBRows u17 (r2.map (brV N)) :: eEachB N r2) [])) (fun i _ => n - (intOf i).toNat)
                    case atStart => exact ⟨0, by omega, rfl, HR1⟩
                    case round =>
                      clear HR1
                      obtain ⟨c, hc, rfl, HR⟩ := hrel
                      have hb2 := HR.out.below
                      have hc0 := (HX.out.on hb2).c0
                      by_cases hcn : c < n
                      · have HcL : Hid ((c : Int) < P.L) := by rw [HL.out]; unfold Hid; omega
                        obtain ⟨ad, ar, mr, cr, eA, hadb, hcell, hjm, harb, hac⟩ := (HDA.out.on hb2).step_at HG.out.ga HKl.out (i := c) HcL.out
                        obtain ⟨ad', ar', mr', cr', eC, hadb', hcell', hjm', harb', hac'⟩ := (HDB.out.on hb2).step_at HG.out.gb HQl.out (i := c) (by rw [HLb.out]; omega)
                        subst eA eC
                        have hu := HG.out.ga.step_lt HKl.out HcL.out
                        have hv := HG.out.gb.step_lt HQl.out (a := c) (by rw [HLb.out]; omega)
                        rw [HM.out] at hu
                        rw [HN.out] at hv
                        have hxu := XC.out _ hb2 _ hu
                        obtain ⟨adt', gt, eT, ht1, ht2⟩ := tab_at (HTab.out.on hb2) HRows.out (p := Df.step P m c) (q := Df.step D q c) (by rw [HLen.out]; exact hu) hv
                        cases eT
                        have hca := (HX.out.on hb2).c2
                        have hcb := (HY.out.on hb2).c2
                        have e4 : (c : Int) < (mr : Int) := by omega
                        have e5 : (c : Int) < (mr' : Int) := by omega
                        have e6 : (Df.step P m c : Int) < (k : Int) := by omega
                        have e7 : (Df.step D q c : Int) < (N : Int) := by omega
                        have HBt := Lib.hid (fun W => HBit.out c W (by omega))
                        have hsu := freeTo_succ P D free Y0 m q c
                        have hlz : ((bF N (rowL Z m q)).set q (y0 && freeTo P D free Y0 m q c)).length = N := by rw [List.length_set, bF_length]
                        have HStB : Hid (∀ W, Below wr.heap.size wr W → W.cell? ⟨gw, q, none⟩ = some (.bool (y0 && freeTo P D free Y0 m q c)) ∧ W.frozen? ⟨gw, q, none⟩ = false ∧ Own w2 (W.setCell ⟨gw, q, none⟩ (.bool false)) (eBools (rowV gw N) ((bF N (rowL Z m q)).set q false) :: eBRows u17 (r2.map (brV N)) :: eEachB N r2) []) := fun W hW => by
                          have hO := HR.out.on hW
                          obtain ⟨q1, q2⟩ := own_bools_cell (g := gw) (n := N) (cap := N) hO (List.mem_append_left _ List.mem_cons_self) hlz (j := q) (x := (y0 && freeTo P D free Y0 m q c)) (by rw [List.getElem?_set, if_pos rfl, if_pos (by rw [bF_length]; exact hqN)])
                          have q3 := own_bools_set hO hlz q false
                          rw [List.set_set] at q3
                          exact ⟨q1, q2, q3⟩
                        have HKp : Hid (∀ i, Own w2 (wr.drewN i) (eBools (rowV gw N) ((bF N (rowL Z m q)).set q (y0 && freeTo P D free Y0 m q c)) :: eBRows u17 (r2.map (brV N)) :: eEachB N r2) []) := fun i => HR.out.drewN i
                        have HDn : Hid (∀ i, Below wr.heap.size wr (wr.drewN i)) := fun i => below_drewN (Below.refl _ _) i
                        clear HR hb2 hadb hadb' harb harb' hjm hjm' HcL
                        generalize freeTo P D free Y0 m q c = f0 at *
                        obtain ⟨f1, hf1⟩ : ∃ f1, freeTo P D free Y0 m q (c + 1) = f1 := ⟨_, rfl⟩
                        rw [hf1] at hsu
                        have HF1 := Lib.hid hf1
                        clear hf1
                        generalize isAlive P (Df.step P m c) = b4 at *
                        generalize Y0 (Df.step P m c) (Df.step D q c) = b5 at *
                        generalize Df.step P m c = u at *
                        generalize Df.step D q c = v at *
                        generalize has free (c : Int) = b3 at *
                        rcases b3 with _ | _
                        · have HE0 : Hid (f1 = f0) := by unfold Hid; rw [hsu]; simp
                          have HE : Hid (∀ i, Own w2 (wr.drewN i) (eBools (rowV gw N) ((bF N (rowL Z m q)).set q (y0 && f1)) :: eBRows u17 (r2.map (brV N)) :: eEachB N r2) []) := fun i => by rw [HE0.out]; exact HKp.out i
                          clear HKp HStB hsu HE0
                          go_wp2_with fail
                          go_quiet ((go_at_call 21; with_reducible exact Calls.quiet_of_same (HBt.out _)))
                          clear HBt
                          go_wp2
                          go_roundw
                          case rel => exact ⟨c + 1, by omega, by go_num, Lib.hid (by rw [HF1.out]; exact HE.out _)⟩
                          case measure => simp [intOf]; omega
                        · rcases b4 with _ | _
                          · have HE0 : Hid (f1 = f0) := by unfold Hid; rw [hsu]; simp
                            have HE : Hid (∀ i, Own w2 (wr.drewN i) (eBools (rowV gw N) ((bF N (rowL Z m q)).set q (y0 && f1)) :: eBRows u17 (r2.map (brV N)) :: eEachB N r2) []) := fun i => by rw [HE0.out]; exact HKp.out i
                            clear HKp HStB hsu HE0
                            go_wp2_with fail
                            go_quiet ((go_at_call 21; with_reducible exact Calls.quiet_of_same (HBt.out _)))
                            clear HBt
                            go_wp2
                            go_roundw
                            case rel => exact ⟨c + 1, by omega, by go_num, Lib.hid (by rw [HF1.out]; exact HE.out _)⟩
                            case measure => simp [intOf]; omega
                          · rcases b5 with _ | _
                            · have HE0 : Hid (f1 = false) := by unfold Hid; rw [hsu]; simp
                              have HStC : Hid (∀ i, (wr.drewN i).cell? ⟨gw, q, none⟩ = some (.bool (y0 && f0)) ∧ (wr.drewN i).frozen? ⟨gw, q, none⟩ = false ∧ Own w2 ((wr.drewN i).setCell ⟨gw, q, none⟩ (.bool false)) (eBools (rowV gw N) ((bF N (rowL Z m q)).set q (y0 && f1)) :: eBRows u17 (r2.map (brV N)) :: eEachB N r2) []) := fun i => by
                                obtain ⟨q1, q2, q3⟩ := HStB.out _ (HDn.out i)
                                exact ⟨q1, q2, by rw [HE0.out, Bool.and_false]; exact q3⟩
                              obtain ⟨s0, s1, _⟩ := HStB.out wr (Below.refl _ _)
                              clear HKp HStB hsu HE0
                              go_wp2_with fail
                              go_quiet ((go_at_call 21; with_reducible exact Calls.quiet_of_same (HBt.out _)))
                              clear HBt
                              go_wp2
                              go_roundw
                              case rel => exact ⟨c + 1, by omega, by go_num, Lib.hid (by rw [HF1.out]; exact (HStC.out _).2.2)⟩
                              case measure => simp [intOf]; omega
                            · have HE0 : Hid (f1 = f0) := by unfold Hid; rw [hsu]; simp
                              have HE : Hid (∀ i, Own w2 (wr.drewN i) (eBools (rowV gw N) ((bF N (rowL Z m q)).set q (y0 && f1)) :: eBRows u17 (r2.map (brV N)) :: eEachB N r2) []) := fun i => by rw [HE0.out]; exact HKp.out i
                              clear HKp HStB hsu HE0
                              go_wp2_with fail
                              go_quiet ((go_at_call 21; with_reducible exact Calls.quiet_of_same (HBt.out _)))
                              clear HBt
                              go_wp2
                              go_roundw
                              case rel => exact ⟨c + 1, by omega, by go_num, Lib.hid (by rw [HF1.out]; exact HE.out _)⟩
                              case measure => simp [intOf]; omega
                      · obtain rfl : c = n := by omega
                        have HE : Hid (Own w2 wr (eBools (rowV gw N) (bF N (rowL Z m (q + 1))) :: eBRows u17 (r2.map (brV N)) :: eEachB N r2) []) := by
                          have h1 := HR.out
                          have hz : Z m q = (y0 && freeTo P D free Y0 m q c) := by
                            rw [HZ.out]
                            unfold leftY
                            rw [HY0.out, show P.L.toNat = c by have := HL.out; omega]
                          rw [rowL_next Z m N q hz] at h1
                          exact h1
                        clear HR hb2
                        go_wp2
                        go_roundw
                        case rel => exact ⟨q + 1, by omega, by go_num, HE⟩
                        case measure => simp [intOf]; omega
                  · obtain rfl : q = N := by omega
                    have HO2 : Hid (Own w2 wr (eBRows u17 (r2.map (brV q)) :: eBools (rowV gw q) (bF q (Z m)) :: eEachB q r2) []) := by rw [← rowL_full]; exact HR.out.two
                    clear HR
                    go_wp2_with (at_builtin; refine own_brow (by rfl) _ _ (by rfl) (by rfl) HO2.out (by rfl) (by rfl) hlen1 ?_)
                    intro g8 cap8 w8 ho8
                    have HE : Hid (GT w2 w8 (m + 1) q (.slice (some ⟨g8, 0, none⟩) (r2.length + 1) cap8) Z) :=
                      ⟨r2 ++ [(gw, bF q (Z m))], ownM_snoc (bF_length _ _) HRL.out ho8, by rw [List.length_append, HLen2.out]; rfl, rowsM_snoc HRows2.out gw HLen2.out⟩
                    clear ho8 HO2
                    go_wp2
                    go_roundw
                    case rel => exact ⟨m + 1, by omega, by go_num, HE⟩
                    case measure => simp [intOf]; omega
            · obtain rfl : m = k := by omega
              obtain ⟨A2, c2, htv⟩ := ownT_form (ownM_T HO.out)
              rw [HLen2.out] at htv
              subst htv
              have HT2 := Lib.hid (ownT_tab (N := N) (rs := r2) (A := A2) (cap := c2) (by omega) (by rw [HLen2.out]; exact ownM_T HO.out))
              have HBe := Lib.hid (HB.out.trans (hbw.mono HB.out.size))
              clear HO hbw
              go_wp2
              go_ret
              exact ⟨A2, c2, r2, Z, rfl, HLen2.out, HRows2.out, HT2.out, HRd.out, HBe.out⟩
        · clear HFu
          have HP0 := Lib.hid (pass_start HSd.out)
          have HMe : Hid (cntY k N (memB wr (.slice At k ct)) = cntY k N Y0) := cntY_congr (HGT.out.mem (by omega))
          obtain ⟨C0, hC0⟩ : ∃ C0, C0 = cntY k N (memB wr (.slice At k ct)) := ⟨_, rfl⟩
          rw [← hC0] at HMe
          have hCle : C0 ≤ k * N := by rw [hC0]; exact cntY_le _ _ _
          have HC0 := Lib.hid hC0
          clear hC0
          go_wp2
          go_loopw [12, 13] (fun gv i wr => ∃ (s : Nat) (gb : Bool) (Y : PS), s ≤ k ∧ gv = .bool gb ∧ i = .int .i64 s ∧ Hid (GT wb wr k N (.slice At k ct) Y) ∧ Hid (Pass P D X Y0 Y gb s 0)) (fun _ i _ => k - (intOf i).toNat)
          case atStart => exact ⟨0, false, Y0, by omega, rfl, rfl, HGT, HP0⟩
          case round =>
            clear HP0 HGT
            obtain ⟨s, gb, Y, hs, rfl, rfl, HGT, HP⟩ := hrel
            by_cases hsk : s < k
            · go_wp2
              go_loopw [12, 14] (fun gv i wr => ∃ (t : Nat) (gb : Bool) (Y : PS), t ≤ N ∧ gv = .bool gb ∧ i = .int .i64 t ∧ Hid (GT wb wr k N (.slice At k ct) Y) ∧ Hid (Pass P D X Y0 Y gb s t)) (fun _ i _ => N - (intOf i).toNat)
              case atStart => exact ⟨0, gb, Y, by omega, rfl, rfl, HGT, HP⟩
              case round =>
                clear HP HGT
                obtain ⟨t, gb, Y, ht, rfl, rfl, HGT, HP⟩ := hrel
                have hbw := HGT.out.below
                have e1 : (s : Int) < (k : Int) := by omega
                obtain ⟨adx, gxr, eX, hx1, _⟩ := tab_at (HXt.out.on hbw) HXr.out (p := s) (q := 0) (by rw [HXl.out]; exact hsk) (by omega)
                subst eX
                by_cases htN : t < N
                · have HKs : Hid (s < P.next.length) := by unfold Hid; rw [HM.out]; exact hsk
                  have HKt : Hid (t < D.next.length) := by unfold Hid; rw [HN.out]; exact htN
                  have hc3 := (HX.out.on hbw).c3
                  have hd3 := (HY.out.on hbw).c3
                  obtain ⟨adf, eF, _, hcf, _⟩ := (HDA.out.on hbw).fins.at_ (HG.out.ga.fin_at HKs.out)
                  obtain ⟨adg, eG, _, hcg, _⟩ := (HDB.out.on hbw).fins.at_ (HG.out.gb.fin_at HKt.out)
                  subst eF eG
                  have e2 : (s : Int) < (fa : Int) := by omega
                  have e3 : (t : Int) < (fb : Int) := by omega
                  have hc0 := (HX.out.on hbw).c0
                  have HK0 : Hid (okTo P D Y s t 0 = (finA P s && finA D t)) := okTo_zero _ _ _ _ _
                  generalize finA P s = b1 at *
                  generalize finA D t = b2 at *
                  have HO0 : Hid (okTo P D Y s t 0 = (b1 && b2)) := HK0.out
                  clear HK0
                  obtain ⟨okv, hok⟩ : ∃ okv, okTo P D Y s t 0 = okv := ⟨_, rfl⟩
                  have HOk := Lib.hid hok
                  have hbb : okv = (b1 && b2) := by rw [← hok]; exact HO0.out
                  clear hok HO0
                  rcases b1 with _ | _ <;> rcases b2 with _ | _
                  all_goals
                    simp only [Bool.and_true, Bool.and_false, Bool.true_and, Bool.false_and] at hbb
                    subst hbb
                    go_wp2
                    clear hc3 hd3 hcf hcg hc0 hx1
                    go_loopw [15, 16] (fun ov i wr => ∃ (c : Nat) (ob : Bool), c ≤ n ∧ ov = .bool ob ∧ i = .int .i64 c ∧ Hid (okTo P D Y s t c = ob) ∧ Hid (GT wb wr k N (.slice At k ct) Y)) (fun _ i _ => n - (intOf i).toNat)
                    case atStart => exact ⟨0, _, by omega, rfl, rfl, HOk, HGT⟩
                    case round =>
                      clear HOk HGT hbw
                      obtain ⟨c, ob, hc, rfl, rfl, HOk, HGT⟩ := hrel
                      have hbw := HGT.out.below
                      have hc0 := (HX.out.on hbw).c0
                      by_cases hcn : c < n
                      · have HcL : Hid ((c : Int) < P.L) := by rw [HL.out]; unfold Hid; omega
                        obtain ⟨ad, ar, mr, cr, eA, hadb, hcell, hjm, harb, hac⟩ := (HDA.out.on hbw).step_at HG.out.ga HKs.out (i := c) HcL.out
                        obtain ⟨ad', ar', mr', cr', eC, hadb', hcell', hjm', harb', hac'⟩ := (HDB.out.on hbw).step_at HG.out.gb HKt.out (i := c) (by rw [HLb.out]; omega)
                        subst eA eC
                        have hu := HG.out.ga.step_lt HKs.out HcL.out
                        have hv := HG.out.gb.step_lt HKt.out (a := c) (by rw [HLb.out]; omega)
                        rw [HM.out] at hu
                        rw [HN.out] at hv
                        obtain ⟨adt, gu, eT, hu1, hu2, _⟩ := HGT.out.at_ hu hv
                        subst eT
                        have hca := (HX.out.on hbw).c2
                        have hcb := (HY.out.on hbw).c2
                        have hsu := okTo_succ P D Y s t c
                        rw [HOk.out] at hsu
                        have e4 : (c : Int) < (mr : Int) := by omega
                        have e5 : (c : Int) < (mr' : Int) := by omega
                        have e6 : (Df.step P s c : Int) < (k : Int) := by omega
                        have e7 : (Df.step D t c : Int) < (N : Int) := by omega
                        have HGd : Hid (∀ m, GT wb (wr.drewN m) k N (.slice (some adt) k ct) Y) := fun m => HGT.out.on (below_drewN (Below.refl _ _) m)
                        clear hbw hadb hadb' harb harb' hjm hjm' HcL HGT
                        generalize Y (Df.step P s c) (Df.step D t c) = yb at *
                        generalize Df.step P s c = u at *
                        generalize Df.step D t c = v at *
                        rcases ob with _ | _
                        · have HOk2 : Hid (okTo P D Y s t (c + 1) = yb) := by unfold Hid; rw [hsu]; rfl
                          clear hsu HOk
                          go_wp2_with fail
                          go_quiet (fail)
                          go_wp2
                          go_roundw
                          case rel => exact ⟨c + 1, yb, by omega, rfl, by go_num, HOk2, HGd.out _⟩
                          case measure => simp [intOf]; omega
                        · have HOk2 : Hid (okTo P D Y s t (c + 1) = true) := by unfold Hid; rw [hsu]; rfl
                          clear hsu HOk
                          go_wp2_with fail
                          go_quiet (fail)
                          go_wp2
                          go_roundw
                          case rel => exact ⟨c + 1, true, by omega, rfl, by go_num, HOk2, HGd.out _⟩
                          case measure => simp [intOf]; omega
                      · obtain rfl : c = n := by omega
                        have HOL : Hid (okTo P D Y s t P.L.toNat = ob) := by rw [show P.L.toNat = c by have := HL.out; omega]; exact HOk.out
                        obtain ⟨adx2, gxr2, eX, hx1, hx2⟩ := tab_at (HXt.out.on hbw) HXr.out (p := s) (q := t) (by rw [HXl.out]; exact hsk) htN
                        cases eX
                        obtain ⟨adt, gu, eT, hu1, hu2, hu3, hu4⟩ := HGT.out.at_ hsk htN
                        subst eT
                        have hGT := HGT.out
                        have HSet : Hid (ob = true → X s t = true → Y s t = false → GT wb (wr.setCell ⟨gu, t, none⟩ (.bool true)) k N (.slice (some adt) k ct) (put2 Y s t) ∧ Pass P D X Y0 (put2 Y s t) true s (t + 1)) := fun h1 h2 h3 => ⟨hu4, pass_set HG.out HKs.out HKt.out (by rw [HOL.out, h1]) h2 h3 HP.out⟩
                        have HKeep : Hid ((ob = true → X s t = true → Y s t = true) → Pass P D X Y0 Y gb s (t + 1)) := fun h => pass_keep (fun h1 h2 => h (by rw [← HOL.out]; exact h1) h2) HP.out
                        have e3 : (t : Int) < (N : Int) := by omega
                        clear HOk HOL hu4 hbw
                        generalize hxb : X s t = xb at *
                        generalize hyb : Y s t = yb at *
                        have HXb := Lib.hid hxb
                        have HYb := Lib.hid hyb
                        clear hxb hyb
                        rcases ob with _ | _
                        · have HE := Lib.hid (HKeep.out (fun q => by cases q))
                          clear HSet HKeep
                          go_wp2
                          go_roundw
                          case rel => exact ⟨t + 1, gb, Y, by omega, rfl, by go_num, HGT, HE⟩
                          case measure => simp [intOf]; omega
                        · rcases xb with _ | _
                          · have HE := Lib.hid (HKeep.out (fun _ q => by cases q))
                            clear HSet HKeep
                            go_wp2
                            go_roundw
                            case rel => exact ⟨t + 1, gb, Y, by omega, rfl, by go_num, HGT, HE⟩
                            case measure => simp [intOf]; omega
                          · rcases yb with _ | _
                            · obtain ⟨h1, h2⟩ := HSet.out rfl rfl rfl
                              have HG9 := Lib.hid h1
                              have HP9 := Lib.hid h2
                              clear HSet HKeep h1 h2 HGT hGT
                              go_wp2
                              go_roundw
                              case rel => exact ⟨t + 1, true, _, by omega, rfl, by go_num, HG9, HP9⟩
                              case measure => simp [intOf]; omega
                            · have HE := Lib.hid (HKeep.out (fun _ _ => rfl))
                              clear HSet HKeep
                              go_wp2
                              go_roundw
                              case rel => exact ⟨t + 1, gb, Y, by omega, rfl, by go_num, HGT, HE⟩
                              case measure => simp [intOf]; omega
                · obtain rfl : t = N := by omega
                  have HE := Lib.hid (pass_row HN.out HP.out)
                  clear HP hbw
                  go_wp2
                  go_roundw
                  case rel => exact ⟨s + 1, gb, Y, by omega, rfl, by go_num, HGT, HE⟩
                  case measure => simp [intOf]; omega
            · obtain rfl : s = k := by omega
              have HSd2 := Lib.hid HP.out.sound
              have HFu2 : Hid (gb = false → ∀ p q, p < P.next.length → q < D.next.length → (Y p q = true ↔ Co P D X p q)) := fun e => by
                have h1 := HP.out
                rw [e] at h1
                exact pass_end HG.out HM.out h1
              have HM2 : Hid (cntY s N (memB wr (.slice At s ct)) = cntY s N Y) := cntY_congr (HGT.out.mem (by omega))
              have HLe : Hid (if gb = true then C0 < cntY s N Y else C0 ≤ cntY s N Y) := by
                unfold Hid
                rw [HMe.out]
                rcases gb with _ | _
                · rw [if_neg (by decide)]
                  exact Nat.le_of_eq (cntY_congr fun p q _ _ => ((HP.out.same rfl).1 p q).symm)
                · rw [if_pos rfl]
                  obtain ⟨p, q, hp, hq, h1, h2⟩ := HP.out.grew rfl
                  exact cntY_lt (fun p q _ _ h => HP.out.mono p q h) ⟨p, q, by rw [← HM.out]; exact hp, by rw [← HN.out]; exact hq, h1, h2⟩
              have hCl2 := cntY_le s N Y
              clear HP
              go_wp2
              go_roundw
              case rel => exact ⟨gb, Y, rfl, HGT, HSd2, HFu2⟩
              case measure =>
                have h7 := HM2.out
                have h8 := HLe.out
                have h9 := HC0.out
                simp [bOf]
                rw [h7, ← h9]
                rcases gb with _ | _
                · rw [if_neg (by decide)] at h8
                  simp
                  omega
                · rw [if_pos rfl] at h8
                  simp
                  omega
end Go.Proofs.YtbciefeipiphiaaDoor.Su
