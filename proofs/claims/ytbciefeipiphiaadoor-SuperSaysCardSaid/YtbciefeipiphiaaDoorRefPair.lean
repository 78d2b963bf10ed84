/- The walk of the document's answer for package dfa: stilewardref1's Pair. Two automata in variables that are laid anew: what DfaPairs' walk carries. -/
import Derived.Test.YtbciefeipiphiaaDoorRefNot

namespace Go.Proofs.YtbciefeipiphiaaDoor.Df
open Go.RowKit Go.IntWalk Go.Proofs.YtbciefeipiphiaaDoor.Wd Go.Proofs.YtbciefeipiphiaaDoor.Wo

/-- The row of one, as far as letter c. -/
def trow {α : Type} [DecidableEq α] (S : α → List α) (l : List α) (x : α) (c : Nat) : List Int := ((S x).take c).map fun t => ((num (addAll l ((S x).take c)) t : Nat) : Int)
theorem trow_step {α : Type} [DecidableEq α] {S : α → List α} {l : List α} {x t : α} {c : Nat} (h : (S x)[c]? = some t) :
    trow S l x (c + 1) = trow S l x c ++ [((num (addTo (addAll l ((S x).take c)) t) t : Nat) : Int)] := by
  have hc := (List.getElem?_eq_some_iff.1 h).1
  have ht := (List.getElem?_eq_some_iff.1 h).2
  obtain ⟨m, hm⟩ := addTo_prefix (addAll l ((S x).take c)) t
  unfold trow
  rw [addAll_succ h, ← List.take_append_getElem hc, List.map_append, ht]
  congr 1
  exact List.map_congr_left fun y hy => by rw [hm, idx_append (mem_addAll.2 (.inr hy))]
theorem trow_full {α : Type} [DecidableEq α] {S : α → List α} {l : List α} {x : α} {n : Nat} (h : (S x).length = n) : trow S l x n = srow S (addAll l (S x)) x := by
  unfold trow srow; rw [List.take_of_length_le (by omega)]
def kindF (K : Int) : Bool → Bool → Bool := if K = 0 then fun x y => x && y else if K = 1 then fun x y => x || y else fun x y => x && !y
def fsts (l : List (Nat × Nat)) : List Int := l.map fun p => ((p.1 : Nat) : Int)
def snds (l : List (Nat × Nat)) : List Int := l.map fun p => ((p.2 : Nat) : Int)
theorem fsts_get {l : List (Nat × Nat)} {k : Nat} {p : Nat × Nat} (h : l[k]? = some p) : (fsts l)[k]? = some ((p.1 : Nat) : Int) := by unfold fsts; rw [List.getElem?_map, h]; rfl
theorem snds_get {l : List (Nat × Nat)} {k : Nat} {p : Nat × Nat} (h : l[k]? = some p) : (snds l)[k]? = some ((p.2 : Nat) : Int) := by unfold snds; rw [List.getElem?_map, h]; rfl
theorem fsts_len (l : List (Nat × Nat)) : (fsts l).length = l.length := List.length_map _
theorem snds_len (l : List (Nat × Nat)) : (snds l).length = l.length := List.length_map _
theorem fsts_app (l : List (Nat × Nat)) (p : Nat × Nat) : fsts (l ++ [p]) = fsts l ++ [((p.1 : Nat) : Int)] := by unfold fsts; rw [List.map_append]; rfl
theorem snds_app (l : List (Nat × Nat)) (p : Nat × Nat) : snds (l ++ [p]) = snds l ++ [((p.2 : Nat) : Int)] := by unfold snds; rw [List.map_append]; rfl
/-- What a row of ints that is owned reads as. -/
theorem own_read {w0 w : World} {es fs : List Ent} (h : Own w0 w es fs) {v : Value} {l : List Int} (he : eInts v l ∈ es ++ fs) : ∃ A cap, v = .slice A l.length cap ∧ Cells w w.heap.size A (l.map i64) := by
  obtain ⟨A, cap, hv, _, _, _⟩ := h.form he
  simp only [eInts] at hv
  subst hv
  exact ⟨A, cap, rfl, h.cells he⟩
theorem cells_int {w : World} {B : Nat} {A : Option Addr} {l : List Int} (h : Cells w B A (l.map i64)) {k : Nat} {y : Int} (hk : l[k]? = some y) : ∃ ad, A = some ad ∧ ad.block < B ∧ w.cell? (ad.add k) = some (.int .i64 y) :=
  h k (.int .i64 y) (by rw [List.getElem?_map, hk]; rfl)
theorem size_setC (w : World) (ad : Addr) (v : Value) : (w.setCell ad v).heap.size = w.heap.size := by simp
/-- The state, midway. -/
def QInv (w1 wr : World) (g gr : Nat) (a b : Aut) (h : Bool → Bool → Bool) (i : Nat) (xv yv : Value) : Prop :=
  ∃ l nv fv rs, Part (S2 a b) (start2 a b) i l ∧ Build w1 wr g (eDfa gr zero4 :: eInts xv (fsts l) :: eInts yv (snds l) :: []) a.L 0 ((l.take i).map (srow (S2 a b) l)) ((l.take i).map (fun p => h (finA a p.1) (finA b p.2))) nv fv rs
/-- The same within a row. -/
def TInv (w1 wi : World) (g gr : Nat) (a b : Aut) (h : Bool → Bool → Bool) (k : Nat) (l : List (Nat × Nat)) (p : Nat × Nat) (n c : Nat) (nv fv : Value) (rs : List (Value × List Int)) (xv yv rv : Value) : Prop :=
  Own w1 wi [eInts xv (fsts (addAll l ((S2 a b p).take c))), eInts yv (snds (addAll l ((S2 a b p).take c))), eInts rv (trow (S2 a b) l p c),
    eRows nv (rs.map (·.1)), eBools fv ((l.take k).map (fun p => h (finA a p.1) (finA b p.2))), eDfa g [.int .i64 (n : Int), .int .i64 0, nv, fv], eDfa gr zero4] (eEach rs)
set_option linter.unusedSimpArgs false in
set_option maxRecDepth 100000 in
set_option maxHeartbeats 4000000 in
theorem rpair_any (K : Int) (hK : K = 0 ∨ K = 1 ∨ K = 2) (v z : Value) (a b : Aut) (w : World) (ha : DfaAt w w.heap.size v a) (hb : DfaAt w w.heap.size z b) :
    Calls Tryd.prog 22 #[v, z, .int .i64 K] w fun e w' => Hid (∃ x, e = .returned (.tuple #[x, .int .i64 ((prodOut (kindF K) a b).2 : Nat)]) ∧ DfaOwn w w' x (prodOut (kindF K) a b).1) := by
  have HA := ha
  have HZ := hb
  obtain ⟨L, s, A, c, F, cf, rfl, ha⟩ := ha
  obtain ⟨M, t, C, d, G, cg, rfl, hb⟩ := hb
  obtain ⟨wx, hwx, hBx, hX, hd1⟩ := box_dfa w ha
  obtain ⟨w1, hw1, hB1, hY, hd2⟩ := box_dfa wx (hb.on hBx)
  have hs1 : wx.heap.size = w.heap.size + 1 := by rw [hwx]; simp
  have hs2 : w1.heap.size = w.heap.size + 2 := by rw [hw1]; simp; omega
  rw [hs1] at hY
  have hres := below_alloc w1 (.cells #[.int .i64 0, .int .i64 0, .slice none 0 0, .slice none 0 0] 25)
  have HB := Lib.hid (hBx.trans (hB1.mono hBx.size))
  have HX := Lib.hid (hX.on hB1)
  have HY := Lib.hid hY
  have HDA := Lib.hid (hd1.on hB1)
  have HDB := Lib.hid hd2
  have HT := Lib.hid (rtwo_any _ _ a b _ ((HA.on HB.out).on hres) ((HZ.on HB.out).on hres))
  have HW : Hid (w1 = (w.alloc (.cells #[.int .i64 L, .int .i64 s, .slice A a.next.length c, .slice F a.fin.length cf] 25)).alloc (.cells #[.int .i64 M, .int .i64 t, .slice C b.next.length d, .slice G b.fin.length cg] 25)) := by
    rw [← hwx]; exact hw1
  have HO := Lib.hid ((own_start w1).dfa (.int .i64 0) (.int .i64 0) (.slice none 0 0) (.slice none 0 0))
  rw [hs2] at HO
  have HX2 := Lib.hid (HX.out.on hres)
  have HY2 := Lib.hid (HY.out.on hres)
  have HL : Hid (a.L = L ∧ a.s = s ∧ b.L = M ∧ b.s = t) := ⟨ha.eL, ha.es, hb.eL, hb.es⟩
  have hc0 := HX2.out.c0
  have hc1 := HX2.out.c1
  have hc2 := HX2.out.c2
  have hc3 := HX2.out.c3
  have hd0 := HY2.out.c0
  have hd1' := HY2.out.c1
  have hd2' := HY2.out.c2
  have hd3 := HY2.out.c3
  clear hwx hw1 hBx hB1 hX hY hd1 hd2 hs1 hs2 ha hb hres
  have HKK := Lib.hid hK
  clear hK
  generalize hh : kindF K = h at *
  have HH := Lib.hid hh
  clear hh
  rcases g1 : chkD2 a b with _ | e0
  · rw [g1] at HT
    have HG : Hid (Good2 a b) := chkD2_iff.1 g1
    have HG1 := Lib.hid g1
    obtain ⟨hL, hs, hM, ht⟩ := HL.out
    obtain ⟨n, hn⟩ := Int.eq_ofNat_of_zero_le (show 0 ≤ L by have := HG.out.ga.l1; omega)
    obtain ⟨p0, hp0⟩ := Int.eq_ofNat_of_zero_le (show 0 ≤ s by have := HG.out.ga.st.1; omega)
    obtain ⟨q0, hq0⟩ := Int.eq_ofNat_of_zero_le (show 0 ≤ t by have := HG.out.gb.st.1; omega)
    have hMn : M = (n : Int) := by have := HG.out.eL; omega
    have HS0 : Hid (start2 a b = (p0, q0)) := by unfold start2 Hid; rw [hs, ht, hp0, hq0]; rfl
    have hn1 : 1 ≤ n := by have := HG.out.ga.l1; omega
    have hn6 : n ≤ 6 := by have := HG.out.ga.l6; omega
    have HN : Hid (a.L = (n : Int)) := by rw [hL, hn]; rfl
    subst hn hp0 hq0 hMn
    clear hL hs hM ht g1 HL HA HZ
    generalize hm1 : a.fin.length = fa at *
    generalize hm2 : b.fin.length = fb at *
    have HFA := Lib.hid hm1
    have HFB := Lib.hid hm2
    clear hm1 hm2
    go_enter Tryd.func22, Tryd.ntmps22
    go_wp2_with fail
    rw [← HW.out]
    clear HW
    refine HT.out.mono ?_
    rintro e w2 ⟨he, hb⟩
    obtain rfl : e = .returned (.int .i64 0) := he.out
    have HO2 := Lib.hid (HO.out.on hb)
    have HX3 := Lib.hid (HX2.out.on hb)
    have HY3 := Lib.hid (HY2.out.on hb)
    clear hc0 hc1 hc2 hc3 hd0 hd1' hd2' hd3 HX2 HY2 HO hb HT he
    have hc0 := HX3.out.c0
    have hc1 := HX3.out.c1
    have hd1' := HY3.out.c1
    have hlx := HX3.out.lt
    have hly := HY3.out.lt
    have HS : Hid (QInv w1 (((w2.alloc (.cells #[.int .i64 (n : Int), .int .i64 0, .slice none 0 0, .slice none 0 0] 25)).alloc (.cells #[.int .i64 (p0 : Int)] 3)).alloc (.cells #[.int .i64 (q0 : Int)] 3)) w2.heap.size (w.heap.size + 1 + 1) a b h 0 (.slice (some ⟨w2.heap.size + 1, 0, none⟩) 1 1) (.slice (some ⟨w2.heap.size + 1 + 1, 0, none⟩) 1 1)) := by
      have h1 := HO2.out.dfa (.int .i64 (n : Int)) (.int .i64 0) (.slice none 0 0) (.slice none 0 0)
      have h2 := h1.lit 3 1 1 #[.int .i64 (p0 : Int)] rfl (by simp [maxLen])
      have h3 := h2.lit 3 1 1 #[.int .i64 (q0 : Int)] rfl (by simp [maxLen])
      simp only [size_al'] at h3
      have hp := part_zero (S2 a b) (start2 a b)
      refine ⟨_, .slice none 0 0, .slice none 0 0, [], hp, rfl, ?_⟩
      rw [HS0.out, HN.out]
      exact ((h3.re [2, 3, 1, 0] 4 rfl (by decide)).nil 4 1).nil 27 1
    clear HO2
    go_wp2
    clear hc0 hc1 hd1' hlx hly HX3 HY3
    generalize w2.heap.size = g at *
    go_loopw [10, 11, 12] (fun xv yv i wr => ∃ (k : Nat), k ≤ 40 ∧ i = .int .i64 k ∧ Hid (QInv w1 wr g (w.heap.size + 1 + 1) a b h k xv yv)) (fun _ _ i _ => 41 - (intOf i).toNat)
    case atStart => exact ⟨0, by omega, rfl, HS⟩
    case round =>
      clear HS
      obtain ⟨k, hk, rfl, HS⟩ := hrel
      obtain ⟨l, nv, fv, rs, hpart, hbd⟩ := HS.out
      have HP := Lib.hid hpart
      have HBd := Lib.hid hbd
      obtain ⟨Ax, cx, hxv, hxa⟩ := own_read hbd.2 (v := u10) (l := fsts l) (by simp)
      obtain ⟨Ay, cy, hyv, hya⟩ := own_read hbd.2 (v := u11) (l := snds l) (by simp)
      rw [fsts_len] at hxv
      rw [snds_len] at hyv
      subst hxv hyv
      have h40 := hpart.n40
      have hkl := hpart.le
      clear HS hpart hbd hxa hya
      by_cases hlt : k < l.length
      · obtain ⟨⟨x, y⟩, hxy⟩ : ∃ q, l[k]? = some q := ⟨_, List.getElem?_eq_getElem hlt⟩
        obtain ⟨hx, hy⟩ := rch_lt HG.out (HP.out.rch _ (List.mem_of_getElem? hxy))
        simp only at hx hy
        have HXY := Lib.hid hxy
        obtain ⟨HRS, hown⟩ := HBd.out
        have HRS := Lib.hid HRS
        have HR0 : Hid (TInv w1 wr g (w.heap.size + 1 + 1) a b h k l (x, y) n 0 nv fv rs (.slice Ax l.length cx) (.slice Ay l.length cy) (.slice none 0 0)) := by
          unfold Hid TInv
          rw [← HN.out]
          exact (hown.nil 3 1).re [5, 6, 0, 1, 2, 3, 4] 7 rfl (by decide)
        clear hown hxy HBd
        go_wp2
        go_loopw [10, 11, 13, 14] (fun xv yv rv i wi => ∃ (q : Nat), q ≤ n ∧ i = .int .i64 q ∧ Hid (TInv w1 wi g (w.heap.size + 1 + 1) a b h k l (x, y) n q nv fv rs xv yv rv)) (fun _ _ _ i _ => n - (intOf i).toNat)
        case atStart => exact ⟨0, by omega, rfl, HR0⟩
        case round =>
          clear HR0
          obtain ⟨q, hq, rfl, HR⟩ := hrel
          have hR := HR.out
          unfold TInv at hR
          have hbi := hR.below
          have HXi := Lib.hid (HX.out.on hbi)
          have HYi := Lib.hid (HY.out.on hbi)
          have hc0 := HXi.out.c0
          by_cases hqn : q < n
          · as_aux_lemma =>
              obtain ⟨ada, ara, ma, ca, eA, ha0, ha1, ha2, ha3, ha4⟩ := (HDA.out.on hbi).step_at HG.out.ga (q := x) (i := q) hx (by rw [HN.out]; omega)
              obtain ⟨adb, arb, mb, cb, eB, hb0, hb1, hb2, hb3, hb4⟩ := (HDB.out.on hbi).step_at HG.out.gb (q := y) (i := q) hy (by rw [← HG.out.eL, HN.out]; omega)
              subst eA eB
              have HT := Lib.hid (S2_get a b (x, y) (c := q) (by rw [HN.out]; omega))
              simp only at HT
              generalize step a x q = sa at *
              generalize step b y q = sb at *
              have HAS := Lib.hid (addAll_succ (l := l) HT.out)
              have HTS := Lib.hid (trow_step (l := l) HT.out)
              have hLn : (addAll l ((S2 a b (x, y)).take q)).length ≤ 100 := by
                have h1 := addAll_length_le l ((S2 a b (x, y)).take q)
                have h2 := List.length_take (i := q) (l := S2 a b (x, y))
                omega
              have hLk : (addAll l ((S2 a b (x, y)).take q))[k]? = some (x, y) := by
                obtain ⟨m, hm⟩ := addAll_prefix l ((S2 a b (x, y)).take q)
                rw [hm, List.getElem?_append_left hlt]; exact HXY.out
              have hTl : (trow (S2 a b) l (x, y) q).length ≤ 100 := by
                unfold trow
                have h2 := List.length_take (i := q) (l := S2 a b (x, y))
                rw [List.length_map]; omega
              generalize addAll l ((S2 a b (x, y)).take q) = Lq at *
              generalize trow (S2 a b) l (x, y) q = tq at *
              generalize hbs : (l.take k).map (fun p => h (finA a p.1) (finA b p.2)) = bs at *
              have HBs := Lib.hid hbs
              clear hbs
              obtain ⟨Ax', cx', hxv, hxa⟩ := own_read hR (v := u10) (l := fsts Lq) (by simp)
              obtain ⟨Ay', cy', hyv, hya⟩ := own_read hR (v := u11) (l := snds Lq) (by simp)
              rw [fsts_len] at hxv
              rw [snds_len] at hyv
              subst hxv hyv
              obtain ⟨adx, e1, hxb, hxc⟩ := cells_int hxa (fsts_get hLk)
              obtain ⟨ady, e2, hyb, hyc⟩ := cells_int hya (snds_get hLk)
              subst e1 e2
              simp only at hxc hyc
              have HXA := Lib.hid hxa
              have HYA := Lib.hid hya
              have hkL : k < Lq.length := (List.getElem?_eq_some_iff.1 hLk).1
              have hca := HXi.out.c2
              have hcb := HYi.out.c2
              have HR2 := Lib.hid hR
              have HY0 : Hid ((sa, sb) ∉ Lq.take 0) := by simp [Hid]
              have e1 : (x : Int) < (a.next.length : Int) := by omega
              have e2 : (y : Int) < (b.next.length : Int) := by omega
              have e3 : (q : Int) < (ma : Int) := by omega
              have e4 : (q : Int) < (mb : Int) := by omega
              have e5 : (k : Int) < (Lq.length : Int) := by omega
              clear hxa hya hR hbi HR hLk HT
              go_wp2
              go_region
              go_wp2
              go_region
              go_wp2
              clear hca hcb hxc hyc ha0 ha1 ha2 ha3 ha4 hb0 hb1 hb2 hb3 hb4 e1 e2 e3 e4 e5 hc0 hxb hyb HXi HYi
              have hbq : Below wr.heap.size wr wr.drew.drew := (Below.refl _ _).drew.drew
              have HXA := Lib.hid ((Cells.below HXA.out hbq).more hbq.size)
              have HYA := Lib.hid ((Cells.below HYA.out hbq).more hbq.size)
              have HR2 := Lib.hid (HR2.out.on hbq)
              clear hbq
              generalize wr.drew.drew = wq at *
              go_loop [17] (fun i => ∃ (j : Nat), j ≤ Lq.length ∧ i = .int .i64 j ∧ Hid ((sa, sb) ∉ Lq.take j)) (fun i => Lq.length - (intOf i).toNat)
              case atStart => exact ⟨0, by omega, rfl, HY0⟩
              case round =>
                clear HY0
                obtain ⟨j, hj, rfl, HJ⟩ := hrel
                by_cases hjl : j < Lq.length
                · have hju := List.getElem?_eq_getElem hjl
                  obtain ⟨adx', ex, hxb', hxc'⟩ := cells_int HXA.out (fsts_get hju)
                  obtain ⟨ady', ey, hyb', hyc'⟩ := cells_int HYA.out (snds_get hju)
                  obtain rfl := Option.some.inj ex
                  obtain rfl := Option.some.inj ey
                  by_cases hfd : (sa, sb) = Lq[j]
                  · as_aux_lemma =>
                      have HF1 : Hid (addTo Lq (sa, sb) = Lq ∧ num Lq (sa, sb) = j) := ⟨by unfold addTo; rw [if_pos (hfd ▸ List.getElem_mem hjl)], idx_at HJ.out hjl hfd⟩
                      rw [← hfd] at hxc' hyc'
                      simp only at hxc' hyc'
                      have f1 := int_eq' (show (sa : Int) = (sa : Int) from rfl)
                      have f2 := int_eq' (show (sb : Int) = (sb : Int) from rfl)
                      have f3 := int_ne (show (j : Int) ≠ (Lq.length : Int) by omega)
                      have HR3 : Hid (Own w1 wq (eInts u13 tq :: [eInts (.slice (some adx) Lq.length cx') (fsts Lq), eInts (.slice (some ady) Lq.length cy') (snds Lq), eRows nv (rs.map (·.1)), eBools fv bs, eDfa g [.int .i64 (n : Int), .int .i64 0, nv, fv], eDfa (w.heap.size + 1 + 1) zero4]) (eEach rs)) := HR2.out.pull 2 (by simp)
                      clear hfd hju ex ey HXA HYA
                      go_wp2_with (at_builtin; refine own_int (by rfl) _ _ (by rfl) (by rfl) HR3.out (by rfl) (by omega) ?_)
                      intro g7 cap7 w7 ho7
                      have HR9 : Hid (TInv w1 w7 g (w.heap.size + 1 + 1) a b h k l (x, y) n (q + 1) nv fv rs (.slice (some adx) Lq.length cx') (.slice (some ady) Lq.length cy') (.slice (some ⟨g7, 0, none⟩) (tq.length + 1) cap7)) := by
                        unfold Hid TInv
                        rw [HAS.out, HTS.out, HF1.out.1, HF1.out.2, HBs.out]
                        exact ho7.re [1, 2, 0, 3, 4, 5, 6] 7 rfl (by decide)
                      clear ho7 HR3 HR2 hxc' hyc' HJ
                      go_wp2
                      go_roundw
                      case rel => exact ⟨q + 1, by omega, by go_num, HR9⟩
                      case measure => simp [intOf]; omega
                  · as_aux_lemma =>
                      have HJ1 := Lib.hid (notin_take_succ HJ.out hjl hfd)
                      by_cases hu : Lq[j].1 = sa
                      · have hv : Lq[j].2 ≠ sb := fun k => hfd (Prod.ext hu.symm k.symm)
                        have f1 := int_eq' (show ((Lq[j].1 : Nat) : Int) = (sa : Int) by rw [hu])
                        have f2 := int_ne' (show ((Lq[j].2 : Nat) : Int) ≠ (sb : Int) by omega)
                        clear hu hv hfd hju
                        generalize Lq[j].1 = u at *
                        generalize Lq[j].2 = v at *
                        go_wp2
                        go_round
                        case rel => exact ⟨j + 1, by omega, by go_num, HJ1⟩
                        case measure => simp [intOf]; omega
                      · have f1 := int_ne' (show ((Lq[j].1 : Nat) : Int) ≠ (sa : Int) by omega)
                        clear hu hfd hju
                        generalize Lq[j].1 = u at *
                        generalize Lq[j].2 = v at *
                        go_wp2
                        go_round
                        case rel => exact ⟨j + 1, by omega, by go_num, HJ1⟩
                        case measure => simp [intOf]; omega
                · as_aux_lemma =>
                    obtain rfl : j = Lq.length := by omega
                    have hnm : (sa, sb) ∉ Lq := by
                      have := HJ.out
                      rwa [List.take_length] at this
                    have HF2 : Hid (addTo Lq (sa, sb) = Lq ++ [(sa, sb)] ∧ num (Lq ++ [(sa, sb)]) (sa, sb) = Lq.length) := ⟨by unfold addTo; rw [if_neg hnm], idx_new hnm⟩
                    have f3 := int_eq (show (Lq.length : Int) = (Lq.length : Int) from rfl)
                    have HFs : Hid (fsts (Lq ++ [(sa, sb)]) = fsts Lq ++ [(sa : Int)] ∧ snds (Lq ++ [(sa, sb)]) = snds Lq ++ [(sb : Int)]) := ⟨fsts_app _ _, snds_app _ _⟩
                    have hl1 : (fsts Lq).length < 17592186044416 := by rw [fsts_len]; omega
                    have hl2 : (snds Lq).length < 17592186044416 := by rw [snds_len]; omega
                    clear hnm HXA HYA HJ
                    generalize fsts Lq = X at *
                    generalize snds Lq = Y at *
                    have HR3 : Hid (Own w1 wq (eInts (.slice (some adx) Lq.length cx') X :: [eInts (.slice (some ady) Lq.length cy') Y, eInts u13 tq, eRows nv (rs.map (·.1)), eBools fv bs, eDfa g [.int .i64 (n : Int), .int .i64 0, nv, fv], eDfa (w.heap.size + 1 + 1) zero4]) (eEach rs)) := HR2.out
                    go_wp2_with (at_builtin; refine own_int (by rfl) _ _ (by rfl) (by rfl) HR3.out (by rfl) hl1 ?_)
                    intro g7 cap7 w7 ho7
                    have HO7 := Lib.hid ho7.two
                    clear ho7 HR3 HR2
                    go_wp2_with (at_builtin; refine own_int (by rfl) _ _ (by rfl) (by rfl) HO7.out (by rfl) hl2 ?_)
                    intro g8 cap8 w8 ho8
                    have HO8 := Lib.hid ho8.three
                    clear ho8 HO7
                    go_wp2_with (at_builtin; refine own_int (by rfl) _ _ (by rfl) (by rfl) HO8.out (by rfl) (by omega) ?_)
                    intro g9 cap9 w9 ho9
                    have HR9 : Hid (TInv w1 w9 g (w.heap.size + 1 + 1) a b h k l (x, y) n (q + 1) nv fv rs (.slice (some ⟨g7, 0, none⟩) (X.length + 1) cap7) (.slice (some ⟨g8, 0, none⟩) (Y.length + 1) cap8) (.slice (some ⟨g9, 0, none⟩) (tq.length + 1) cap9)) := by
                      unfold Hid TInv
                      rw [HAS.out, HTS.out, HF2.out.1, HF2.out.2, HBs.out, HFs.out.1, HFs.out.2]
                      exact ho9.re [2, 1, 0, 3, 4, 5, 6] 7 rfl (by decide)
                    clear ho9 HO8
                    go_wp2
                    go_roundw
                    case rel => exact ⟨q + 1, by omega, by go_num, HR9⟩
                    case measure => simp [intOf]; omega
          · as_aux_lemma =>
              obtain rfl : q = n := by omega
              have hS2 : (S2 a b (x, y)).length = q := by rw [S2_length, HN.out]; rfl
              rw [trow_full hS2, List.take_of_length_le (by omega)] at hR
              have HStep := Lib.hid (HP.out.step HXY.out)
              have HRow := Lib.hid (rows_next HP.out HXY.out)
              have HFlag : Hid (((addAll l (S2 a b (x, y))).take (k + 1)).map (fun p => h (finA a p.1) (finA b p.2)) = (l.take k).map (fun p => h (finA a p.1) (finA b p.2)) ++ [h (finA a x) (finA b y)]) := flags_next (S := S2 a b) (fun p => h (finA a p.1) (finA b p.2)) HXY.out
              have hLk : (addAll l (S2 a b (x, y)))[k]? = some (x, y) := by
                obtain ⟨m, hm⟩ := addAll_prefix l (S2 a b (x, y))
                rw [hm, List.getElem?_append_left hlt]; exact HXY.out
              clear hS2 HP HR
              generalize hrw : (l.take k).map (srow (S2 a b) l) = rws at *
              generalize hbs : (l.take k).map (fun p => h (finA a p.1) (finA b p.2)) = bs at *
              have HLen : Hid ((rs.map (·.1)).length < 1099511627776 ∧ bs.length < 17592186044416) := by
                have h1 := congrArg List.length HRS.out
                rw [← hrw, List.length_map, List.length_map, List.length_take] at h1
                have h2 := congrArg List.length hbs
                rw [List.length_map, List.length_take] at h2
                exact ⟨by rw [List.length_map]; omega, by omega⟩
              have HRw := Lib.hid hrw
              clear hbs hrw
              generalize hl' : addAll l (S2 a b (x, y)) = l' at *
              clear hl'
              obtain ⟨Ax', cx', hxv, hxa⟩ := own_read hR (v := u10) (l := fsts l') (by simp)
              obtain ⟨Ay', cy', hyv, hya⟩ := own_read hR (v := u11) (l := snds l') (by simp)
              obtain ⟨Ar', cr', hrv, _⟩ := own_read hR (v := u13) (l := srow (S2 a b) l' (x, y)) (by simp)
              rw [fsts_len] at hxv
              rw [snds_len] at hyv
              subst hxv hyv hrv
              obtain ⟨adx, e1, hxb, hxc⟩ := cells_int hxa (fsts_get hLk)
              obtain ⟨ady, e2, hyb, hyc⟩ := cells_int hya (snds_get hLk)
              subst e1 e2
              simp only at hxc hyc
              have hkL : k < l'.length := (List.getElem?_eq_some_iff.1 hLk).1
              clear hxa hya hLk
              by_cases hfull : 40 < l'.length
              · as_aux_lemma =>
                  have hfull' : (40 : Int) < (l'.length : Int) := by omega
                  have HNo : Hid (prodOut h a b = (zeroA, 4)) := by unfold Hid; rw [prodOut_full HG1.out (HStep.out.1 hfull)]
                  have HR2 := Lib.hid (hR.pull 6 (by simp))
                  obtain ⟨hr0, hf0⟩ := HR2.out.dcell (g := w.heap.size + 1 + 1) (l := zero4) (j := 0) (by simp) rfl
                  obtain ⟨hr1, hf1⟩ := HR2.out.dcell (g := w.heap.size + 1 + 1) (l := zero4) (j := 1) (by simp) rfl
                  obtain ⟨hr2, hf2⟩ := HR2.out.dcell (g := w.heap.size + 1 + 1) (l := zero4) (j := 2) (by simp) rfl
                  obtain ⟨hr3, hf3⟩ := HR2.out.dcell (g := w.heap.size + 1 + 1) (l := zero4) (j := 3) (by simp) rfl
                  have HEnd := Lib.hid (res_bad HR2.out rfl)
                  clear HR2 hR hxc hyc
                  go_wp2
                  obtain ⟨k2, k3, k4, k5, k6⟩ := HEnd.out
                  refine bodyPost_ret (results_dfa rfl _ rfl k3 k4 k5 k6) rfl ⟨_, by rw [HNo.out]; rfl, by rw [HNo.out]; exact dfaOwn_zero (HB.out.trans (k2.mono HB.out.size))⟩
              · as_aux_lemma =>
                  have hfull' : ¬ (40 : Int) < (l'.length : Int) := by omega
                  have HPn := Lib.hid (HStep.out.2 hfull)
                  obtain ⟨adf, eF, hfa, hcfa, hfa2⟩ := (HDA.out.on hbi).fins.at_ (HG.out.ga.fin_at hx)
                  obtain ⟨adg, eG, hgb, hcgb, hgb2⟩ := (HDB.out.on hbi).fins.at_ (HG.out.gb.fin_at hy)
                  subst eF eG
                  rw [HFA.out] at hfa2
                  rw [HFB.out] at hgb2
                  have hxc3 := HXi.out.c3
                  have hyc3 := HYi.out.c3
                  obtain ⟨hg2, hgf2⟩ := hR.dcell (g := g) (l := [.int .i64 (q : Int), .int .i64 0, nv, fv]) (j := 2) (by simp) rfl
                  have HR3 : Hid (∀ W, Below wr.heap.size wr W → Own w1 W (eRows nv (rs.map (·.1)) :: [eInts (.slice (some adx) l'.length cx') (fsts l'), eInts (.slice (some ady) l'.length cy') (snds l'), eInts (.slice Ar' (srow (S2 a b) l' (x, y)).length cr') (srow (S2 a b) l' (x, y)), eBools fv bs, eDfa g [.int .i64 (q : Int), .int .i64 0, nv, fv], eDfa (w.heap.size + 1 + 1) zero4]) (eEach rs)) := fun W hW => (hR.on hW).pull 3 (by simp)
                  have e1 : (x : Int) < (fa : Int) := by omega
                  have e2 : (y : Int) < (fb : Int) := by omega
                  have e5 : (k : Int) < (l'.length : Int) := by omega
                  generalize finA a x = bx at *
                  generalize finA b y = by' at *
                  generalize hr9 : (l'.take (k + 1)).map (srow (S2 a b) l') = rws9 at *
                  have HR9 := Lib.hid hr9
                  generalize hs9 : srow (S2 a b) l' (x, y) = row at *
                  clear hr9 hs9 hR hbi HStep HRw
                  go_wp2
                  go_region
                  go_wp2
                  go_region
                  have hbq : Below wr.heap.size wr wr.drew.drew := (Below.refl _ _).drew.drew
                  have HR3 := Lib.hid (HR3.out _ hbq)
                  clear hbq hg2 hgf2 hxc hyc hxb hyb hxc3 hyc3 hfa hcfa hgb hcgb e1 e2 e5 hc0 HXi HYi
                  generalize wr.drew.drew = wq at *
                  obtain ⟨hg2, hgf2⟩ := HR3.out.dcell (g := g) (l := [.int .i64 (q : Int), .int .i64 0, nv, fv]) (j := 2) (by simp) rfl
                  go_wp2_with (at_builtin; refine own_row (by rfl) _ _ (by rfl) (by rfl) HR3.out (by rfl) (by rfl) HLen.out.1 ?_)
                  intro g8 cap8 w8 ho8
                  have hlr : rs.length = (rs.map (·.1)).length := (List.length_map _).symm
                  have HB9 : Hid (Build w1 (w8.setCell ⟨g, 2, none⟩ (.slice (some ⟨g8, 0, none⟩) (rs.length + 1) cap8)) g [eDfa (w.heap.size + 1 + 1) zero4, eInts (.slice (some adx) l'.length cx') (fsts l'), eInts (.slice (some ady) l'.length cy') (snds l')] (q : Int) 0 (rws ++ [row]) bs (.slice (some ⟨g8, 0, none⟩) (rs.length + 1) cap8) fv (rs ++ [(.slice Ar' row.length cr', row)])) :=
                    build_row HRS.out (ho8.re [0, 3, 4, 5, 6, 1, 2] 7 rfl (by decide)) rfl
                  obtain ⟨hk8, hf8⟩ := ho8.dcell (g := g) (l := [.int .i64 (q : Int), .int .i64 0, nv, fv]) (j := 2) (by simp) rfl
                  obtain ⟨hk3, hf3⟩ := ho8.dcell (g := g) (l := [.int .i64 (q : Int), .int .i64 0, nv, fv]) (j := 3) (by simp) rfl
                  rw [← HRow.out] at HB9
                  generalize rs ++ [(Value.slice Ar' row.length cr', row)] = rs9 at *
                  have HO9 := Lib.hid HB9.out.2.two
                  clear ho8 hg2 hgf2 hlr HR3 HRow HRS HX HY HDA HDB HB HFA HFB HS0 HG1 HG
                  rcases HKK.out with rfl | rfl | rfl <;> rcases bx with _ | _ <;> rcases by' with _ | _
                  all_goals
                    as_aux_lemma =>
                      go_wp2_with (at_builtin; refine own_bool (by rfl) _ _ (by rfl) (by rfl) HO9.out (by rw [size_setC]; rfl) HLen.out.2 ?_)
                      intro g10 cap10 w10 ho10
                      obtain ⟨hk6, hf6⟩ := ho10.dcell (g := g) (l := [.int .i64 (q : Int), .int .i64 0, .slice (some ⟨g8, 0, none⟩) (rs.length + 1) cap8, fv]) (j := 3) (by simp) rfl
                      have HN1 : Hid (QInv w1 (w10.setCell ⟨g, 3, none⟩ (.slice (some ⟨g10, 0, none⟩) (bs.length + 1) cap10)) g (w.heap.size + 1 + 1) a b h (k + 1) (.slice (some adx) l'.length cx') (.slice (some ady) l'.length cy')) := by
                        refine ⟨l', (.slice (some ⟨g8, 0, none⟩) (rs.length + 1) cap8), .slice (some ⟨g10, 0, none⟩) (bs.length + 1) cap10, rs9, HPn.out, ?_⟩
                        rw [HFlag.out, HR9.out, HN.out, ← HH.out]
                        have hbf := build_flag HB9.out.1 ho10 rfl
                        refine Eq.mpr (congrArg (fun b => Build w1 _ g _ _ _ _ (bs ++ [b]) _ _ _) ?_) hbf
                        decide
                      clear ho10 HB9 HO9 hk8 hf8 hk3 hf3
                      go_wp2
                      go_roundw
                      case rel => exact ⟨k + 1, by omega, by go_num, HN1⟩
                      case measure => simp [intOf]; omega
      · as_aux_lemma =>
          obtain rfl : k = l.length := by omega
          have HNo : Hid (prodOut h a b = (⟨a.L, 0, l.map (srow (S2 a b) l), l.map fun p => h (finA a p.1) (finA b p.2)⟩, 0)) := by
            unfold Hid; rw [prodOut_some HG1.out (HP.out.stop (Nat.le_refl _))]; rfl
          rw [List.take_length] at HBd
          have HSm := Lib.hid (srow_small (S2 a b) l (by omega))
          rw [HN.out] at HBd HNo
          clear HP
          generalize l.map (srow (S2 a b) l) = rows at *
          generalize l.map (fun p => h (finA a p.1) (finA b p.2)) = bs at *
          obtain ⟨A2, c2, F2, cf2, e1, e2⟩ := HBd.out.form
          obtain ⟨hg0, hg1, hg2, hg3⟩ := HBd.out.str
          obtain ⟨hr0, hf0⟩ := HBd.out.res (j := 0) (by omega)
          obtain ⟨hr1, hf1⟩ := HBd.out.res (j := 1) (by omega)
          obtain ⟨hr2, hf2⟩ := HBd.out.res (j := 2) (by omega)
          obtain ⟨hr3, hf3⟩ := HBd.out.res (j := 3) (by omega)
          subst e1 e2
          have HEnd := Lib.hid (build_end HBd.out HSm.out ⟨by omega, by omega⟩ ⟨by omega, by omega⟩ rfl)
          generalize rows.length = nr at *
          generalize bs.length = nb at *
          go_wp2
          obtain ⟨k1, k3, k4, k5, k6⟩ := HEnd.out
          refine bodyPost_ret (results_dfa rfl _ rfl k3 k4 k5 k6) rfl ⟨_, by rw [HNo.out]; rfl, by rw [HNo.out]; exact k1.base HB.out⟩
  · as_aux_lemma =>
      have HNo : Hid (prodOut h a b = (zeroA, e0 + 1)) := by unfold Hid; rw [prodOut_bad (by omega), g1]
      rw [g1] at HT
      clear g1 HL HX HY HX2 HY2 HDA HDB HA HZ
      generalize a.next.length = na at *
      generalize a.fin.length = fa at *
      generalize b.next.length = nb at *
      generalize b.fin.length = fb at *
      have hne := int_ne' (show ((e0 + 1 : Nat) : Int) ≠ 0 by omega)
      generalize hE : ((e0 + 1 : Nat) : Int) = E at *
      have HE := Lib.hid hE
      clear hE
      go_enter Tryd.func22, Tryd.ntmps22
      go_wp2_with fail
      rw [← HW.out]
      refine HT.out.mono ?_
      rintro e w2 ⟨he, hb⟩
      obtain rfl : e = .returned (.int .i64 E) := he.out
      have HO2 := Lib.hid (HO.out.on hb)
      obtain ⟨hr0, hf0⟩ := HO2.out.dcell (g := w.heap.size + 2) (l := zero4) (j := 0) (by simp) rfl
      obtain ⟨hr1, hf1⟩ := HO2.out.dcell (g := w.heap.size + 2) (l := zero4) (j := 1) (by simp) rfl
      obtain ⟨hr2, hf2⟩ := HO2.out.dcell (g := w.heap.size + 2) (l := zero4) (j := 2) (by simp) rfl
      obtain ⟨hr3, hf3⟩ := HO2.out.dcell (g := w.heap.size + 2) (l := zero4) (j := 3) (by simp) rfl
      clear hb HT he hc0 hc1 hc2 hc3 hd0 hd1' hd2' hd3
      have HEnd := Lib.hid (res_bad HO2.out rfl)
      go_wp2
      obtain ⟨k2, k3, k4, k5, k6⟩ := HEnd.out
      refine bodyPost_ret (results_dfa rfl _ rfl k3 k4 k5 k6) rfl ⟨_, by rw [HNo.out, ← HE.out]; rfl, by rw [HNo.out]; exact dfaOwn_zero (HB.out.trans (k2.mono HB.out.size))⟩
end Go.Proofs.YtbciefeipiphiaaDoor.Df

namespace Go.Proofs.YtbciefeipiphiaaDoor.Df
open Go.RowKit Go.IntWalk Go.Proofs.YtbciefeipiphiaaDoor.Wd Go.Proofs.YtbciefeipiphiaaDoor.Wo

/-- An automaton in rows that are done. -/
def Held (fs : List Ent) (L s : Int) (nv fv : Value) (d : Aut) : Prop :=
  d.L = L ∧ d.s = s ∧ ∃ rs : List (Value × List Int), d.next = rs.map (·.2) ∧ eRows nv (rs.map (·.1)) ∈ fs ∧ eBools fv d.fin ∈ fs ∧ (∀ e ∈ eEach rs, e ∈ fs) ∧ (∀ p ∈ rs, ∀ x ∈ p.2, Small x) ∧ Small d.L ∧ Small d.s
theorem Held.more {fs fs' : List Ent} {L s : Int} {nv fv : Value} {d : Aut} (h : Held fs L s nv fv d) (hs : ∀ e ∈ fs, e ∈ fs') : Held fs' L s nv fv d := by
  obtain ⟨h1, h2, rs, h3, h4, h5, h6, h7⟩ := h
  exact ⟨h1, h2, rs, h3, hs _ h4, hs _ h5, fun e he => hs _ (h6 e he), h7⟩
theorem Held.at_ {w0 w : World} {es fs : List Ent} {L s : Int} {nv fv : Value} {d : Aut} (h : Held fs L s nv fv d) (ho : Own w0 w es fs) : DfaAt w w.heap.size (.agg #[.int .i64 L, .int .i64 s, nv, fv]) d := by
  obtain ⟨h1, h2, rs, h3, h4, h5, h6, h7, h8, h9⟩ := h
  have h10 := own_dfa (nv := nv) (fv := fv) (rs := rs) (bs := d.fin) (L := d.L) (s := d.s) ho (List.mem_append_right _ h4) (fun e he => List.mem_append_right _ (h6 e he)) (List.mem_append_right _ h5) h7 h8 h9
  rw [← h3, h1, h2] at h10
  have e : (⟨L, s, d.next, d.fin⟩ : Aut) = d := by cases d; simp only at h1 h2; subst h1 h2; rfl
  rwa [e] at h10
theorem DfaOwn.held {w w' : World} {L s : Int} {nv fv : Value} {d : Aut} (h : DfaOwn w w' (.agg #[.int .i64 L, .int .i64 s, nv, fv]) d) : ∃ fs, Own w w' [] fs ∧ Held fs L s nv fv d := by
  obtain ⟨nv', fv', rs, e, h2, h3, h4, h5, h6⟩ := h
  simp only [Value.agg.injEq, Array.mk.injEq, List.cons.injEq, Value.int.injEq, true_and, and_true] at e
  obtain ⟨e1, e2, rfl, rfl⟩ := e
  exact ⟨_, h3, e1.symm, e2.symm, rs, h2, by simp, by simp, fun e he => by simp [he], h4, h5, h6⟩
/-- The two variables, at blocks g and k. -/
def Two (u0 u : World) (g k : Nat) (L s : Int) (nv fv : Value) (a : Aut) (M t : Int) (mv hv : Value) (b : Aut) : Prop :=
  ∃ fs, Own u0 u [eDfa g [.int .i64 L, .int .i64 s, nv, fv], eDfa k [.int .i64 M, .int .i64 t, mv, hv]] fs ∧ Held fs L s nv fv a ∧ Held fs M t mv hv b
section
variable {u0 u u' : World} {g k : Nat} {L s : Int} {nv fv : Value} {a : Aut} {M t : Int} {mv hv : Value} {b : Aut}
theorem Two.below (h : Two u0 u g k L s nv fv a M t mv hv b) : Below u0.heap.size u0 u := by
  obtain ⟨_, h, _⟩ := h; exact h.below
theorem Two.on (h : Two u0 u g k L s nv fv a M t mv hv b) (hb : Below u.heap.size u u') : Two u0 u' g k L s nv fv a M t mv hv b := by
  obtain ⟨fs, h1, h2⟩ := h
  exact ⟨fs, h1.on hb, h2⟩
theorem Two.x (h : Two u0 u g k L s nv fv a M t mv hv b) : DfaAt u u.heap.size (.agg #[.int .i64 L, .int .i64 s, nv, fv]) a := by
  obtain ⟨fs, h1, h2, _⟩ := h; exact h2.at_ h1
theorem Two.y (h : Two u0 u g k L s nv fv a M t mv hv b) : DfaAt u u.heap.size (.agg #[.int .i64 M, .int .i64 t, mv, hv]) b := by
  obtain ⟨fs, h1, _, h2⟩ := h; exact h2.at_ h1
theorem Two.cx (h : Two u0 u g k L s nv fv a M t mv hv b) {j : Nat} {v : Value} (hj : [.int .i64 L, .int .i64 s, nv, fv][j]? = some v) : u.cell? ⟨g, j, none⟩ = some v ∧ u.frozen? ⟨g, j, none⟩ = false := by
  obtain ⟨fs, h1, _⟩ := h; exact h1.dcell (l := [.int .i64 L, .int .i64 s, nv, fv]) (by simp) hj
theorem Two.cy (h : Two u0 u g k L s nv fv a M t mv hv b) {j : Nat} {v : Value} (hj : [.int .i64 M, .int .i64 t, mv, hv][j]? = some v) : u.cell? ⟨k, j, none⟩ = some v ∧ u.frozen? ⟨k, j, none⟩ = false := by
  obtain ⟨fs, h1, _⟩ := h; exact h1.dcell (l := [.int .i64 M, .int .i64 t, mv, hv]) (by simp) hj
theorem Two.lt (h : Two u0 u g k L s nv fv a M t mv hv b) : u0.heap.size ≤ g ∧ g < u.heap.size ∧ u0.heap.size ≤ k ∧ k < u.heap.size := by
  obtain ⟨fs, h1, _⟩ := h
  have e1 := h1.lt (ad := ⟨g, 0, none⟩) (xs := [.int .i64 L, .int .i64 s, nv, fv]) (t := 25) (sz := 4) (n := 1) (cap := 1) (by simp [eDfa])
  have e2 := h1.lt (ad := ⟨k, 0, none⟩) (xs := [.int .i64 M, .int .i64 t, mv, hv]) (t := 25) (sz := 4) (n := 1) (cap := 1) (by simp [eDfa])
  exact ⟨e1.1, e1.2, e2.1, e2.2⟩
end
end Go.Proofs.YtbciefeipiphiaaDoor.Df
