/- The walks of package reach that count: leading and Count. -/
import Derived.Test.YtloihkoamccacaaDfaP
import Derived.Test.YtloihkoamccacaaReachC
import Derived.Handy
namespace Go.Proofs.Ytloihkoamccacaa.Rc
open Go.RowKit Go.IntWalk Go.Proofs.Ytloihkoamccacaa.Wd Go.Proofs.Ytloihkoamccacaa.Wo Go.Proofs.Ytloihkoamccacaa.Df

/-- Numbers as ints. -/
def ints (l : List Nat) : List Int := l.map fun (x : Nat) => (x : Int)
theorem ints_length (l : List Nat) : (ints l).length = l.length := List.length_map _
theorem ints_get {l : List Nat} {i x : Nat} (h : l[i]? = some x) : (ints l)[i]? = some (x : Int) := by unfold ints; rw [List.getElem?_map, h]; rfl
theorem ints_set (l : List Nat) (i x : Nat) : ints (l.set i x) = (ints l).set i (x : Int) := by unfold ints; rw [List.map_set]
theorem ints_zero (n : Nat) : ints (List.replicate n 0) = List.replicate n 0 := by unfold ints; rw [List.map_replicate]; rfl
theorem get_of_lt {l : List Nat} {i : Nat} (h : i < l.length) : ∃ x, l[i]? = some x := ⟨_, List.getElem?_eq_getElem h⟩
/-- A row of n ints in block g. -/
abbrev rowV (g n : Nat) : Value := .slice (some ⟨g, 0, none⟩) n n
def LInv (w1 wr : World) (d : Aut) (N k : Nat) (pv : Value) : Prop := ∃ g l, pv = rowV g N ∧ Lead d k l ∧ Own w1 wr [eInts (rowV g N) (ints l)] []
def MInv (w1 wr : World) (d : Aut) (N : Nat) (l : List Nat) (g gm s c : Nat) : Prop := ∃ m, Push d l m s c ∧ Own w1 wr [eInts (rowV gm N) (ints m), eInts (rowV g N) (ints l)] []
theorem minv_set {w1 wr : World} {d : Aut} {N : Nat} {l m : List Nat} {g gm s c x y t : Nat} (hp : Push d l m s c) (ho : Own w1 wr [eInts (rowV gm N) (ints m), eInts (rowV g N) (ints l)] []) (hN : d.next.length = N)
    (hx : l[s]? = some x) (ht : Df.step d s c = t) (hy : m[t]? = some y) (n : Nat) : MInv w1 ((wr.drewN n).setCell ⟨gm, t, none⟩ (.int .i64 ((y : Int) + (x : Int)))) d N l g gm s (c + 1) := by
  refine ⟨_, hp.step hx ht hy, ?_⟩
  rw [ints_set]
  have h := own_ints_set (ho.drewN n) (by rw [ints_length, hp.len, hN]) t ((y + x : Nat) : Int)
  simpa using h
set_option maxRecDepth 100000 in
set_option maxHeartbeats 2000000 in
theorem leading_any (v : Value) (d : Aut) (n : Nat) (w : World) (h : DfaAt w w.heap.size v d) (hg : Df.Good d) (hn : n ≤ 20) :
    Calls Try.prog 42 #[v, .int .i64 n] w fun e w' => Hid (∃ g l, e = .returned (rowV g d.next.length) ∧ Lead d n l ∧ Own w w' [] [eInts (rowV g d.next.length) (ints l)]) := by
  obtain ⟨L, s, A, c, F, cf, rfl, h⟩ := h
  obtain ⟨w1, hw1, hB1, hX, hd1⟩ := box_dfa w h
  have HB := Lib.hid hB1
  have HX := Lib.hid hX
  have HW := Lib.hid hw1
  have HD := Lib.hid hd1
  have HG := Lib.hid hg
  obtain ⟨p, hp⟩ := Int.eq_ofNat_of_zero_le (show 0 ≤ s by have := hg.st.1; have := h.es; omega)
  subst hp
  have hpn : p < d.next.length := by have := hg.st.2; have := h.es; omega
  have HS : Hid (d.s.toNat = p) := by have := h.es; unfold Hid; omega
  have h40 := hg.n40
  clear h hd1 hw1 hX hB1 hg
  generalize hm : d.fin.length = m at *
  clear hm
  generalize hN : d.next.length = N at *
  have HN := Lib.hid hN
  clear hN
  go_enter Try.func42, Try.ntmps42
  go_wp2_with (at_make; rw [← HW.out]; refine mk_ints rfl _ _ rfl N rfl rfl (by omega) ?_)
  clear HW
  intro w2 hm2
  have HO := Lib.hid (Own.of_nums hm2)
  have HX := Lib.hid (HX.out.on hm2.2.1)
  have HD := Lib.hid (HD.out.on hm2.2.1)
  clear hm2
  obtain ⟨hk1, hk2⟩ := own_ints_cell HO.out List.mem_cons_self (by simp) (j := p) (x := 0) (by simp [hpn])
  have hc1 := HX.out.c1
  have HL0 : Hid (LInv w1 (w2.setCell ⟨w1.heap.size, p, none⟩ (.int .i64 1)) d N 0 (rowV w1.heap.size N)) := by
    refine ⟨_, _, rfl, lead_zero HG.out, ?_⟩
    rw [HS.out, HN.out, ints_set, ints_zero]
    exact own_ints_set HO.out (by simp) p 1
  go_wp2
  clear hk1 hk2 hc1 HO
  generalize hw3 : w2.setCell ⟨w1.heap.size, p, none⟩ (.int .i64 1) = w3 at *
  clear hw3 w2 HX HD
  go_loopw [5, 20] (fun pv i wr => ∃ (k : Nat), k ≤ n ∧ i = .int .i64 k ∧ Hid (LInv w1 wr d N k pv)) (fun _ i _ => n - (intOf i).toNat)
  case atStart => exact ⟨0, by omega, rfl, HL0⟩
  case round =>
    clear HL0
    obtain ⟨k, hk, rfl, HS⟩ := hrel
    obtain ⟨g, l, hpv, hlead, hown⟩ := HS.out
    subst hpv
    have HLead := Lib.hid hlead
    have HO := Lib.hid hown
    have HXw := Lib.hid (HX.out.on hown.below)
    clear HS hlead hown
    by_cases hlt : k < n
    · have hc2 := HXw.out.c2
      go_wp2_with (at_make; refine mk_ints rfl _ _ rfl N rfl rfl (by omega) ?_)
      intro w4 hm4
      have HO4 := Lib.hid (HO.out.join (Own.of_nums hm4))
      have HX4 := Lib.hid (HXw.out.on hm4.2.1)
      have HL1 : Hid (MInv w1 w4 d N l g wr.heap.size 0 0) := by
        refine ⟨_, push_start d l, ?_⟩
        rw [HN.out, ints_zero]
        exact HO4.out
      clear hc2 hm4 HO4 HO HXw
      have hc2 := HX4.out.c2
      generalize wr.heap.size = gm at *
      go_wp2
      clear hc2 HX4
      go_loopw [29] (fun i wi => ∃ (q : Nat), q ≤ N ∧ i = .int .i64 q ∧ Hid (MInv w1 wi d N l g gm q 0)) (fun i _ => N - (intOf i).toNat)
      case atStart => exact ⟨0, by omega, rfl, HL1⟩
      case round =>
        clear HL1
        obtain ⟨q, hq, rfl, HM⟩ := hrel
        by_cases hqn : q < N
        · obtain ⟨m0, hpush, hown⟩ := HM.out
          have HM0 := HM
          have hbw := hown.below
          have hlt' : q < d.next.length := by rw [HN.out]; exact hqn
          obtain ⟨ad, A', c', rfl, hadb, hcell1, hrc, hcc, hri⟩ := HD.out.rows q _ (List.getElem?_eq_getElem hlt')
          have hcell := (hbw.cell (p := ad.add q) (by rw [Wd.block_add]; exact hadb)).trans hcell1
          have HRI := Lib.hid hri
          have hrl := HG.out.row _ (List.getElem_mem hlt')
          have hL1 := HG.out.l1
          have hL6 := HG.out.l6
          have HRow : Hid (d.next[q]? = some (d.next[q])) := List.getElem?_eq_getElem hlt'
          clear hpush hown hbw HM hri hrc hcc hcell1
          generalize d.next[q] = r0 at *
          have hr6 : r0.length ≤ 6 := by omega
          have HRL : Hid (r0.length = d.L.toNat) := by unfold Hid; omega
          clear hrl hL1 hL6
          go_wp2
          clear hcell
          go_loopw [36] (fun i wi => ∃ (c : Nat), c ≤ r0.length ∧ i = .int .i64 c ∧ Hid (MInv w1 wi d N l g gm q c)) (fun i _ => r0.length - (intOf i).toNat)
          case atStart => exact ⟨0, by omega, rfl, HM0⟩
          case round =>
            clear HM0
            obtain ⟨j, hj, rfl, HM⟩ := hrel
            by_cases hjr : j < r0.length
            · obtain ⟨m1, hpush, hown⟩ := HM.out
              have hbw := hown.below
              obtain ⟨r1, hr1, _, hr3, hr4, hr5⟩ := HG.out.at_ hlt' (a := j) (by have := HRL.out; have := HG.out.l1; omega)
              obtain rfl := Option.some.inj (HRow.out.symm.trans hr1)
              obtain ⟨ar, rfl, k1, k2, _⟩ := (HRI.out.on hbw).get hr4
              obtain ⟨x, hx⟩ := get_of_lt (l := l) (i := q) (by rw [HLead.out.len, HN.out]; exact hqn)
              obtain ⟨y, hy⟩ := get_of_lt (l := m1) (i := Df.step d q j) (by rw [hpush.len]; exact hr5)
              have hxs := HLead.out.small HG.out (by omega) hx
              have hys := hpush.small HG.out HLead.out (by omega) (by have := HRL.out; omega) hy
              obtain ⟨hm1, hm2⟩ := own_ints_cell hown (List.mem_append_left _ List.mem_cons_self) (by rw [ints_length, hpush.len, HN.out]) (ints_get hy)
              obtain ⟨hl1, _⟩ := own_ints_cell hown (List.mem_append_left _ (List.mem_cons_of_mem _ List.mem_cons_self)) (by rw [ints_length, HLead.out.len, HN.out]) (ints_get hx)
              have HNext := Lib.hid (minv_set hpush hown HN.out hx rfl hy)
              have hw9 : IntKind.i64.wrap ((y : Int) + (x : Int)) = (y : Int) + (x : Int) := IntWalk.i64_in _ ⟨by omega, by omega⟩
              have e1 : (Df.step d q j : Int) < (N : Int) := by have := HN.out; omega
              clear hpush hown hbw HM hr1 hr3 hr4 hr5 hx hy hxs hys
              generalize Df.step d q j = t at *
              go_wp2_with fail
              go_region
              clear hw9 hm1 hm2 hl1 k2
              go_wp2
              go_roundw
              case rel => exact ⟨j + 1, by omega, by go_num, HNext.out _⟩
              case measure => simp [intOf]; omega
            · obtain rfl : j = r0.length := by omega
              have HEnd : Hid (MInv w1 wr d N l g gm (q + 1) 0) := by
                obtain ⟨m1, hpush, hown⟩ := HM.out
                obtain ⟨x, hx⟩ := get_of_lt (l := l) (i := q) (by rw [HLead.out.len, HN.out]; exact hqn)
                rw [HRL.out] at hpush
                exact ⟨m1, hpush.row hx, hown⟩
              clear HM
              go_wp2
              go_roundw
              case rel => exact ⟨q + 1, by omega, by go_num, HEnd⟩
              case measure => simp [intOf]; omega
        · obtain rfl : q = N := by omega
          have HEnd : Hid (LInv w1 wr d q (k + 1) (rowV gm q)) := by
            obtain ⟨m1, hpush, hown⟩ := HM.out
            exact ⟨gm, m1, rfl, hpush.done HLead.out (by rw [HLead.out.len, HN.out]; exact Nat.le_refl _), hown.two.tail⟩
          clear HM HLead
          go_wp2
          go_roundw
          case rel => exact ⟨k + 1, by omega, by go_num, HEnd⟩
          case measure => simp [intOf]; omega
    · obtain rfl : k = n := by omega
      have HEnd : Hid (Lead d k l ∧ Own w wr [] [eInts (rowV g N) (ints l)]) := ⟨HLead.out, (HO.out.base HB.out).fin⟩
      clear HLead HO HXw
      go_wp2
      go_ret
      exact ⟨_, _, rfl, HEnd.out.1, HEnd.out.2⟩
theorem countOut_ok {d : Aut} {n : Nat} (h : dchk d = 0) (hn : n ≤ 20) : countOut d n = (((cnt d n d.s.toNat : Nat) : Int), 0) := by
  unfold countOut; rw [if_pos h, if_pos ⟨by omega, by omega⟩]; rfl
theorem countOut_far {d : Aut} {n : Int} (h : dchk d = 0) (hn : n < 0 ∨ 20 < n) : countOut d n = (0, 1) := by
  unfold countOut; rw [if_pos h, if_neg (by omega)]
theorem countOut_bad {d : Aut} {n : Int} (h : dchk d ≠ 0) : countOut d n = (0, dchk d) := by unfold countOut; rw [if_neg h]
set_option maxRecDepth 100000 in
set_option maxHeartbeats 2000000 in
theorem count_any (v : Value) (d : Aut) (n : Int) (w : World) (h : DfaAt w w.heap.size v d) (hn : Small n) :
    Calls Try.prog 19 #[v, .int .i64 n] w fun e w' => Hid (e = .returned (.tuple #[.int .i64 (countOut d n).1, errV (countOut d n).2])) ∧ Below w.heap.size w w' := by
  obtain ⟨hn1, hn2⟩ := hn
  have HV := h
  obtain ⟨L, s, A, c, F, cf, rfl, h⟩ := h
  obtain ⟨w1, hw1, hB1, hX, hd1⟩ := box_dfa w h
  have HB := Lib.hid hB1
  have HX := Lib.hid hX
  have HW := Lib.hid hw1
  have HD := Lib.hid hd1
  have HV := Lib.hid (HV.on hB1)
  have hc0 := hX.c0
  have hc1 := hX.c1
  have hc2 := hX.c2
  have hc3 := hX.c3
  rcases g1 : dchk d with _ | e0
  · have HC := Lib.hid (dcheck_ok HV.out g1)
    have HG : Hid (Df.Good d) := dchk_iff.1 g1
    by_cases g2 : 0 ≤ n
    · by_cases g3 : n ≤ 20
      · obtain ⟨k, rfl⟩ := Int.eq_ofNat_of_zero_le g2
        have hk : k ≤ 20 := by omega
        have HR := Lib.hid (countOut_ok g1 hk)
        have HLd := Lib.hid (fun v W hA => leading_any v d k W hA HG.out hk)
        clear h hd1 hw1 hX hB1 g1 g2 g3
        have h40 := HG.out.n40
        generalize hm : d.fin.length = m at *
        have HM := Lib.hid hm
        clear hm
        generalize hN : d.next.length = N at *
        have HN := Lib.hid hN
        clear hN
        go_enter Try.func19, Try.ntmps19
        go_wp2_with fail
        rw [← HW.out]
        clear HW
        refine HC.out.mono ?_
        rintro e w2 ⟨rfl, hb⟩
        have HX := Lib.hid (HX.out.on hb)
        have HD := Lib.hid (HD.out.on hb)
        have HV := Lib.hid (HV.out.on hb)
        have HB := Lib.hid (HB.out.trans (hb.mono HB.out.size))
        clear hb HC hc0 hc1 hc2 hc3
        have hc0 := HX.out.c0
        have hc1 := HX.out.c1
        have hc2 := HX.out.c2
        have hc3 := HX.out.c3
        go_wp2_with fail
        refine (HLd.out _ _ HV.out).mono ?_
        rintro e w3 he
        obtain ⟨g, l, h1, hlead, hown⟩ := he.out
        subst h1
        have HLead := Lib.hid hlead
        have HX := Lib.hid (HX.out.on hown.below)
        have HD := Lib.hid (HD.out.on hown.below)
        have HB := Lib.hid (HB.out.trans (hown.below.mono HB.out.size))
        have hnn : (k : Int) ≤ 20 := by omega
        have HO := Lib.hid hown
        have HS : Hid (accTo d l 0 = 0) := accTo_zero d l
        clear he hlead hown HLd HV hc0 hc1 hc2 hc3
        go_wp2
        clear hnn
        go_loop [7, 26] (fun a i => ∃ (q acc : Nat), q ≤ N ∧ i = .int .i64 q ∧ a = .int .i64 acc ∧ Hid (accTo d l q = acc)) (fun _ i => N - (intOf i).toNat)
        case atStart => exact ⟨0, 0, by omega, rfl, rfl, HS⟩
        case round =>
          clear HS
          obtain ⟨q, acc, hq, rfl, rfl, HS⟩ := hrel
          by_cases hqn : q < N
          · obtain ⟨x, hx⟩ := get_of_lt (l := l) (i := q) (by rw [HLead.out.len, HN.out]; exact hqn)
            have hs1 := accTo_small HG.out HLead.out hk q
            have hs2 := HLead.out.small HG.out hk hx
            rw [HS.out] at hs1
            obtain ⟨hl1, _⟩ := own_ints_cell HO.out (List.mem_append_right _ List.mem_cons_self) (by rw [ints_length, HLead.out.len, HN.out]) (ints_get hx)
            obtain ⟨adf, rfl, hfb, hfc, hfl⟩ := HD.out.fins.at_ (HG.out.fin_at (q := q) (by rw [HN.out]; exact hqn))
            have hc3 := HX.out.c3
            have e1 : (q : Int) < (m : Int) := by have := HM.out; omega
            rcases hfin : finA d q with _ | _
            · have HN1 : Hid (accTo d l (q + 1) = acc) := by unfold Hid; rw [accTo_miss hx hfin, HS.out]
              rw [hfin] at hfc
              clear hfin hx HS hfl
              go_wp2
              go_round
              case rel => exact ⟨q + 1, acc, by omega, by go_num, rfl, HN1⟩
              case measure => simp [intOf]; omega
            · have HN1 : Hid (accTo d l (q + 1) = acc + x) := by unfold Hid; rw [accTo_hit hx hfin, HS.out]
              rw [hfin] at hfc
              clear hfin hx HS hfl
              go_wp2
              go_round
              case rel => exact ⟨q + 1, acc + x, by omega, by go_num, by go_num, HN1⟩
              case measure => simp [intOf]; omega
          · have HE : Hid (cnt d k d.s.toNat = acc) := by unfold Hid; rw [← HS.out, accTo_all HLead.out (by rw [HLead.out.len, HN.out]; omega)]
            go_wp2
            go_ret2
            exact ⟨by rw [HR.out, HE.out]; rfl, HB.out⟩
      · have HR := Lib.hid (countOut_far g1 (.inr (show 20 < n by omega)))
        clear h hd1 hw1 hX hB1 g1
        generalize d.fin.length = m at *
        generalize d.next.length = N at *
        go_enter Try.func19, Try.ntmps19
        go_wp2_with fail
        rw [← HW.out]
        clear HW
        refine HC.out.mono ?_
        rintro e w2 ⟨rfl, hb⟩
        have HB := Lib.hid (HB.out.trans (hb.mono HB.out.size))
        clear hb HC hc0 hc1 hc2 hc3 HX HD HV
        go_wp2
        go_ret2
        exact ⟨by rw [HR.out]; rfl, HB.out⟩
    · have HR := Lib.hid (countOut_far g1 (.inl (show n < 0 by omega)))
      clear h hd1 hw1 hX hB1 g1
      generalize d.fin.length = m at *
      generalize d.next.length = N at *
      go_enter Try.func19, Try.ntmps19
      go_wp2_with fail
      rw [← HW.out]
      clear HW
      refine HC.out.mono ?_
      rintro e w2 ⟨rfl, hb⟩
      have HB := Lib.hid (HB.out.trans (hb.mono HB.out.size))
      clear hb HC hc0 hc1 hc2 hc3 HX HD HV
      go_wp2
      go_ret2
      exact ⟨by rw [HR.out]; rfl, HB.out⟩
  · have HC := Lib.hid (dcheck_bad HV.out g1 rfl)
    have HR : Hid (countOut d n = (0, e0 + 1)) := by unfold Hid; rw [countOut_bad (by omega), g1]
    clear h hd1 hw1 hX hB1 g1
    generalize d.fin.length = m at *
    generalize d.next.length = N at *
    generalize hE : ((e0 + 1 : Nat) : Int) = E at *
    have HE := Lib.hid hE
    clear hE
    go_enter Try.func19, Try.ntmps19
    go_wp2_with fail
    rw [← HW.out]
    clear HW
    refine HC.out.mono ?_
    rintro e w2 ⟨rfl, hb⟩
    have HB := Lib.hid (HB.out.trans (hb.mono HB.out.size))
    clear hb HC hc0 hc1 hc2 hc3 HX HD HV
    go_wp2
    go_ret2
    exact ⟨by rw [HR.out, errV_succ, HE.out]; rfl, HB.out⟩
end Go.Proofs.Ytloihkoamccacaa.Rc
