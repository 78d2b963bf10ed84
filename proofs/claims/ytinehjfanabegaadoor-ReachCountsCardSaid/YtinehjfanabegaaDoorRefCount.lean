/- The walk of the document's answer that counts words: stilewardref1's Count. -/
import Derived.Test.YtinehjfanabegaaDoorReachL
import Derived.Test.YtinehjfanabegaaDoorDfaR
namespace Go.Proofs.YtinehjfanabegaaDoor.Rc
open Go.RowKit Go.IntWalk Go.Proofs.YtinehjfanabegaaDoor.Wd Go.Proofs.YtinehjfanabegaaDoor.Wo Go.Proofs.YtinehjfanabegaaDoor.Df

/-- A row of n values of a function. -/
def tabF (n : Nat) (f : Nat → Nat) : List Nat := (List.range n).map f
theorem tabF_length (n : Nat) (f : Nat → Nat) : (tabF n f).length = n := by simp [tabF]
theorem tabF_get {n i : Nat} (f : Nat → Nat) (h : i < n) : (tabF n f)[i]? = some (f i) := by unfold tabF; rw [List.getElem?_map, List.getElem?_range h]; rfl
theorem tabF_congr {n : Nat} {f g : Nat → Nat} (h : ∀ t, t < n → f t = g t) : tabF n f = tabF n g := List.map_congr_left fun t ht => h t (List.mem_range.1 ht)
theorem tabF_set (n : Nat) (f : Nat → Nat) (i x : Nat) : (tabF n f).set i x = tabF n (fun t => if t = i then x else f t) := by
  refine List.ext_getElem? fun k => ?_
  rw [List.getElem?_set, tabF_length]
  by_cases hk : k < n
  · rw [tabF_get _ hk, tabF_get _ hk]
    by_cases e : i = k
    · subst e; simp [hk]
    · rw [if_neg e, if_neg (fun q => e q.symm)]
  · rw [List.getElem?_eq_none (by rw [tabF_length]; omega), List.getElem?_eq_none (by rw [tabF_length]; omega)]
    split
    · rw [if_neg (by omega)]
    · rfl
theorem tabF_zero (n : Nat) : tabF n (fun _ => 0) = List.replicate n 0 := by
  unfold tabF; rw [List.map_const']; simp
/-- The first row, midway. -/
def f0 (d : Aut) (i t : Nat) : Nat := if t < i then cnt d 0 t else 0
/-- A row midway. -/
def fC (d : Aut) (k s c t : Nat) : Nat := if t < s then cnt d (k + 1) t else if t = s then backTo d (cnt d k) s c else 0
theorem fC_start (d : Aut) (k n : Nat) : tabF n (fC d k 0 0) = List.replicate n 0 := by
  rw [← tabF_zero]
  refine tabF_congr fun t _ => ?_
  unfold fC
  rw [if_neg (by omega)]
  split
  · exact backTo_zero _ _ _
  · rfl
theorem fC_here (d : Aut) (k s c : Nat) : fC d k s c s = backTo d (cnt d k) s c := by unfold fC; rw [if_neg (by omega), if_pos rfl]
theorem fC_step (d : Aut) (k s c n : Nat) : (tabF n (fC d k s c)).set s (backTo d (cnt d k) s c + cnt d k (Df.step d s c)) = tabF n (fC d k s (c + 1)) := by
  rw [tabF_set]
  refine tabF_congr fun t _ => ?_
  unfold fC
  by_cases e : t = s
  · subst e
    rw [if_pos rfl, if_neg (by omega), if_pos rfl, backTo_succ]
  · rw [if_neg e, if_neg e, if_neg e]
theorem fC_row (d : Aut) (k s n : Nat) : tabF n (fC d k s d.L.toNat) = tabF n (fC d k (s + 1) 0) := by
  refine tabF_congr fun t _ => ?_
  unfold fC
  by_cases h1 : t < s
  · rw [if_pos h1, if_pos (by omega)]
  · rw [if_neg h1]
    by_cases h2 : t = s
    · subst h2
      rw [if_pos rfl, if_pos (by omega)]; rfl
    · rw [if_neg h2, if_neg (by omega)]
      split
      · rw [backTo_zero]
      · rfl
theorem fC_done (d : Aut) (k n : Nat) : tabF n (fC d k n 0) = tabF n (cnt d (k + 1)) := by
  refine tabF_congr fun t ht => ?_
  unfold fC
  rw [if_pos ht]
theorem f0_hit {d : Aut} {i n : Nat} (h : finA d i = true) : (tabF n (f0 d i)).set i 1 = tabF n (f0 d (i + 1)) := by
  rw [tabF_set]
  refine tabF_congr fun t _ => ?_
  unfold f0
  by_cases e : t = i
  · subst e
    rw [if_pos rfl, if_pos (by omega), cnt, if_pos h]
  · rw [if_neg e]
    by_cases e2 : t < i
    · rw [if_pos e2, if_pos (by omega)]
    · rw [if_neg e2, if_neg (by omega)]
theorem f0_miss {d : Aut} {i n : Nat} (h : finA d i = false) : tabF n (f0 d i) = tabF n (f0 d (i + 1)) := by
  refine tabF_congr fun t _ => ?_
  unfold f0
  by_cases e : t = i
  · subst e
    rw [if_neg (by omega), if_pos (by omega), cnt, if_neg (by rw [h]; decide)]
  · by_cases e2 : t < i
    · rw [if_pos e2, if_pos (by omega)]
    · rw [if_neg e2, if_neg (by omega)]
theorem f0_start (d : Aut) (n : Nat) : tabF n (f0 d 0) = List.replicate n 0 := by
  rw [← tabF_zero]
  exact tabF_congr fun t _ => by unfold f0; rw [if_neg (by omega)]
theorem f0_done (d : Aut) (n : Nat) : tabF n (f0 d n) = tabF n (cnt d 0) := tabF_congr fun t ht => by unfold f0; rw [if_pos ht]
/-- The row of a function, in block g. -/
def RowF (w1 wr : World) (g N : Nat) (f : Nat → Nat) : Prop := Own w1 wr [eInts (rowV g N) (ints (tabF N f))] []
def WInv (w1 wr : World) (d : Aut) (N k : Nat) (pv : Value) : Prop := ∃ g, pv = rowV g N ∧ RowF w1 wr g N (cnt d k)
def TInv (w1 wr : World) (d : Aut) (N k g gm s c : Nat) : Prop := Own w1 wr [eInts (rowV gm N) (ints (tabF N (fC d k s c))), eInts (rowV g N) (ints (tabF N (cnt d k)))] []
theorem tinv_set {w1 wr : World} {d : Aut} {N k g gm s c x y t : Nat} (h : TInv w1 wr d N k g gm s c) (ht : Df.step d s c = t) (hx : cnt d k t = x) (hy : fC d k s c s = y) (n : Nat) :
    TInv w1 ((wr.drewN n).setCell ⟨gm, s, none⟩ (.int .i64 ((y : Int) + (x : Int)))) d N k g gm s (c + 1) := by
  subst ht hx hy
  unfold TInv
  rw [← fC_step, ints_set]
  have h2 := own_ints_set (Own.drewN h n) (by rw [ints_length, tabF_length]) s ((backTo d (cnt d k) s c + cnt d k (Df.step d s c) : Nat) : Int)
  rw [fC_here]
  simpa using h2
set_option maxRecDepth 100000 in
set_option maxHeartbeats 2000000 in
theorem rcount_any (v : Value) (d : Aut) (n : Nat) (w : World) (h : DfaAt w w.heap.size v d) (hg : Df.Good d) (hn : n ≤ 20) :
    Calls Tryd.prog 40 #[v, .int .i64 n] w fun e w' => Hid (e = .returned (.int .i64 ((cnt d n d.s.toNat : Nat) : Int))) ∧ Below w.heap.size w w' := by
  obtain ⟨L, s, A, c, F, cf, rfl, h⟩ := h
  obtain ⟨w1, hw1, hB1, hX, hd1⟩ := box_dfa w h
  have HB := Lib.hid hB1
  have HX := Lib.hid hX
  have HW := Lib.hid hw1
  have HD := Lib.hid hd1
  have HG := Lib.hid hg
  have heL := h.eL
  obtain ⟨p, hp⟩ := Int.eq_ofNat_of_zero_le (show 0 ≤ s by have := hg.st.1; have := h.es; omega)
  subst hp
  obtain ⟨l, hl⟩ := Int.eq_ofNat_of_zero_le (show 0 ≤ L by have := hg.l1; omega)
  subst hl
  have hl6 : l ≤ 6 := by have := hg.l6; omega
  have HL : Hid (d.L.toNat = l) := by unfold Hid; omega
  have HL2 : Hid (d.L = (l : Int)) := heL
  have hpn : p < d.next.length := by have := hg.st.2; have := h.es; omega
  have HS : Hid (d.s.toNat = p) := by have := h.es; unfold Hid; omega
  have h40 := hg.n40
  have hfn := hg.fin
  clear h hd1 hw1 hX hB1 hg heL
  generalize hN : d.next.length = N at *
  have HN := Lib.hid hN
  clear hN
  generalize d.fin.length = m at *
  have hmN : m ≤ N := by omega
  have hmN2 : N ≤ m := by omega
  clear hfn
  go_enter Tryd.func40, Tryd.ntmps40
  go_wp2_with (at_make; rw [← HW.out]; refine mk_ints rfl _ _ rfl N rfl rfl (by omega) ?_)
  clear HW
  intro w2 hm2
  have HO := Lib.hid (Own.of_nums hm2)
  have HL0 : Hid (RowF w1 w2 w1.heap.size N (f0 d 0)) := by
    unfold Hid RowF
    rw [f0_start, ints_zero]
    exact HO.out
  clear HO hm2
  generalize w1.heap.size = g0 at HL0 ⊢
  go_wp2
  go_loopw [6] (fun i wr => ∃ (q : Nat), q ≤ N ∧ i = .int .i64 q ∧ Hid (RowF w1 wr g0 N (f0 d q))) (fun i _ => N - (intOf i).toNat)
  case atStart => exact ⟨0, by omega, rfl, HL0⟩
  case round =>
    clear HL0
    obtain ⟨q, hq, rfl, HM⟩ := hrel
    by_cases hqn : q < N
    · have hown := HM.out
      have hbw := hown.below
      obtain ⟨adf, rfl, hfb, hfc, hfl⟩ := (HD.out.on hbw).fins.at_ (HG.out.fin_at (q := q) (by rw [HN.out]; exact hqn))
      have hc3 := (HX.out.on hbw).c3
      have e1 : (q : Int) < (m : Int) := by omega
      rcases hfin : finA d q with _ | _
      · rw [hfin] at hfc
        have HN1 : Hid (RowF w1 wr g0 N (f0 d (q + 1))) := by
          unfold Hid RowF; rw [← f0_miss hfin]; exact hown
        clear hfin hown hbw HM hfl
        go_wp2
        go_roundw
        case rel => exact ⟨q + 1, by omega, by go_num, HN1⟩
        case measure => simp [intOf]; omega
      · rw [hfin] at hfc
        obtain ⟨hm1, hm2⟩ := own_ints_cell hown (List.mem_append_left _ List.mem_cons_self) (by rw [ints_length, tabF_length]) (ints_get (tabF_get _ hqn))
        have HN1 : Hid (RowF w1 (wr.setCell ⟨g0, q, none⟩ (.int .i64 1)) g0 N (f0 d (q + 1))) := by
          unfold Hid RowF; rw [← f0_hit hfin, ints_set]
          exact own_ints_set hown (by rw [ints_length, tabF_length]) q 1
        clear hfin hown hbw HM hfl
        generalize ((f0 d q q : Nat) : Int) = old at *
        go_wp2
        go_roundw
        case rel => exact ⟨q + 1, by omega, by go_num, HN1⟩
        case measure => simp [intOf]; omega
    · obtain rfl : q = N := by omega
      have HL1 : Hid (WInv w1 wr d q 0 (rowV g0 q)) := ⟨_, rfl, by have h := HM.out; unfold RowF at h ⊢; rw [f0_done] at h; exact h⟩
      clear HM
      go_wp2
      go_loopw [5, 7] (fun pv i wr => ∃ (k : Nat), k ≤ n ∧ i = .int .i64 k ∧ Hid (WInv w1 wr d q k pv)) (fun _ i _ => n - (intOf i).toNat)
      case atStart => exact ⟨0, by omega, rfl, HL1⟩
      case round =>
        clear HL1
        obtain ⟨k, hk, rfl, HS1⟩ := hrel
        obtain ⟨g, hpv, hown⟩ := HS1.out
        subst hpv
        have HO := Lib.hid hown
        have HXw := Lib.hid (HX.out.on hown.below)
        clear HS1 hown
        by_cases hlt : k < n
        · go_wp2_with (at_make; refine mk_ints rfl _ _ rfl q rfl rfl (by omega) ?_)
          intro w4 hm4
          have HO4 := Lib.hid (HO.out.join (Own.of_nums hm4))
          have HL1 : Hid (TInv w1 w4 d q k g wr.heap.size 0 0) := by
            unfold Hid TInv
            rw [fC_start, ints_zero]
            exact HO4.out
          clear hm4 HO4 HO HXw
          generalize wr.heap.size = gm at *
          go_wp2
          go_loopw [9] (fun i wi => ∃ (t : Nat), t ≤ q ∧ i = .int .i64 t ∧ Hid (TInv w1 wi d q k g gm t 0)) (fun i _ => q - (intOf i).toNat)
          case atStart => exact ⟨0, by omega, rfl, HL1⟩
          case round =>
            clear HL1
            obtain ⟨t, ht, rfl, HM⟩ := hrel
            by_cases htq : t < q
            · go_wp2
              go_loopw [10] (fun i wi => ∃ (c : Nat), c ≤ l ∧ i = .int .i64 c ∧ Hid (TInv w1 wi d q k g gm t c)) (fun i _ => l - (intOf i).toNat)
              case atStart => exact ⟨0, by omega, rfl, HM⟩
              case round =>
                clear HM
                obtain ⟨j, hj, rfl, HM⟩ := hrel
                have hown := HM.out
                have hbw := hown.below
                have hc0 := (HX.out.on hbw).c0
                have hc2 := (HX.out.on hbw).c2
                by_cases hjl : j < l
                · have ht' : t < d.next.length := by rw [HN.out]; exact htq
                  obtain ⟨ad, ar, mr, cr, rfl, hadb, hcell, hjm, harb, hac⟩ := (HD.out.on hbw).step_at HG.out ht' (i := j) (by rw [HL2.out]; omega)
                  have hst := HG.out.step_lt ht' (a := j) (by rw [HL2.out]; omega)
                  rw [HN.out] at hst
                  obtain ⟨hm1, hm2⟩ := own_ints_cell hown (List.mem_append_left _ List.mem_cons_self) (by rw [ints_length, tabF_length]) (ints_get (tabF_get _ htq))
                  obtain ⟨hl1, _⟩ := own_ints_cell hown (List.mem_append_left _ (List.mem_cons_of_mem _ List.mem_cons_self)) (by rw [ints_length, tabF_length]) (ints_get (tabF_get _ hst))
                  have hys : fC d k t j t ≤ 3656158440062976 := by rw [fC_here]; exact backTo_small HG.out (by omega) (by have := HL.out; omega)
                  have hxs : cnt d k (Df.step d t j) ≤ 3656158440062976 := cnt_small HG.out (by omega)
                  have HNext := Lib.hid (tinv_set hown rfl rfl rfl)
                  clear hown hbw HM
                  generalize fC d k t j t = y at *
                  generalize cnt d k (Df.step d t j) = x at *
                  generalize Df.step d t j = u at *
                  have hw9 : IntKind.i64.wrap ((y : Int) + (x : Int)) = (y : Int) + (x : Int) := IntWalk.i64_in _ ⟨by omega, by omega⟩
                  have e1 : (u : Int) < (q : Int) := by omega
                  have e2 : (j : Int) < (mr : Int) := by omega
                  clear hxs hys hst
                  go_wp2_with fail
                  go_region
                  clear hw9 hm1 hm2 hl1 hc0 hc2 hcell hac
                  go_wp2
                  go_roundw
                  case rel => exact ⟨j + 1, by omega, by go_num, HNext.out _⟩
                  case measure => simp [intOf]; omega
                · obtain rfl : j = l := by omega
                  have HEnd : Hid (TInv w1 wr d q k g gm (t + 1) 0) := by
                    unfold TInv at hown
                    rw [← HL.out, fC_row] at hown
                    exact hown
                  clear hown hbw HM
                  go_wp2
                  go_roundw
                  case rel => exact ⟨t + 1, by omega, by go_num, HEnd⟩
                  case measure => simp [intOf]; omega
            · obtain rfl : t = q := by omega
              have HEnd : Hid (WInv w1 wr d t (k + 1) (rowV gm t)) := by
                have hown := HM.out
                unfold TInv at hown
                rw [fC_done] at hown
                exact ⟨gm, rfl, hown.two.tail⟩
              clear HM
              go_wp2
              go_roundw
              case rel => exact ⟨k + 1, by omega, by go_num, HEnd⟩
              case measure => simp [intOf]; omega
        · obtain rfl : k = n := by omega
          obtain ⟨hm1, _⟩ := own_ints_cell HO.out (List.mem_append_left _ List.mem_cons_self) (by rw [ints_length, tabF_length]) (ints_get (tabF_get _ hpn))
          have HBw := Lib.hid (HB.out.trans (HO.out.below.mono HB.out.size))
          have hc1 := HXw.out.c1
          have e1 : (p : Int) < (q : Int) := by omega
          have HC : Hid (cnt d k d.s.toNat = cnt d k p) := by unfold Hid; rw [HS.out]
          generalize cnt d k p = x at *
          clear HO
          go_wp2
          go_ret
          exact ⟨by rw [HC.out]; rfl, HBw.out⟩
end Go.Proofs.YtinehjfanabegaaDoor.Rc
