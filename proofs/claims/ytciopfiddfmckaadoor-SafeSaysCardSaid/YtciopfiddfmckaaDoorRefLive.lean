/- The walks of the document's answer for the lists of what is reached and alive: stilewardref1's Reached, Live, Alive. -/
import Derived.Test.YtciopfiddfmckaaDoorRefLeads
import Derived.Test.YtciopfiddfmckaaDoorReached
namespace Go.Proofs.YtciopfiddfmckaaDoor.Rc
open Go.RowKit Go.IntWalk Go.Proofs.YtciopfiddfmckaaDoor.Wd Go.Proofs.YtciopfiddfmckaaDoor.Wo Go.Proofs.YtciopfiddfmckaaDoor.Df

/-- What a function returns that gives a list of ints. -/
def IntsV (l : List Int) (w : World) (e : Ending) (w' : World) : Prop := ∃ wv, e = .returned wv ∧ Own w w' [] [eInts wv l]
def liveTo (d : Aut) (s t : Nat) : Bool := (List.range t).any fun u => isReached d s u && finA d u
theorem liveTo_succ (d : Aut) (s t : Nat) : liveTo d s (t + 1) = (liveTo d s t || (isReached d s t && finA d t)) := by unfold liveTo; rw [List.range_succ, List.any_append]; simp
theorem liveTo_full {d : Aut} (g : Df.Good d) {s : Nat} (hs : s < d.next.length) : liveTo d s d.next.length = isAlive d s := by
  rw [Bool.eq_iff_iff]
  unfold liveTo isAlive
  rw [List.any_eq_true, List.any_eq_true]
  constructor
  · rintro ⟨u, _, h⟩
    rw [Bool.and_eq_true] at h
    exact ⟨u, of_decide_eq_true h.1, h.2⟩
  · rintro ⟨u, hu, h⟩
    exact ⟨u, List.mem_range.2 (rset_lt g hs hu), by rw [Bool.and_eq_true]; exact ⟨decide_eq_true hu, h⟩⟩
def gL (d : Aut) (s t x : Nat) : Bool := if x < s then isAlive d x else if x = s then liveTo d s t else false
theorem gL_start (d : Aut) (n : Nat) : bF n (gL d 0 0) = List.replicate n false := by
  rw [← bF_false]
  refine bF_congr fun t _ => ?_
  unfold gL
  rw [if_neg (by omega)]
  split
  · rfl
  · rfl
theorem gL_hit {d : Aut} {s t n : Nat} (h : (isReached d s t && finA d t) = true) : (bF n (gL d s t)).set s true = bF n (gL d s (t + 1)) := by
  rw [bF_set]
  refine bF_congr fun x _ => ?_
  unfold gL
  by_cases e : x = s
  · subst e; rw [if_pos rfl, if_neg (by omega), if_pos rfl, liveTo_succ, h, Bool.or_true]
  · rw [if_neg e, if_neg e, if_neg e]
theorem gL_miss {d : Aut} {s t n : Nat} (h : (isReached d s t && finA d t) = false) : bF n (gL d s t) = bF n (gL d s (t + 1)) := by
  refine bF_congr fun x _ => ?_
  unfold gL
  rw [liveTo_succ, h, Bool.or_false]
theorem gL_row {d : Aut} (g : Df.Good d) {s n : Nat} (hs : s < d.next.length) : bF n (gL d s d.next.length) = bF n (gL d (s + 1) 0) := by
  refine bF_congr fun t _ => ?_
  unfold gL
  by_cases h1 : t < s
  · rw [if_pos h1, if_pos (by omega)]
  · rw [if_neg h1]
    by_cases h2 : t = s
    · subst h2; rw [if_pos rfl, if_pos (by omega), liveTo_full g hs]
    · rw [if_neg h2, if_neg (by omega)]
      split
      · rfl
      · rfl
theorem gL_done (d : Aut) (n : Nat) : bF n (gL d n 0) = bF n (isAlive d) := bF_congr fun t ht => by unfold gL; rw [if_pos ht]
set_option maxRecDepth 100000 in
set_option maxHeartbeats 2000000 in
theorem live_any (v : Value) (d : Aut) (w : World) (h : DfaAt w w.heap.size v d) (hg : Df.Good d) :
    Calls Tryd.prog 27 #[v] w fun e w' => Hid (∃ g, e = .returned (rowV g d.next.length) ∧ Own w w' [] [eBools (rowV g d.next.length) (bF d.next.length (isAlive d))]) := by
  have HV := h
  obtain ⟨L, s, A, c, F, cf, rfl, h⟩ := h
  obtain ⟨w1, hw1, hB1, hX, hd1⟩ := box_dfa w h
  have HB := Lib.hid hB1
  have HX := Lib.hid hX
  have HW := Lib.hid hw1
  have HD := Lib.hid hd1
  have HG := Lib.hid hg
  have HLd := Lib.hid (leads_any _ d w1 (HV.on hB1) hg)
  have h40 := hg.n40
  have hfn := hg.fin
  have hc0 := hX.c0
  have hc1 := hX.c1
  have hc2 := hX.c2
  have hc3 := hX.c3
  clear h hd1 hw1 hX hB1 hg HV
  generalize hm : d.fin.length = m at *
  generalize hN : d.next.length = N at *
  have HN := Lib.hid hN
  have hmN : N ≤ m := by omega
  clear hN hm hfn
  go_enter Tryd.func27, Tryd.ntmps27
  go_wp2_with fail
  rw [← HW.out]
  clear HW
  refine HLd.out.mono ?_
  rintro e w2 he
  obtain ⟨At, ct, rs, h1, h2, h3, h4, h5⟩ := he.out
  subst h1
  have HT := Lib.hid h4
  have HLen := Lib.hid h2
  have HRows := Lib.hid h3
  have HX := Lib.hid (HX.out.on h5)
  have HD := Lib.hid (HD.out.on h5)
  have HB := Lib.hid (HB.out.trans (h5.mono HB.out.size))
  clear he h2 h3 h4 h5 HLd hc0 hc1 hc2 hc3
  go_wp2_with (at_make; refine mk_bools rfl _ _ rfl N rfl rfl (by omega) ?_)
  intro w4 ho4
  have HR0 : Hid (Own w2 w4 [eBools (rowV w2.heap.size N) (bF N (gL d 0 0))] []) := by rw [gL_start]; exact ho4
  clear ho4
  go_wp2
  generalize w2.heap.size = gw at HR0 ⊢
  go_loopw [5] (fun i wi => ∃ (q : Nat), q ≤ N ∧ i = .int .i64 q ∧ Hid (Own w2 wi [eBools (rowV gw N) (bF N (gL d q 0))] [])) (fun i _ => N - (intOf i).toNat)
  case atStart => exact ⟨0, by omega, rfl, HR0⟩
  case round =>
    clear HR0
    obtain ⟨q, hq, rfl, HR⟩ := hrel
    by_cases hqN : q < N
    · obtain ⟨r, hr⟩ : ∃ r, rs[q]? = some r := ⟨_, List.getElem?_eq_getElem (by rw [HLen.out]; exact hqN)⟩
      have HRr := Lib.hid hr
      have HR2 : Hid (r.2 = bF N (isReached d q)) := HRows.out q r hr
      clear hr
      go_wp2
      go_loopw [6] (fun i wi => ∃ (j : Nat), j ≤ N ∧ i = .int .i64 j ∧ Hid (Own w2 wi [eBools (rowV gw N) (bF N (gL d q j))] [])) (fun i _ => N - (intOf i).toNat)
      case atStart => exact ⟨0, by omega, rfl, HR⟩
      case round =>
        clear HR
        obtain ⟨j, hj, rfl, HR⟩ := hrel
        have hbw := HR.out.below
        by_cases hjN : j < N
        · obtain ⟨_, ⟨adt, e0, hatb, hatc⟩, hrb, hrc0⟩ := (HT.out.on hbw) q r HRr.out
          subst e0
          have hrc := hrc0 j (isReached d q j) (by rw [HR2.out]; exact bF_get _ hjN)
          clear hrc0
          unfold brV at hatc
          obtain ⟨adf, rfl, hfb, hfc, hfl⟩ := (HD.out.on hbw).fins.at_ (HG.out.fin_at (q := j) (by rw [HN.out]; exact hjN))
          have hc3 := (HX.out.on hbw).c3
          obtain ⟨hk1, hk2⟩ := own_bools_cell HR.out (List.mem_append_left _ List.mem_cons_self) (bF_length _ _) (bF_get _ hqN)
          have e1 : (q : Int) < (N : Int) := by omega
          have e2 : (j : Int) < (N : Int) := by omega
          have e3 : (j : Int) < (m : Int) := by omega
          rcases h1 : isReached d q j with _ | _
          · have HE : Hid (Own w2 wr [eBools (rowV gw N) (bF N (gL d q (j + 1)))] []) := by rw [← gL_miss (by rw [h1]; rfl)]; exact HR.out
            rw [h1] at hrc
            clear h1 HR hbw hk1 hk2 hfl
            generalize finA d j = b2 at *
            go_wp2
            go_roundw
            case rel => exact ⟨j + 1, by omega, by go_num, HE⟩
            case measure => simp [intOf]; omega
          · rcases h2 : finA d j with _ | _
            · have HE : Hid (Own w2 wr [eBools (rowV gw N) (bF N (gL d q (j + 1)))] []) := by rw [← gL_miss (by rw [h2, Bool.and_false])]; exact HR.out
              rw [h1] at hrc
              rw [h2] at hfc
              clear h1 h2 HR hbw hk1 hk2 hfl
              go_wp2
              go_roundw
              case rel => exact ⟨j + 1, by omega, by go_num, HE⟩
              case measure => simp [intOf]; omega
            · have HE : Hid (Own w2 (wr.setCell ⟨gw, q, none⟩ (.bool true)) [eBools (rowV gw N) (bF N (gL d q (j + 1)))] []) := by
                rw [← gL_hit (by rw [h1, h2]; rfl)]; exact own_bools_set HR.out (bF_length _ _) q true
              rw [h1] at hrc
              rw [h2] at hfc
              clear h1 h2 HR hbw hfl
              generalize gL d q j q = old at *
              go_wp2
              go_roundw
              case rel => exact ⟨j + 1, by omega, by go_num, HE⟩
              case measure => simp [intOf]; omega
        · obtain rfl : j = N := by omega
          have HE : Hid (Own w2 wr [eBools (rowV gw j) (bF j (gL d (q + 1) 0))] []) := by
            rw [← gL_row HG.out (by rw [HN.out]; exact hqN), HN.out]; exact HR.out
          clear HR hbw
          go_wp2
          go_roundw
          case rel => exact ⟨q + 1, by omega, by go_num, HE⟩
          case measure => simp [intOf]; omega
    · obtain rfl : q = N := by omega
      have HE : Hid (Own w wr [] [eBools (rowV gw q) (bF q (isAlive d))]) := by
        have h := (HR.out.base HB.out).fin
        rw [gL_done] at h
        exact h
      clear HR
      go_wp2
      go_ret
      exact ⟨_, rfl, HE.out⟩
end Go.Proofs.YtciopfiddfmckaaDoor.Rc
