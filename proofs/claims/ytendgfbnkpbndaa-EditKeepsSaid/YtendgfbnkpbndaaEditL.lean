/- The walk of edit.New. Editors to which letters are offered: stilewardlaw4.edited; the closed fact. -/
import Derived.Test.YtendgfbnkpbndaaEditW
import Derived.Test.YtendgfbnkpbndaaDfaV
import Derived.Test.YtendgfbnkpbndaaTwo
import Derived.Deep.RegionHeld3
namespace Go.Proofs.Ytendgfbnkpbndaa.Ed
open Go.RowKit Go.IntWalk Go.Proofs.Ytendgfbnkpbndaa.Wd Go.Proofs.Ytendgfbnkpbndaa.Wo Go.Proofs.Ytendgfbnkpbndaa.Df Go.Proofs.Ytendgfbnkpbndaa.Rc Go.Proofs.Ytendgfbnkpbndaa.Sm Go.Proofs.Ytendgfbnkpbndaa.Sa Go.Proofs.Ytendgfbnkpbndaa.Ga

/-- What an automaton that is owned, done, reads as. -/
theorem own_form4 {w w' : World} {x : Value} {d : Aut} (h : DfaNew w w' x d) : ∃ L s A n c F m cf, x = .agg #[.int .i64 L, .int .i64 s, .slice A n c, .slice F m cf] := (h.own.at_).form
set_option maxRecDepth 100000 in
set_option maxHeartbeats 2000000 in
theorem enew_ok (v : Value) (d : Aut) (w : World) (h : DfaAt w w.heap.size v d) (hg : Df.Good d) (hem : accA d [] = true) :
    Calls Try.prog 9 #[v] w fun e w' => Hid (∃ g, e = .returned (.tuple #[.pointer (some ⟨g, 0, none⟩), .nilIface]) ∧ EditW w w' g d (edit0 d) [] []) := by
  have HV := h
  obtain ⟨L, s, A, c, F, cf, rfl, h⟩ := h
  obtain ⟨w1, hw1, hB1, hX, hd1⟩ := box_dfa w h
  have HB := Lib.hid hB1
  have HV := Lib.hid (HV.on hB1)
  have HW := Lib.hid hw1
  have hc0 := hX.c0
  have hc1 := hX.c1
  have hc2 := hX.c2
  have hc3 := hX.c3
  have HY := Lib.hid (fun v W (hA : DfaAt W W.heap.size v d) => copy_ok v d W hA (dchk_iff.2 hg))
  have HFin : Hid (d.fin[d.s.toNat]? = some true) := by
    have h1 := hg.fin_at hg.s_lt
    have h3 : accA d [] = finA d d.s.toNat := rfl
    rwa [← h3, hem] at h1
  have HS0 : Hid (0 ≤ d.s) := hg.st.1
  clear h hd1 hw1 hX hB1 hg hem
  generalize d.next.length = n at *
  generalize hm : d.fin.length = m at *
  clear hm
  go_enter Try.func9, Try.ntmps9
  go_wp2_with fail
  rw [← HW.out]
  clear HW
  refine (HY.out _ _ HV.out).mono ?_
  rintro e w3 he
  obtain ⟨x, rfl, hN⟩ := he.out
  obtain ⟨L2, s2, A2, n2, c2, F2, m2, cf2, rfl⟩ := own_form4 hN
  have hat := hN.own.at_
  obtain ⟨eL, es, en, em⟩ := hat.eqs
  obtain ⟨q, hq⟩ : ∃ q : Nat, s2 = (q : Int) := ⟨s2.toNat, by have := HS0.out; omega⟩
  subst hq
  have hfin := HFin.out
  rw [es, Int.toNat_natCast] at hfin
  obtain ⟨w4, hw4, hB4, hV4⟩ := var_new w3 hat
  obtain ⟨_, k1, k2, k3, k4⟩ := hV4.box
  obtain ⟨L9, s9, A9, c9, F9, cf9, e9, hd9⟩ := id hat
  simp only [Value.agg.injEq, Array.mk.injEq, List.cons.injEq, Value.int.injEq, Value.slice.injEq, true_and, and_true] at e9
  obtain ⟨rfl, rfl, ⟨rfl, e91, rfl⟩, rfl, e92, rfl⟩ := e9
  obtain ⟨ad, hF2, hblk, hcell, hym⟩ := hd9.fins.at_ hfin
  subst hF2
  rw [em] at hym
  have HE := Lib.hid (edit_new (dnew_move hN hB4))
  rw [hw4, show (w3.alloc (.cells #[.int .i64 L2, .int .i64 (q : Int), .slice A2 n2 c2, .slice (some ad) m2 cf2] 25)).heap.size = w3.heap.size + 1 by simp] at HE
  have hcell4 : w4.cell? (ad.add q) = some (.bool true) := by rw [hB4.cell (by rw [block_add]; exact hblk)]; exact hcell
  clear e91 e92
  rw [hw4] at hcell4 k1 k2 k3 k4
  clear he hN eL es en em hfin hw4 hB4 hV4 hat hd9 hc0 hc1 hc2 hc3 HFin HS0 HV HY
  go_wp2
  go_ret2
  exact ⟨_, rfl, HE.out.base HB.out⟩
set_option maxRecDepth 100000 in
set_option maxHeartbeats 2000000 in
theorem enew_bad (v : Value) (d : Aut) (w : World) (h : DfaAt w w.heap.size v d) (hg : echk d ≠ 0) :
    Calls Try.prog 9 #[v] w fun e w' => Hid (e = .returned (.tuple #[.pointer none, errV (echk d)])) ∧ Below w.heap.size w w' := by
  have HV := h
  obtain ⟨L, s, A, c, F, cf, rfl, h⟩ := h
  obtain ⟨w1, hw1, hB1, hX, hd1⟩ := box_dfa w h
  have HB := Lib.hid hB1
  have HV := Lib.hid (HV.on hB1)
  have HW := Lib.hid hw1
  have hc0 := hX.c0
  have hc1 := hX.c1
  have hc2 := hX.c2
  have hc3 := hX.c3
  rcases g1 : dchk d with _ | e0
  · have hd := dchk_iff.1 g1
    have HY := Lib.hid (fun v W (hA : DfaAt W W.heap.size v d) => copy_ok v d W hA g1)
    have hem : accA d [] = false := by
      rcases hf : accA d [] with _ | _
      · rfl
      · exact absurd (echk_iff.2 ⟨hd, hf⟩) hg
    have HG : Hid (echk d = 8) := by unfold echk Hid; rw [if_neg (by omega), if_pos hem]
    have HFin : Hid (d.fin[d.s.toNat]? = some false) := by
      have h1 := hd.fin_at hd.s_lt
      have h3 : accA d [] = finA d d.s.toNat := rfl
      rwa [← h3, hem] at h1
    have HS0 : Hid (0 ≤ d.s) := hd.st.1
    clear h hd1 hw1 hX hB1 hg hem hd g1
    generalize d.next.length = n at *
    generalize hm : d.fin.length = m at *
    clear hm
    go_enter Try.func9, Try.ntmps9
    go_wp2_with fail
    rw [← HW.out]
    clear HW
    refine (HY.out _ _ HV.out).mono ?_
    rintro e w3 he
    obtain ⟨x, rfl, hN⟩ := he.out
    obtain ⟨L2, s2, A2, n2, c2, F2, m2, cf2, rfl⟩ := own_form4 hN
    have hat := hN.own.at_
    obtain ⟨eL, es, en, em⟩ := hat.eqs
    obtain ⟨q, hq⟩ : ∃ q : Nat, s2 = (q : Int) := ⟨s2.toNat, by have := HS0.out; omega⟩
    subst hq
    have hfin := HFin.out
    rw [es, Int.toNat_natCast] at hfin
    obtain ⟨w4, hw4, hB4, hV4⟩ := var_new w3 hat
    obtain ⟨_, k1, k2, k3, k4⟩ := hV4.box
    obtain ⟨L9, s9, A9, c9, F9, cf9, e9, hd9⟩ := id hat
    simp only [Value.agg.injEq, Array.mk.injEq, List.cons.injEq, Value.int.injEq, Value.slice.injEq, true_and, and_true] at e9
    obtain ⟨rfl, rfl, ⟨rfl, e91, rfl⟩, rfl, e92, rfl⟩ := e9
    obtain ⟨ad, hF2, hblk, hcell, hym⟩ := hd9.fins.at_ hfin
    subst hF2
    rw [em] at hym
    have HE := Lib.hid (HB.out.trans ((hN.own.below.trans (hB4.mono hN.own.below.size)).mono HB.out.size))
    have hcell4 : w4.cell? (ad.add q) = some (.bool false) := by rw [hB4.cell (by rw [block_add]; exact hblk)]; exact hcell
    clear e91 e92
    rw [hw4] at hcell4 k1 k2 k3 k4 HE
    clear he hN eL es en em hfin hw4 hB4 hV4 hat hd9 hc0 hc1 hc2 hc3 HFin HS0 HV HY HB
    go_wp2
    go_ret2
    exact ⟨by rw [HG.out]; rfl, HE.out⟩
  · have HY := Lib.hid (fun v W (hA : DfaAt W W.heap.size v d) => copy_bad v d W hA g1)
    have HG : Hid (echk d = e0 + 1) := by unfold echk Hid; rw [if_pos (by omega), g1]
    clear h hd1 hw1 hX hB1 g1 hg
    generalize d.next.length = n at *
    generalize d.fin.length = m at *
    generalize hE : ((e0 + 1 : Nat) : Int) = E at *
    have HE := Lib.hid hE
    clear hE
    go_enter Try.func9, Try.ntmps9
    go_wp2_with fail
    rw [← HW.out]
    clear HW
    refine (HY.out _ _ HV.out).mono ?_
    rintro e w2 ⟨he, hb⟩
    obtain rfl := he.out
    have HB := Lib.hid (HB.out.trans ((hb.alloc hb.size (.cells #[.int .i64 0, .int .i64 0, .slice none 0 0, .slice none 0 0] 25)).mono HB.out.size))
    clear hb hc0 hc1 hc2 hc3 HY HV he
    go_wp2
    go_ret2
    exact ⟨by rw [HG.out, errV_succ, HE.out]; rfl, HB.out⟩
/-! ### edited -/
theorem eoffer_errs (d : Aut) (E : Et) (a : Int) : ((eoffer d E a).1 = 0 ∧ ∀ w, took d E a w = w ++ [a]) ∨ ((eoffer d E a).1 = 1 ∧ ∀ w, took d E a w = w) ∨ ((eoffer d E a).1 = 4 ∧ ∀ w, took d E a w = w) := by
  unfold took
  rcases eoffer_ways d E a with ⟨_, q⟩ | ⟨_, _, q⟩ | ⟨_, _, _, q⟩ | ⟨_, _, _, q⟩ <;> rw [q] <;> simp
set_option maxRecDepth 100000 in
set_option maxHeartbeats 2000000 in
theorem edited_ok (v : Value) (d : Aut) (A : Option Addr) (c : Nat) (z : List Int) (w : World) (h : DfaAt w w.heap.size v d) (hZ : IntsAt w w.heap.size A z) (hz : z.length ≤ 17592186044416) (hg : Df.Good d) (hem : accA d [] = true) :
    Calls Try.prog 13 #[v, .slice A z.length c] w fun e w' => Hid (∃ g v', e = .returned (.tuple #[.pointer (some ⟨g, 0, none⟩), v', .bool true]) ∧ EditW w w' g d (eoffers d (edit0 d, []) (z.take 200)).1 [eInts v' (eoffers d (edit0 d, []) (z.take 200)).2] []) := by
  obtain ⟨L, s, B0, n0, c0, F0, m0, k0, rfl⟩ := h.form
  obtain ⟨w1, hw1, hB1, hV⟩ := var_new w h
  have HB := Lib.hid hB1
  have HW := Lib.hid hw1
  have HZ := Lib.hid (hZ.on hB1)
  have HN := Lib.hid (enew_ok _ d w1 hV.at_ hg hem)
  obtain ⟨_, q1, q2, q3, q4⟩ := hV.box
  have HGd := Lib.hid hg
  have HOK : Hid (∀ l, Eok d (eoffers d (edit0 d, []) l).1 (eoffers d (edit0 d, []) l).2) := fun l => eok_offers (p := (edit0 d, [])) (eok_start hem) l
  clear h hw1 hB1 hV hZ hg hem
  obtain ⟨zl, hzl⟩ : ∃ zl, z.length = zl := ⟨_, rfl⟩
  rw [hzl] at hz ⊢
  have HL := Lib.hid hzl
  clear hzl
  go_enter Try.func13, Try.ntmps13
  go_wp2_with fail
  rw [← HW.out]
  clear HW
  refine HN.out.mono ?_
  rintro e w2 he
  obtain ⟨g, rfl, hG⟩ := he.out
  have HS : Hid (EditW w1 w2 g d (eoffers d (edit0 d, []) (z.take 0)).1 [eInts (.slice none 0 0) (eoffers d (edit0 d, []) (z.take 0)).2] []) := hG.with_nil
  clear he hG HN q1 q2 q3 q4
  go_wp2
  go_loopw [9, 10] (fun x i wr => ∃ k : Nat, k ≤ zl ∧ k ≤ 200 ∧ i = .int .i64 k ∧ Hid (EditW w1 wr g d (eoffers d (edit0 d, []) (z.take k)).1 [eInts x (eoffers d (edit0 d, []) (z.take k)).2] [])) (fun _ i _ => 200 - (intOf i).toNat)
  case atStart => exact ⟨0, by omega, by omega, rfl, HS⟩
  case round =>
    clear HS
    obtain ⟨k, hk, hk8, rfl, HS⟩ := hrel
    have hok := HOK.out (z.take k)
    obtain ⟨Ax, cx, rfl, _, _⟩ := HS.out.ints (List.mem_cons_self) (letter_small HGd.out hok.word)
    by_cases hlt : k < zl
    · by_cases h8 : k < 200
      · have hkz : k < z.length := by rw [HL.out]; exact hlt
        have hZ := HZ.out.on HS.out.below
        obtain ⟨ada, rfl, hab, hac, _⟩ := hZ.get (List.getElem?_eq_getElem hkz)
        have hsa : Small z[k] := hZ.2 _ (List.getElem_mem hkz)
        have hll := hok.len
        have HF := Lib.hid (eoffer_any w1 wr g d _ _ _ _ z[k] HS.out HGd.out hok hsa)
        have HT : Hid (eoffers d (edit0 d, []) (z.take (k + 1)) = ((eoffer d (eoffers d (edit0 d, []) (z.take k)).1 z[k]).2.2, took d (eoffers d (edit0 d, []) (z.take k)).1 z[k] (eoffers d (edit0 d, []) (z.take k)).2)) := eoffers_take d _ z hkz
        have e1 : (k : Int) < (zl : Int) := by omega
        have e2 : (k : Int) < 200 := by omega
        have HK := Lib.hid (List.getElem?_eq_getElem hkz)
        have hes := eoffer_errs d (eoffers d (edit0 d, []) (z.take k)).1 z[k]
        clear hok HS hZ hab
        generalize z[k] = a at *
        clear hkz
        generalize (eoffers d (edit0 d, []) (z.take k)).1 = E at *
        generalize (eoffers d (edit0 d, []) (z.take k)).2 = l at *
        generalize hR : eoffer d E a = R at *
        rcases hes with ⟨hr1, ht⟩ | ⟨hr1, ht⟩ | ⟨hr1, ht⟩
        · as_aux_lemma =>
          rw [ht] at HT
          go_wp2_with fail
          refine HF.out.mono ?_
          rintro e w3 he
          obtain ⟨A3, c3, he2, _, hG⟩ := he.out
          rw [hr1] at he2
          generalize R.2.1.length = n3 at *
          obtain rfl : e = .returned (.tuple #[.slice A3 n3 c3, .nilIface]) := he2
          obtain ⟨nv, fv, pv, rs, hV⟩ := hG
          have HV := Lib.hid hV
          have HO := Lib.hid hV.front
          obtain ⟨ada', e5, _, hac2, _⟩ := (HZ.out.on hV.own.below).get (k := k) (y := a) HK.out
          obtain rfl := Option.some.inj e5
          clear he HF hac hV e5 hr1 ht hR
          go_wp2_with (at_builtin; refine own_int rfl _ _ rfl rfl HO.out rfl (by omega) ?_)
          intro g2 cap w4 ho
          have HG : Hid (EditW w1 w4 g d (eoffers d (edit0 d, []) (z.take (k + 1))).1 [eInts (.slice (some ⟨g2, 0, none⟩) (l.length + 1) cap) (eoffers d (edit0 d, []) (z.take (k + 1))).2] []) := by
            unfold Hid
            rw [HT.out]
            exact ⟨_, _, _, _, HV.out.tail.swap (by rw [List.append_nil]; exact ho)⟩
          clear HO ho HV hac2
          go_wp2
          go_roundw
          case rel => exact ⟨k + 1, by omega, by omega, by go_num, HG⟩
          case measure => simp [intOf]; omega
        all_goals as_aux_lemma =>
          rw [ht] at HT
          go_wp2_with fail
          refine HF.out.mono ?_
          rintro e w3 he
          obtain ⟨A3, c3, he2, _, hG⟩ := he.out
          rw [hr1] at he2
          generalize R.2.1.length = n3 at *
          first
            | obtain rfl : e = .returned (.tuple #[.slice A3 n3 c3, errI 1]) := he2
            | obtain rfl : e = .returned (.tuple #[.slice A3 n3 c3, errI 4]) := he2
          have HG : Hid (EditW w1 w3 g d (eoffers d (edit0 d, []) (z.take (k + 1))).1 [eInts (.slice Ax l.length cx) (eoffers d (edit0 d, []) (z.take (k + 1))).2] []) := by
            unfold Hid
            rw [HT.out]
            exact hG
          clear he HF hac hG hr1 ht hR
          go_wp2
          go_roundw
          case rel => exact ⟨k + 1, by omega, by omega, by go_num, HG⟩
          case measure => simp [intOf]; omega
      · obtain rfl : k = 200 := by omega
        have e1 : ((200 : Nat) : Int) < (zl : Int) := by omega
        have HE := Lib.hid (HS.out.base HB.out)
        clear HS hok
        generalize (eoffers d (edit0 d, []) (z.take 200)).2.length = ln at *
        go_wp2
        go_ret3
        exact ⟨_, _, rfl, HE.out⟩
    · obtain rfl : k = zl := by omega
      have HE : Hid (EditW w wr g d (eoffers d (edit0 d, []) (z.take 200)).1 [eInts (.slice Ax (eoffers d (edit0 d, []) (z.take k)).2.length cx) (eoffers d (edit0 d, []) (z.take 200)).2] []) := by
        have h := HS.out.base HB.out
        have e : z.take 200 = z.take k := by rw [List.take_of_length_le (by rw [HL.out]; omega), List.take_of_length_le (by rw [HL.out]; omega)]
        rw [e]; exact h
      clear HS hok
      generalize (eoffers d (edit0 d, []) (z.take k)).2.length = ln at *
      go_wp2
      go_ret3
      exact ⟨_, _, rfl, HE.out⟩
set_option maxRecDepth 100000 in
set_option maxHeartbeats 2000000 in
theorem edited_bad (v : Value) (d : Aut) (A : Option Addr) (n c : Nat) (w : World) (h : DfaAt w w.heap.size v d) (hg : echk d ≠ 0) :
    Calls Try.prog 13 #[v, .slice A n c] w fun e w' => e = .returned (.tuple #[.pointer none, .slice none 0 0, .bool false]) ∧ Below w.heap.size w w' := by
  obtain ⟨L, s, B0, n0, c0, F0, m0, k0, rfl⟩ := h.form
  obtain ⟨w1, hw1, hB1, hV⟩ := var_new w h
  have HB := Lib.hid hB1
  have HW := Lib.hid hw1
  have HN := Lib.hid (enew_bad _ d w1 hV.at_ hg)
  obtain ⟨_, q1, q2, q3, q4⟩ := hV.box
  obtain ⟨x, hx⟩ : ∃ x, echk d = x + 1 := ⟨echk d - 1, by omega⟩
  rw [hx, errV_succ] at HN
  generalize ((x + 1 : Nat) : Int) = E at *
  clear h hw1 hB1 hV hg hx
  go_enter Try.func13, Try.ntmps13
  go_wp2_with fail
  rw [← HW.out]
  clear HW
  refine HN.out.mono ?_
  rintro e w2 ⟨he, hb⟩
  obtain rfl := he.out
  have HB := Lib.hid (HB.out.trans (hb.mono HB.out.size))
  clear he hb HN q1 q2 q3 q4
  go_wp2
  go_ret3
  exact ⟨rfl, HB.out⟩
/-! ### for the laws -/
/-- A list comes back. -/
def LOut (w w' : World) (e : Ending) (l : List Int) : Prop := ∃ A c, e = .returned (.slice A l.length c) ∧ Hid (IntsAt w' w'.heap.size A l) ∧ Hid (l.length ≤ c) ∧ Below w.heap.size w w'
theorem eout_gives {w0 w : World} {g : Nat} {d : Aut} {E : Et} {wd : List Int} {es fs : List Ent} (hE : EditW w0 w g d E es fs) (hd : Df.Good d) (hk : Eok d E wd) :
    Calls Try.prog 11 #[.pointer (some ⟨g, 0, none⟩)] w fun e w' => LOut w w' e E.out := (eout_any w0 w g d E es fs hE (eok_small hd hk).1 (eok_small hd hk).2).mono fun e w' he => by
  obtain ⟨v', rfl, ho⟩ := he.out
  obtain ⟨A, c, rfl, h1, _, h2⟩ := own_ints_at ho (List.mem_append_left _ List.mem_cons_self) (fun x hx => (eok_small hd hk).1 x (List.mem_append_left _ hx))
  exact ⟨A, c, rfl, h2, h1, ho.below⟩
theorem held_gives {w0 w : World} {g : Nat} {d : Aut} {E : Et} {wd : List Int} {es fs : List Ent} (hE : EditW w0 w g d E es fs) (hd : Df.Good d) (hk : Eok d E wd) :
    Calls Try.prog 14 #[.pointer (some ⟨g, 0, none⟩)] w fun e w' => LOut w w' e E.held := (held_any w0 w g d E es fs hE (eok_small hd hk).1 (eok_small hd hk).2).mono fun e w' he => by
  obtain ⟨v', rfl, ho⟩ := he.out
  obtain ⟨A, c, rfl, h1, _, h2⟩ := own_ints_at ho (List.mem_append_left _ List.mem_cons_self) (fun x hx => (eok_small hd hk).1 x (List.mem_append_right _ hx))
  exact ⟨A, c, rfl, h2, h1, ho.below⟩
/-- An editor that is only read from now on, and what it took. -/
def EditR (w : World) (g : Nat) (d : Aut) (E : Et) (wd : List Int) : Prop := Df.Good d ∧ Eok d E wd ∧ ∃ w0 es fs, EditW w0 w g d E es fs
theorem EditR.on {w w' : World} {g : Nat} {d : Aut} {E : Et} {wd : List Int} (h : EditR w g d E wd) (hb : Below w.heap.size w w') : EditR w' g d E wd := by
  obtain ⟨h1, h2, w0, es, fs, h⟩ := h
  exact ⟨h1, h2, w0, es, fs, h.on hb⟩
theorem rout_e {w : World} {g : Nat} {d : Aut} {E : Et} {wd : List Int} (h : EditR w g d E wd) : Calls Try.prog 11 #[.pointer (some ⟨g, 0, none⟩)] w fun e w' => LOut w w' e E.out := by
  obtain ⟨h1, h2, w0, es, fs, h⟩ := h
  exact eout_gives h h1 h2
theorem rheld_e {w : World} {g : Nat} {d : Aut} {E : Et} {wd : List Int} (h : EditR w g d E wd) : Calls Try.prog 14 #[.pointer (some ⟨g, 0, none⟩)] w fun e w' => LOut w w' e E.held := by
  obtain ⟨h1, h2, w0, es, fs, h⟩ := h
  exact held_gives h h1 h2
theorem edited_gives {v : Value} {d : Aut} {A : Option Addr} {c : Nat} {z : List Int} {w : World} (h : DfaAt w w.heap.size v d) (hZ : IntsAt w w.heap.size A z) (hz : z.length ≤ 17592186044416) (hg : echk d = 0) {E : Et} {wd : List Int} (hE : eoffers d (edit0 d, []) (z.take 200) = (E, wd)) :
    Calls Try.prog 13 #[v, .slice A z.length c] w fun e w' => ∃ g A' c', e = .returned (.tuple #[.pointer (some ⟨g, 0, none⟩), .slice A' wd.length c', .bool true]) ∧ Hid (EditR w' g d E wd) ∧ Hid (IntsAt w' w'.heap.size A' wd) ∧ Hid (wd.length ≤ c') ∧ Below w.heap.size w w' := by
  obtain ⟨h1, h2⟩ := echk_iff.1 hg
  have hok := eok_offers (p := (edit0 d, [])) (eok_start h2) (z.take 200)
  have h3 := edited_ok v d A c z w h hZ hz h1 h2
  rw [hE] at hok h3
  exact h3.mono fun e w' he => by
    obtain ⟨g, v', rfl, hG⟩ := he.out
    obtain ⟨A', c', rfl, k1, k2⟩ := hG.ints List.mem_cons_self (letter_small h1 hok.word)
    exact ⟨g, A', c', rfl, ⟨h1, hok, _, _, _, hG⟩, k2, k1, hG.below⟩
theorem eints_same {A B : Option Addr} {ca cb : Nat} {l : List Int} {W : World} (h1 : IntsAt W W.heap.size A l) (h2 : IntsAt W W.heap.size B l) (hl : l.length ≤ 140737488355328) :
    Calls Try.prog 15 #[.slice A l.length ca, .slice B l.length cb] W fun e w' => e = .returned (.bool true) ∧ Below W.heap.size W w' :=
  (ints_any A B ca cb l l W h1 h2 hl hl).mono fun e w' ⟨he, n, hn⟩ => ⟨by rw [he.out, decide_eq_true rfl], by rw [hn]; exact below_drewN (Below.refl _ _) n⟩
/-! ### the closed fact -/
theorem pairs_e : echk pairsA = 0 := by decide +kernel
def factE : Et := ⟨1, [0, 1], [1]⟩
set_option maxRecDepth 100000 in
theorem fact_offers : eoffers pairsA (edit0 pairsA, []) (([0, 1, 1] : List Int).take 200) = (factE, [0, 1, 1]) := by kernel_rfl
theorem lit3 (w : World) : IntsAt (w.alloc (.cells #[.int .i64 0, .int .i64 1, .int .i64 1] 3)) (w.alloc (.cells #[.int .i64 0, .int .i64 1, .int .i64 1] 3)).heap.size (some ⟨w.heap.size, 0, none⟩) [0, 1, 1] :=
  lit_ints w [0, 1, 1] (by intro x hx; simp only [List.mem_cons, List.not_mem_nil, or_false] at hx; rcases hx with rfl | rfl | rfl <;> exact ⟨by decide, by decide⟩) (by decide)
theorem lit2 (w : World) : IntsAt (w.alloc (.cells #[.int .i64 0, .int .i64 1] 3)) (w.alloc (.cells #[.int .i64 0, .int .i64 1] 3)).heap.size (some ⟨w.heap.size, 0, none⟩) [0, 1] :=
  lit_ints w [0, 1] (by intro x hx; simp only [List.mem_cons, List.not_mem_nil, or_false] at hx; rcases hx with rfl | rfl <;> exact ⟨by decide, by decide⟩) (by decide)
theorem lit1 (w : World) : IntsAt (w.alloc (.cells #[.int .i64 1] 3)) (w.alloc (.cells #[.int .i64 1] 3)).heap.size (some ⟨w.heap.size, 0, none⟩) [1] :=
  lit_ints w [1] (by intro x hx; simp only [List.mem_cons, List.not_mem_nil, or_false] at hx; rcases hx with rfl <;> exact ⟨by decide, by decide⟩) (by decide)
theorem fact_edited (W : World) (v : Value) (h : DfaAt W W.heap.size v pairsA) : Calls Try.prog 13 #[v, .slice (some ⟨W.heap.size, 0, none⟩) 3 3] (W.alloc (.cells #[.int .i64 0, .int .i64 1, .int .i64 1] 3)) fun e w' =>
    ∃ g A c, e = .returned (.tuple #[.pointer (some ⟨g, 0, none⟩), .slice A 3 c, .bool true]) ∧ Hid (EditR w' g pairsA factE [0, 1, 1]) ∧ Below W.heap.size W w' :=
  (edited_gives (c := 3) (h.on (below_alloc _ _)) (lit3 W) (by simp) pairs_e fact_offers).mono fun e w' ⟨g, A, c, h1, h2, _, _, h3⟩ => ⟨g, A, c, h1, h2, (below_alloc _ _).trans (h3.mono (by simp))⟩
theorem fact_out {W : World} {g : Nat} (h : EditR W g pairsA factE [0, 1, 1]) : Calls Try.prog 11 #[.pointer (some ⟨g, 0, none⟩)] W fun e w' => ∃ A c, e = .returned (.slice A 2 c) ∧ Hid (IntsAt w' w'.heap.size A [0, 1]) ∧ Below W.heap.size W w' :=
  (rout_e h).mono fun _ _ ⟨A, c, h1, h2, _, h3⟩ => ⟨A, c, h1, h2, h3⟩
theorem fact_held {W : World} {g : Nat} (h : EditR W g pairsA factE [0, 1, 1]) : Calls Try.prog 14 #[.pointer (some ⟨g, 0, none⟩)] W fun e w' => ∃ A c, e = .returned (.slice A 1 c) ∧ Hid (IntsAt w' w'.heap.size A [1]) ∧ Below W.heap.size W w' :=
  (rheld_e h).mono fun _ _ ⟨A, c, h1, h2, _, h3⟩ => ⟨A, c, h1, h2, h3⟩
theorem fact_same2 {W : World} {A : Option Addr} {c : Nat} (h : IntsAt W W.heap.size A [0, 1]) : Calls Try.prog 15 #[.slice A 2 c, .slice (some ⟨W.heap.size, 0, none⟩) 2 2] (W.alloc (.cells #[.int .i64 0, .int .i64 1] 3)) fun e w' => e = .returned (.bool true) ∧ Below W.heap.size W w' :=
  (eints_same (l := [0, 1]) (ca := c) (cb := 2) (h.on (below_alloc _ _)) (lit2 W) (by simp)).mono fun _ _ ⟨h1, h2⟩ => ⟨h1, (below_alloc _ _).trans (h2.mono (by simp))⟩
theorem fact_same1 {W : World} {A : Option Addr} {c : Nat} (h : IntsAt W W.heap.size A [1]) : Calls Try.prog 15 #[.slice A 1 c, .slice (some ⟨W.heap.size, 0, none⟩) 1 1] (W.alloc (.cells #[.int .i64 1] 3)) fun e w' => e = .returned (.bool true) ∧ Below W.heap.size W w' :=
  (eints_same (l := [1]) (ca := c) (cb := 1) (h.on (below_alloc _ _)) (lit1 W) (by simp)).mono fun _ _ ⟨h1, h2⟩ => ⟨h1, (below_alloc _ _).trans (h2.mono (by simp))⟩
set_option maxRecDepth 100000 in
set_option maxHeartbeats 2000000 in
theorem editFact_any (w : World) : Calls Try.prog 8 #[] w fun e w' => e = .returned (.bool true) ∧ Below w.heap.size w w' := by
  have HP := Lib.hid (pairs4_any w)
  have HF := Lib.hid fact_edited
  go_enter Try.func8, Try.ntmps8
  go_wp2_with fail
  refine HP.out.mono ?_
  rintro e w1 he
  obtain ⟨x, rfl, hx⟩ := he.out
  have B := Lib.hid hx.below
  have HX := Lib.hid hx.at_
  clear he hx HP
  go_wp2_with fail
  refine (HF.out _ _ HX.out).mono ?_
  rintro e w2 ⟨g, A, c, rfl, HE, hb⟩
  have B := Lib.hid (B.out.trans (hb.mono B.out.size))
  have HO := Lib.hid (fact_out HE.out)
  clear hb HX HF
  go_wp2_with fail
  refine HO.out.mono ?_
  rintro e w3 ⟨A3, c3, rfl, HI, hb⟩
  have B := Lib.hid (B.out.trans (hb.mono B.out.size))
  have HE := Lib.hid (HE.out.on hb)
  have HS := Lib.hid (fact_same2 (c := c3) HI.out)
  clear hb HI HO
  go_wp2_with fail
  refine HS.out.mono ?_
  rintro e w4 ⟨rfl, hb⟩
  have B := Lib.hid (B.out.trans (hb.mono B.out.size))
  have HH := Lib.hid (fact_held (HE.out.on hb))
  clear hb HS HE
  go_wp2_with fail
  refine HH.out.mono ?_
  rintro e w5 ⟨A5, c5, rfl, HI, hb⟩
  have B := Lib.hid (B.out.trans (hb.mono B.out.size))
  have HS := Lib.hid (fact_same1 (c := c5) HI.out)
  clear hb HI HH
  go_wp2_with fail
  refine HS.out.mono ?_
  rintro e w6 ⟨rfl, hb⟩
  have B := Lib.hid (B.out.trans (hb.mono B.out.size))
  clear hb HS
  go_wp2
  go_ret
  exact ⟨rfl, B.out⟩
end Go.Proofs.Ytendgfbnkpbndaa.Ed
