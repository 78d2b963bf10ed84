/- The walk of package duel's Ranks. -/
import Derived.Test.YtkphdegelhlpeaaDuelR
namespace Go.Proofs.Ytkphdegelhlpeaa.Du
open Go.RowKit Go.IntWalk Go.Proofs.Ytkphdegelhlpeaa.Wd Go.Proofs.Ytkphdegelhlpeaa.Wo Go.Proofs.Ytkphdegelhlpeaa.Df Go.Proofs.Ytkphdegelhlpeaa.Rc

theorem rank_small (a : Ar) (n : Nat) (hn : n ≤ 40) (k : Nat) (hk : k ≤ n) : ∀ x ∈ fT n (rankTo a k), Small x := fun x hx => by
  unfold fT at hx
  obtain ⟨t, _, rfl⟩ := List.mem_map.1 hx
  have := rankTo_ge a k t
  have := rankTo_le a k t
  exact ⟨by omega, by omega⟩
theorem upto_small' {n : Nat} (h : n ≤ 40) (p : Nat → Bool) : ∀ x ∈ upto n p, Small x := fun x hx => by
  obtain ⟨s, h1, _, rfl⟩ := mem_upto.1 hx
  exact ⟨by omega, by omega⟩
theorem own_is {w0 w : World} {A : Option Addr} {n c : Nat} {l : List Int} {es fs : List Ent} (h : Own w0 w es fs) (hm : eInts (.slice A n c) l ∈ es ++ fs) (hs : ∀ x ∈ l, Small x) : IntsAt w w.heap.size A l := by
  obtain ⟨A', cap, hv, _, _, hi⟩ := own_ints_at h hm hs
  simp only [Value.slice.injEq] at hv
  rw [hv.1]; exact hi
theorem aagg (w : World) {O A F : Option Addr} {co c cf : Nat} {a : Ar} (g : Good a) (h : ArIs w w.heap.size O co A c F cf a) : ArAt w w.heap.size (.agg #[.slice O a.next.length co, .slice A a.next.length c, .slice F a.next.length cf]) a :=
  ⟨O, co, A, c, F, cf, by rw [g.own, g.goal], h⟩

set_option maxRecDepth 100000 in
set_option maxHeartbeats 4000000 in
theorem ranks_ok (v : Value) (a : Ar) (w : World) (h : ArAt w w.heap.size v a) (gd : Good a) :
    Calls Try.prog 9 #[v] w fun e w' => Hid (∃ g, e = .returned (.tuple #[rw_ g a.next.length, .nilIface]) ∧ Own w w' [] [eInts (rw_ g a.next.length) (fT a.next.length (rank a))]) := by
  have HV := h
  obtain ⟨O, co, A, c, F, cf, rfl, h⟩ := h
  obtain ⟨w1, hw1, hB1, hX, ha1⟩ := box_ar w h
  have HB := Lib.hid hB1
  have HG := Lib.hid gd
  have h40 := gd.n40
  have HC := acheck_any _ a w1 (HV.on hB1)
  rw [achk_iff.2 gd, gd.own, gd.goal] at HC
  have HC := Lib.hid HC
  rw [gd.own, gd.goal]
  rw [gd.own, gd.goal] at hX hw1
  have HW := Lib.hid hw1
  have HA : Hid (∀ W, Below w1.heap.size w1 W → ArIs W W.heap.size O co A c F cf a ∧ BoxA W w.heap.size O a.next.length co A a.next.length c F a.next.length cf) := fun W hW => ⟨ha1.on hW, hX.on hW⟩
  have hc0 := hX.c0
  have hc1 := hX.c1
  have hc2 := hX.c2
  have h0 := HG.out.n1
  have HAg : Hid (∀ W, Below w1.heap.size w1 W → ArAt W W.heap.size (.agg #[.slice O a.next.length co, .slice A a.next.length c, .slice F a.next.length cf]) a) := fun W hW => aagg W gd (ha1.on hW)
  clear h hw1 hB1 ha1 hX gd HV
  have HWi : Hid (∀ W k gr, Below w1.heap.size w1 W → k ≤ a.next.length → IntsAt W W.heap.size (some ⟨gr, 0, none⟩) (fT a.next.length (rankTo a k)) → Calls Try.prog 13 #[.agg #[.slice O a.next.length co, .slice A a.next.length c, .slice F a.next.length cf], rw_ gr a.next.length] W fun e w' => Hid (∃ wv, e = .returned wv ∧ Own W w' [] [eInts wv (upto a.next.length (fnd a k))])) :=
    fun W k gr hW _ hR => within_any _ a k _ _ W (HAg.out W hW) HG.out hR
  generalize hn : a.next.length = n at *
  have HN := Lib.hid hn
  clear hn HAg
  go_enter Try.func9, Try.ntmps9
  go_wp2_with fail
  rw [← HW.out]
  clear HW
  refine HC.out.mono ?_
  rintro e wc ⟨he, hbc⟩
  obtain rfl : e = .returned .nilIface := he.out
  have HB := Lib.hid (HB.out.trans (hbc.mono HB.out.size))
  have HA : Hid (∀ W, Below wc.heap.size wc W → ArIs W W.heap.size O co A c F cf a ∧ BoxA W w.heap.size O n co A n c F n cf) := fun W hW => HA.out W (hbc.trans (hW.mono hbc.size))
  have HWi : Hid (∀ W k gr, Below wc.heap.size wc W → k ≤ n → IntsAt W W.heap.size (some ⟨gr, 0, none⟩) (fT n (rankTo a k)) → Calls Try.prog 13 #[.agg #[.slice O n co, .slice A n c, .slice F n cf], rw_ gr n] W fun e w' => Hid (∃ wv, e = .returned wv ∧ Own W w' [] [eInts wv (upto n (fnd a k))])) := fun W k gr hW hk hR => HWi.out W k gr (hbc.trans (hW.mono hbc.size)) hk hR
  clear hc0 hc1 hc2 HC he hbc
  obtain ⟨_, hb⟩ := HA.out wc (Below.refl _ _)
  have hc2 := hb.c2
  have hlt := hb.lt
  clear hb
  go_wp2_with (at_make; refine mk_ints rfl _ _ rfl n rfl rfl (by omega) ?_)
  intro w2 ho
  have HO : Hid (Own wc w2 [eInts (rw_ wc.heap.size n) (fT n (mix (rankTo a 0) (fun _ => 0) 0))] []) := by rw [mix_zero, ← fT_rep]; exact Own.of_nums ho
  clear ho hc2
  obtain ⟨gr, hgr⟩ : ∃ g, g = wc.heap.size := ⟨_, rfl⟩
  have ho3 := HO.out
  clear HO
  rw [← hgr] at ho3 ⊢
  have HO := Lib.hid ho3
  have hgw : w.heap.size < gr := by omega
  clear ho3 hgr hlt
  obtain ⟨_, hb⟩ := HA.out w2 HO.out.below
  have hc2 := hb.c2
  clear hb
  go_wp2
  go_loopw [24] (fun i wr => ∃ (p : Nat), p ≤ n ∧ i = .int .i64 p ∧ Hid (Own wc wr [eInts (rw_ gr n) (fT n (mix (rankTo a 0) (fun _ => 0) p))] [])) (fun i _ => n - (intOf i).toNat)
  case atStart => exact ⟨0, by omega, rfl, HO⟩
  case round =>
    clear HO hc2
    obtain ⟨p, hp, rfl, HO⟩ := hrel
    by_cases hlt : p < n
    · obtain ⟨hi, hb⟩ := HA.out _ HO.out.below
      have hgl : a.goal[p]? = some (goalA a p) := by
        unfold goalA
        rw [List.getElem?_eq_getElem (by rw [HG.out.goal, HN.out]; exact hlt)]; rfl
      obtain ⟨adg, rfl, hgb, hgc, hgn⟩ := hi.goals.at_ hgl
      have e1 : (p : Int) < (n : Int) := by omega
      obtain ⟨k1, k2⟩ := own_ints_cell HO.out List.mem_cons_self (fT_length _ _) (fT_get _ hlt)
      have hz := rankTo_zero a p
      rcases hga : goalA a p with _ | _
      · have h1 := (own_ints_set HO.out (fT_length _ _) p (-1))
        rw [hga, if_neg (by decide)] at hz
        rw [mix_next _ _ _ _ hz] at h1
        rw [hga] at hgc
        have HE := Lib.hid h1
        clear HO h1 hz hi hb hgl hga hgn
        go_wp2
        go_roundw
        case rel => exact ⟨p + 1, by omega, by go_num, HE⟩
        case measure => simp [intOf]; omega
      · rw [hga, if_pos rfl] at hz
        rw [hga] at hgc
        have h1 := HO.out
        rw [mix_same n (rankTo a 0) (fun _ => 0) p hz] at h1
        have HE := Lib.hid h1
        clear HO h1 hz hi hb hgl hga hgn
        go_wp2
        go_roundw
        case rel => exact ⟨p + 1, by omega, by go_num, HE⟩
        case measure => simp [intOf]; omega
    · have HO1 : Hid (Own wc wr [eInts (rw_ gr n) (fT n (rankTo a 0))] []) := by
        have h1 := HO.out
        rw [show p = n by omega, mix_all] at h1
        exact h1
      clear HO
      go_wp2
      go_loopw [8] (fun i wr => ∃ (k k1 : Nat), Hid (k1 = k + 1) ∧ k1 ≤ n + 1 ∧ i = .int .i64 k1 ∧ Hid (Own wc wr [eInts (rw_ gr n) (fT n (rankTo a k))] [])) (fun i _ => n + 2 - (intOf i).toNat)
      case atStart => exact ⟨0, 1, rfl, by omega, rfl, HO1⟩
      case round =>
        clear HO1
        obtain ⟨k, k1, HK1, hk, rfl, HO⟩ := hrel
        obtain ⟨_, hb⟩ := HA.out _ HO.out.below
        have hc0 := hb.c0
        have hc1 := hb.c1
        have hc2 := hb.c2
        have hkn : k ≤ n := by have := HK1.out; omega
        have HC := Lib.hid (HWi.out wr k gr HO.out.below hkn (own_is HO.out List.mem_cons_self (rank_small a n h40 k hkn)))
        have hul := upto_length n (fnd a k)
        have HRd : Hid ((upto n (fnd a k)).length ≠ 0 → k + 2 ≤ n) := fun q => by
          have := round_lt HG.out (k := k)
          rw [HN.out] at this
          exact this q
        have HEn : Hid ((upto n (fnd a k)).length = 0 → fT n (rankTo a k) = fT n (rank a)) := fun q => by
          have := ranks_end HG.out (k := k)
          rw [HN.out] at this
          exact this q
        have HLn : Hid (∀ i, (upto n (fnd a k)).length ≤ i → fT n (lay (rankTo a k) (upto n (fnd a k)) ((k + 1 : Nat) : Int) i) = fT n (rankTo a (k + 1))) := fun i q => by
          have := lay_end (a := a) (k := k) (i := i)
          rw [HN.out] at this
          exact this q
        have HSm := Lib.hid (upto_small' h40 (fnd a k))
        have HMe : Hid (∀ x ∈ upto n (fnd a k), ∃ q : Nat, q < n ∧ x = (q : Int)) := fun x hx => by
          obtain ⟨s, h1, _, h3⟩ := mem_upto.1 hx
          exact ⟨s, h1, h3⟩
        rw [← HK1.out] at HLn
        clear hb hkn
        obtain ⟨l, hl⟩ : ∃ l, l = upto n (fnd a k) := ⟨_, rfl⟩
        rw [← hl] at HC hul HRd HEn HLn HSm HMe
        clear hl
        go_wp2_with fail
        refine HC.out.mono ?_
        rintro e w4 he
        obtain ⟨wv, rfl, ho⟩ := he.out
        obtain ⟨FA, cF, rfl, hfc, hfc2, _⟩ := own_ints_at ho (List.mem_append_right _ List.mem_cons_self) HSm.out
        have HO2 := Lib.hid (HO.out.join ho)
        clear he ho HC HO hc0 hc1 hc2
        by_cases hz : l.length = 0
        · have HE : Hid (Own w w4 [] [eInts (rw_ gr n) (fT n (rank a))]) := by
            have h1 := (HO2.out.base HB.out).fin.weak (fs' := [eInts (rw_ gr n) (fT n (rankTo a k))]) (fun e he => by simp at he; subst he; exact List.mem_cons_self)
            rw [HEn.out hz] at h1
            exact h1
          have hz' := int_eq (show (l.length : Int) = 0 by omega)
          clear HO2 HEn HLn HRd
          generalize l.length = ll at *
          go_wp2
          go_ret2
          exact ⟨gr, rfl, HE.out⟩
        · have hz' := int_ne (show (l.length : Int) ≠ 0 by omega)
          have hk2 := HRd.out hz
          have HO3 : Hid (Own wc w4 [eInts (rw_ gr n) (fT n (lay (rankTo a k) l (k1 : Int) 0))] [eInts (.slice FA l.length cF) l]) := by
            rw [lay_zero]; exact HO2.out
          obtain ⟨ll, hll⟩ : ∃ ll, l.length = ll := ⟨_, rfl⟩
          rw [hll] at HO3 HLn hul hz' hfc hz ⊢
          have HLl := Lib.hid hll
          have hk3 : k1 < n := by have := HK1.out; omega
          clear hll HO2 HEn HRd hk2
          go_wp2
          go_loopw [46] (fun i wr => ∃ (j : Nat), j ≤ ll ∧ i = .int .i64 j ∧ Hid (Own wc wr [eInts (rw_ gr n) (fT n (lay (rankTo a k) l (k1 : Int) j))] [eInts (.slice FA ll cF) l])) (fun i _ => ll - (intOf i).toNat)
          case atStart => exact ⟨0, by omega, rfl, HO3⟩
          case round =>
            clear HO3
            obtain ⟨j, hj, rfl, HO⟩ := hrel
            by_cases hlj : j < ll
            · have hlj' : j < l.length := by rw [HLl.out]; exact hlj
              obtain ⟨adf, rfl, hfb, hfcell, _⟩ := (own_is HO.out (List.mem_append_right _ List.mem_cons_self) HSm.out).get (List.getElem?_eq_getElem hlj')
              obtain ⟨q, hq, hqe⟩ := HMe.out _ (List.getElem_mem hlj')
              rw [hqe] at hfcell
              obtain ⟨k3, k4⟩ := own_ints_cell HO.out (List.mem_append_left _ List.mem_cons_self) (fT_length _ _) (fT_get _ hq)
              have h1 := own_ints_set HO.out (fT_length _ _) q (k1 : Int)
              rw [lay_set _ _ (by rw [List.getElem?_eq_getElem hlj', hqe])] at h1
              have HE := Lib.hid h1
              have e2 : (q : Int) < (n : Int) := by omega
              clear HO h1 hqe
              go_wp2
              go_roundw
              case rel => exact ⟨j + 1, by omega, by go_num, HE⟩
              case measure => simp [intOf]; omega
            · have HE : Hid (Own wc wr [eInts (rw_ gr n) (fT n (rankTo a (k + 1)))] []) := by
                have h1 := HO.out.weak (fs' := []) (fun e he => by simp at he)
                rw [HLn.out j (by omega), HK1.out] at h1
                exact h1
              clear HO
              go_wp2
              go_roundw
              case rel => exact ⟨k + 1, k1 + 1, by have := HK1.out; show k1 + 1 = k + 1 + 1; omega, by omega, by go_num, HE⟩
              case measure => simp [intOf]; omega

set_option maxRecDepth 100000 in
set_option maxHeartbeats 1000000 in
theorem ranks_bad (v : Value) (a : Ar) (w : World) (h : ArAt w w.heap.size v a) {x : Int} (hx : errV (achk a) = errI x) :
    Calls Try.prog 9 #[v] w fun e w' => e = .returned (.tuple #[.slice none 0 0, errI x]) ∧ Below w.heap.size w w' := by
  have HV := h
  obtain ⟨O, co, A, c, F, cf, rfl, h⟩ := h
  obtain ⟨w1, hw1, hB1, hX, ha1⟩ := box_ar w h
  have HB := Lib.hid hB1
  have HC := acheck_any _ a w1 (HV.on hB1)
  rw [hx] at HC
  have HC := Lib.hid HC
  have HW := Lib.hid hw1
  have hc0 := hX.c0
  have hc1 := hX.c1
  have hc2 := hX.c2
  clear h hw1 hB1 ha1 hX HV hx
  generalize a.next.length = n at *
  generalize a.own.length = no at *
  generalize a.goal.length = ng at *
  go_enter Try.func9, Try.ntmps9
  go_wp2_with fail
  rw [← HW.out]
  clear HW
  refine HC.out.mono ?_
  rintro e wc ⟨he, hbc⟩
  obtain rfl : e = .returned (errI x) := he.out
  have HB := Lib.hid (HB.out.trans (hbc.mono HB.out.size))
  clear hc0 hc1 hc2 HC he hbc
  go_wp2
  go_ret2
  exact ⟨rfl, HB.out⟩
end Go.Proofs.Ytkphdegelhlpeaa.Du
