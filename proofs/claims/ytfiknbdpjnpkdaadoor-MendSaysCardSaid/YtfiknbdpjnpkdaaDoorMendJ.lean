/- The walk of package mend's first: the first of the words that the cheapest ways make. -/
import Derived.Test.YtfiknbdpjnpkdaaDoorMendG
namespace Go.Proofs.YtfiknbdpjnpkdaaDoor.Me
open Go.RowKit Go.IntWalk Go.Proofs.YtfiknbdpjnpkdaaDoor.Wd Go.Proofs.YtfiknbdpjnpkdaaDoor.Wo Go.Proofs.YtfiknbdpjnpkdaaDoor.Df Go.Proofs.YtfiknbdpjnpkdaaDoor.Rc Go.Proofs.YtfiknbdpjnpkdaaDoor.Ne

theorem mkB_nil (d : Aut) (z : List Int) (j : Nat) : mkB d z [] j = if j = 0 then true else false := by
  rw [Bool.eq_iff_iff, mkB_iff]
  constructor
  · rintro (⟨_, rfl⟩ | ⟨p', a, e, _⟩)
    · rfl
    · simp at e
  · intro h
    by_cases e : j = 0
    · exact .inl ⟨rfl, e⟩
    · rw [if_neg e] at h; cases h
theorem bF_has {n : Nat} {f : Nat → Bool} : true ∈ bF n f ↔ ∃ j, j < n ∧ f j = true := by
  unfold bF
  rw [List.mem_map]
  exact ⟨fun ⟨j, hj, e⟩ => ⟨j, List.mem_range.1 hj, e⟩, fun ⟨j, hj, e⟩ => ⟨j, List.mem_range.2 hj, e⟩⟩
set_option linter.unusedSimpArgs false in
set_option maxRecDepth 100000 in
set_option maxHeartbeats 4000000 in
theorem mfirst_any (L s : Int) (A : Option Addr) (n c : Nat) (F : Option Addr) (nf cf : Nat) (Z : Option Addr) (m cz : Nat) (T : Option Addr) (ct : Nat) (d : Aut) (z : List Int) (x : Lb) (w : World) (gd : Df.Good d) (hn : d.next.length = n) (hm : z.length = m) (hz : m ≤ 80)
    (h : MenIs w w.heap.size L s A c F cf Z cz T ct d z) (hx : mendW d z = some x) (hl : x.2.length ≤ 80) :
    Calls Tryd.prog 28 #[menV L s A n c F nf cf Z m cz T ct] w fun e w' => Hid (∃ v', e = .returned v' ∧ Own w w' [eInts v' x.2] []) := by
  obtain ⟨w1, hw1, hB1, hX, hM⟩ := box_men (n := n) (nf := nf) (m := m) w h
  have h80 : z.length ≤ 80 := by omega
  have hcm := cst_mend gd h80 hx
  obtain ⟨hxw, _⟩ := mend_some hx
  have HG := Lib.hid gd
  have HN := Lib.hid hn
  have HMl := Lib.hid hm
  have HXw := Lib.hid hxw
  have HX := Lib.hid hX
  have HW := Lib.hid hw1
  have HB := Lib.hid hB1
  have HMen := Lib.hid hM
  have HFa := Lib.hid fun (k : Nat) (hk : k < x.2.length) (a : Nat) (ha : (a : Int) ≤ x.2[k]) => first_at gd h80 hx hk ha
  have HLet := Lib.hid fun (W : World) (hW : MenIs W W.heap.size L s A c F cf Z cz T ct d z) => letters_any L s A n c F nf cf Z m cz T ct d z W gd hn hm hW
  have hlen : cst d d.s.toNat z % 1000 = x.2.length := by rw [hcm]; omega
  rw [hlen] at HLet
  have HRem := Lib.hid fun (p : List Int) (gp q : Nat) (W : World) (es fs : List Ent) hp hq hO => remove_any L s A n c F nf cf Z m cz T ct d z p gp q w1 W es fs gd hn hm hz hM hp hq hO
  have HBeh := Lib.hid fun (p : List Int) (P : Option Addr) (cp q a : Nat) (W : World) hW hp hq ha hP => mbehind_any L s A n c F nf cf Z m cz T ct d z p P cp q a W gd hn hm hz hW hp hq ha hP
  have hs := gd.s_eq
  rw [h.dfa.es] at hs
  have hs0 : d.s = s := h.dfa.es
  obtain ⟨q0, hq0⟩ : ∃ q, d.s.toNat = q := ⟨_, rfl⟩
  have hsq : s = (q0 : Int) := by rw [← hq0, hs0]; exact hs.symm
  have HQ0 := Lib.hid hq0
  clear hlen hcm hxw hw1 hB1 hX hM h gd hn hm hx hs hs0 hq0 h80
  subst hsq
  obtain ⟨len, hlen⟩ : ∃ len, x.2.length = len := ⟨_, rfl⟩
  rw [hlen] at HLet hl
  have HLen := Lib.hid hlen
  clear hlen
  go_enter Tryd.func28, Tryd.ntmps28
  go_wp2_with (at_make; rw [← HW.out]; refine mk_bools rfl _ _ rfl (m + 1) rfl rfl (by omega) ?_)
  intro w2 ho
  obtain ⟨g0, hg0⟩ : ∃ g, w1.heap.size = g := ⟨_, rfl⟩
  rw [hg0] at ho ⊢
  obtain ⟨k1, k2⟩ := own_bools_cell ho (List.mem_append_left _ List.mem_cons_self) (by simp) (j := 0) (x := false) (by simp)
  have hst := own_bools_set ho (by simp) 0 true
  rw [← bF_false, bF_upd (m + 1) _ (mkB d z []) 0 (fun j _ => mkB_nil d z j)] at hst
  have hst2 := hst.nil 3 1
  obtain ⟨w3, hw3⟩ : ∃ w3, w3 = w2.setCell ⟨g0, 0, none⟩ (.bool true) := ⟨_, rfl⟩
  rw [← hw3] at hst2
  have HW3 := Lib.hid hw3
  have hX3 := HX.out.on hst2.below
  have HMen3 := Lib.hid (HMen.out.on hst2.below)
  have HO3 : Hid (Own w1 w3 [eInts (.slice none 0 0) (x.2.take 0), eBools (wv g0 (m + 1)) (bF (m + 1) (mkB d z (x.2.take 0)))] []) := by rw [List.take_zero]; exact hst2
  have e1 : (0 : Int) < (m : Int) + 1 := by omega
  rw [hw3] at hX3
  have hne1 : w.heap.size < g0 := by rw [← hg0]; exact HX.out.lt
  have hne2 : w.heap.size ≠ g0 := by omega
  have hne3 : g0 ≠ w.heap.size := by omega
  clear ho hst hst2 hw3 hg0 HW
  have hc0 := hX3.c0
  have hc1 := hX3.c1
  have hc2 := hX3.c2
  have hc3 := hX3.c3
  have hc4 := hX3.c4
  have hc5 := hX3.c5
  go_wp2_with fail
  rw [← HW3.out]
  refine (HLet.out _ HMen3.out).mono ?_
  rintro e w4 ⟨he, hb4⟩
  obtain rfl : e = .returned (.int .i64 (len : Int)) := he.out
  have HO4 : Hid (∃ gp, Own w1 w4 [eInts (.slice none 0 0) (x.2.take 0), eBools (wv gp (m + 1)) (bF (m + 1) (mkB d z (x.2.take 0)))] [] ∧ gp = g0) := ⟨g0, HO3.out.on hb4, rfl⟩
  clear he hb4 HLet HMen3 HO3 HW3 hc0 hc1 hc2 hc3 hc4 hc5 k1 k2 hne1 hne2 hne3 hX3
  go_wp2
  go_loopw [3, 4, 5, 21] (fun mv sv pv iv wr => ∃ (k : Nat) (A2 : Option Addr) (c2 gp q : Nat), k ≤ len ∧ mv = .slice A2 k c2 ∧ sv = .int .i64 (q : Int) ∧ pv = wv gp (m + 1) ∧ iv = .int .i64 (k : Int) ∧ Hid (runA d d.s.toNat (x.2.take k) = q) ∧ Hid (Own w1 wr [eInts (.slice A2 k c2) (x.2.take k), eBools (wv gp (m + 1)) (bF (m + 1) (mkB d z (x.2.take k)))] [])) (fun _ _ _ iv _ => len - (intOf iv).toNat)
  case atStart =>
    obtain ⟨gp, h1, rfl⟩ := HO4.out
    exact ⟨0, none, 0, gp, q0, by omega, rfl, rfl, rfl, rfl, HQ0.out, h1⟩
  case round =>
    clear HO4
    obtain ⟨k, A2, c2, gp, q, hk, rfl, rfl, rfl, rfl, HQ, HO⟩ := hrel
    by_cases hlt : k < len
    · have e1 : (k : Int) < (len : Int) := by omega
      have hk2 : k < x.2.length := by rw [HLen.out]; exact hlt
      have hpw : Word d.L (x.2.take k) := fun y hy => HXw.out y (List.mem_of_mem_take hy)
      have hqn : q < n := by rw [← HQ.out, ← HN.out]; exact HG.out.run_lt hpw HG.out.s_lt
      have HPw := Lib.hid hpw
      have hX := HX.out.on HO.out.below
      have hc0 := hX.c0
      have hc1 := hX.c1
      have hc2 := hX.c2
      have hc3 := hX.c3
      have hc4 := hX.c4
      have hc5 := hX.c5
      have HO' := Lib.hid HO.out.two
      have hat : 0 ≤ x.2[k] ∧ x.2[k] < d.L := HXw.out _ (List.getElem_mem hk2)
      have HFk := Lib.hid fun a ha => HFa.out k hk2 a ha
      have HTk : Hid (x.2.take (k + 1) = x.2.take k ++ [x.2[k]]) := (List.take_append_getElem hk2).symm
      have hrun : runA d d.s.toNat (x.2.take (k + 1)) = Df.step d q x.2[k].toNat := by rw [runA_take_succ d _ _ hk2, HQ.out]
      have hpl : (x.2.take k).length = k := by rw [List.length_take]; omega
      obtain ⟨b, hb⟩ : ∃ b : Nat, x.2[k] = (b : Int) := Int.eq_ofNat_of_zero_le hat.1
      rw [hb] at HTk HFk
      rw [hb, Int.toNat_natCast] at hrun
      have hbL : (b : Int) < d.L := by rw [← hb]; exact hat.2
      have HRun := Lib.hid hrun
      have HBL := Lib.hid hbL
      clear hpw hX HO hrun hat hb
      go_wp2_with fail
      refine (HRem.out (x.2.take k) gp q _ _ _ HPw.out HQ.out HO'.out).mono ?_
      rintro e w5 he
      obtain ⟨rfl, ho5⟩ := he.out
      have HO5 : Hid (Own w1 w5 [eInts (.slice A2 k c2) (x.2.take k), eBools (wv gp (m + 1)) (bF (m + 1) (onB d z (x.2.take k)))] []) := ho5.two
      have hX := HX.out.on ho5.below
      have hlt' : q < d.next.length := by rw [HN.out]; exact hqn
      obtain ⟨ada, Ar, cr, hada, hrb, hrc, hrl, hrl2, hri⟩ := HMen.out.dfa.rows q _ (List.getElem?_eq_getElem hlt')
      subst hada
      have hrc := (ho5.below.cell (p := ada.add q) (by rw [Wd.block_add]; exact hrb)).trans hrc
      have hll : ((d.next[q]).length : Int) = d.L := HG.out.row _ (List.getElem_mem hlt')
      have HAt : Hid (∀ a : Nat, (a : Int) < d.L → (d.next[q])[a]? = some ((Df.step d q a : Nat) : Int) ∧ Df.step d q a < n) := fun a ha => by
        obtain ⟨r, h1, _, _, h2, h3⟩ := HG.out.at_ hlt' ha
        rw [List.getElem?_eq_getElem hlt'] at h1
        obtain rfl := Option.some.inj h1
        rw [HN.out] at h3
        exact ⟨h2, h3⟩
      have HI := Lib.hid hri
      generalize d.next[q] = r at *
      obtain ⟨l, hl2⟩ : ∃ l, r.length = l := ⟨_, rfl⟩
      have HLl : Hid ((l : Int) = d.L) := by rw [← hl2]; exact hll
      have hl6 : l ≤ 6 := by have h1 := HLl.out; have h2 := HG.out.l6; omega
      have hbl : b < l := by have h1 := HLl.out; have h2 := HBL.out; omega
      rw [hl2] at hrc hrl
      have hqn2 : (q : Int) < (n : Int) := by omega
      clear hri hll hl2 hlt' he ho5 HO' hc0 hc1 hc2 hc3 hc4 hc5
      have hc2 := hX.c2
      clear hX
      go_wp2
      clear hc2 hrc
      go_loopw [3, 4, 5, 34] (fun mv sv pv iv w6 => ∃ a : Nat, a ≤ b ∧ mv = .slice A2 k c2 ∧ sv = .int .i64 (q : Int) ∧ pv = wv gp (m + 1) ∧ iv = .int .i64 (a : Int) ∧ Hid (Own w1 w6 [eInts (.slice A2 k c2) (x.2.take k), eBools (wv gp (m + 1)) (bF (m + 1) (onB d z (x.2.take k)))] [])) (fun _ _ _ iv _ => l - (intOf iv).toNat)
      case atStart => exact ⟨0, by omega, rfl, rfl, rfl, rfl, HO5⟩
      case round =>
        clear HO5
        obtain ⟨a, hab, rfl, rfl, rfl, rfl, HO6⟩ := hrel
        have hal : a < l := by omega
        have e2 : (a : Int) < (l : Int) := by omega
        have haL : (a : Int) < d.L := by have := HLl.out; omega
        obtain ⟨ha1, ha2⟩ := HAt.out a haL
        obtain ⟨adr, rfl, _, hrcell, hrlt⟩ := (HI.out.on HO6.out.below).get ha1
        have hX := HX.out.on HO6.out.below
        have hc0 := hX.c0
        have hc1 := hX.c1
        have hc2 := hX.c2
        have hc3 := hX.c3
        have hc4 := hX.c4
        have hc5 := hX.c5
        obtain ⟨Ap, cp, hpv, _, _, hPb⟩ := own_bools HO6.out (fv := wv gp (m + 1)) (bs := bF (m + 1) (onB d z (x.2.take k))) (by simp)
        obtain rfl : some ⟨gp, 0, none⟩ = Ap := by simp only [Value.slice.injEq] at hpv; exact hpv.1
        have HBe := Lib.hid (HBeh.out (x.2.take k) (some ⟨gp, 0, none⟩) (m + 1) q a _ (HMen.out.on HO6.out.below) HPw.out HQ.out haL hPb)
        obtain ⟨t, ht⟩ : ∃ t, Df.step d q a = t := ⟨_, rfl⟩
        have HT := Lib.hid ht
        rw [ht] at hrcell
        clear ha1 ha2 hrlt hX hpv hPb ht
        go_wp2_with fail
        refine HBe.out.mono ?_
        rintro e w7 he
        obtain ⟨g3, rfl, ho7⟩ := he.out
        have hj : Own w1 w7 (eBools (wv g3 (m + 1)) (bF (m + 1) (mkB d z (x.2.take k ++ [(a : Int)]))) :: eInts (.slice A2 k c2) (x.2.take k) :: eBools (wv gp (m + 1)) (bF (m + 1) (onB d z (x.2.take k))) :: []) [] := HO6.out.join ho7
        obtain ⟨A3, c3, hpv, _, _, hPb⟩ := own_bools hj (fv := wv g3 (m + 1)) (bs := bF (m + 1) (mkB d z (x.2.take k ++ [(a : Int)]))) (by simp)
        obtain rfl : some ⟨g3, 0, none⟩ = A3 := by simp only [Value.slice.injEq] at hpv; exact hpv.1
        have hfk := HFk.out a (by omega)
        have hhas : decide (true ∈ bF (m + 1) (mkB d z (x.2.take k ++ [(a : Int)]))) = decide (a = b) := by
          refine decide_eq_decide.2 ?_
          rw [bF_has]
          constructor
          · rintro ⟨j, hj, hm⟩
            have := hfk.1 ⟨j, by rw [HMl.out]; omega, mkB_iff.1 hm⟩
            omega
          · intro e
            obtain ⟨j, hj, hm⟩ := hfk.2 (by omega)
            exact ⟨j, by rw [HMl.out] at hj; omega, mkB_iff.2 hm⟩
        have HCt := Lib.hid (bhas_any (some ⟨g3, 0, none⟩) (m + 1) (m + 1) _ w7 (bF_length _ _) hPb (by omega) hhas)
        have HJ := Lib.hid hj
        clear he ho7 hj hpv hPb hfk hhas HBe hc0 hc1 hc2 hc3 hc4 hc5 HO6 hrcell
        by_cases hab2 : a = b
        · have HCt2 : Hid (Calls Tryd.prog 42 #[.slice (some ⟨g3, 0, none⟩) (m + 1) (m + 1), .bool true] w7 fun e w' => e = .returned (.bool true) ∧ w' = w7) := by rw [decide_eq_true hab2] at HCt; exact HCt
          have HOa := Lib.hid HJ.out.two
          have hln : (x.2.take k).length < 17592186044416 := by rw [List.length_take]; omega
          have HTk2 : Hid (x.2.take (k + 1) = x.2.take k ++ [(a : Int)]) := by rw [hab2]; exact HTk.out
          have HRn2 : Hid (runA d d.s.toNat (x.2.take (k + 1)) = t) := by rw [← HT.out, hab2]; exact HRun.out
          clear HCt HJ hab2
          go_wp2_with fail
          refine HCt2.out.mono ?_
          rintro e w8 ⟨rfl, rfl⟩
          clear HCt2
          go_wp2_with (at_builtin; refine own_int (by rfl) _ _ (by rfl) (by rfl) HOa.out (by rfl) hln ?_)
          intro g9 cap9 w9 ho9
          have HO9 : Hid (Own w1 w9 [eInts (.slice (some ⟨g9, 0, none⟩) (k + 1) cap9) (x.2.take (k + 1)), eBools (wv g3 (m + 1)) (bF (m + 1) (mkB d z (x.2.take (k + 1))))] []) := by
            unfold Hid
            rw [HTk2.out]; exact ho9.three.tail
          clear ho9 HOa hln
          go_wp2
          go_roundw
          case rel => exact ⟨k + 1, some ⟨g9, 0, none⟩, cap9, g3, t, by omega, rfl, rfl, rfl, by go_num, HRn2.out, HO9.out⟩
          case measure => simp [intOf]; omega
        · have HCt2 : Hid (Calls Tryd.prog 42 #[.slice (some ⟨g3, 0, none⟩) (m + 1) (m + 1), .bool true] w7 fun e w' => e = .returned (.bool false) ∧ w' = w7) := by rw [decide_eq_false hab2] at HCt; exact HCt
          have HO9 := Lib.hid HJ.out.tail
          have hab3 : a + 1 ≤ b := by omega
          clear HCt HJ hab2
          go_wp2_with fail
          refine HCt2.out.mono ?_
          rintro e w8 ⟨rfl, rfl⟩
          clear HCt2
          go_wp2
          go_roundw
          case rel => exact ⟨a + 1, by omega, rfl, rfl, rfl, by go_num, HO9.out⟩
          case measure => simp [intOf]; omega
    · obtain rfl : k = len := by omega
      have e1 : ¬ (k : Int) < (k : Int) := by omega
      have HE : Hid (Own w wr [eInts (.slice A2 k c2) x.2] []) := by
        have h := (HO.out.base HB.out).two.tail
        rwa [List.take_of_length_le (by rw [HLen.out]; omega)] at h
      clear HO
      go_wp2
      go_ret
      exact ⟨_, rfl, HE.out⟩
end Go.Proofs.YtfiknbdpjnpkdaaDoor.Me
