/- The walks of package duel's leads, within and Ranks. -/
import Derived.Test.YtkphdegelhlpeaaDuelC
import Derived.Test.YtkphdegelhlpeaaIdxF
namespace Go.Proofs.Ytkphdegelhlpeaa.Du
open Go.RowKit Go.IntWalk Go.Proofs.Ytkphdegelhlpeaa.Wd Go.Proofs.Ytkphdegelhlpeaa.Wo Go.Proofs.Ytkphdegelhlpeaa.Df Go.Proofs.Ytkphdegelhlpeaa.Rc Go.Proofs.Ytkphdegelhlpeaa.Ix

set_option maxRecDepth 100000 in
theorem some_any {R : Option Addr} {n c g q : Nat} {f : Nat → Int} {w : World} (hg : w.cell? ⟨g, 0, none⟩ = some (.slice R n c)) (hR : IntsAt w w.heap.size R (fT n f)) (hq : q < n) :
    Calls Try.prog 20 #[.int .i64 (q : Nat), .pointer (some ⟨g, 0, none⟩)] w fun e w' => e = .returned (.bool (f q != -1)) ∧ Below w.heap.size w w' := by
  obtain ⟨ad, rfl, hadb, hcell, _⟩ := hR.get (fT_get f hq)
  have HR : Hid (∀ b, (f q != -1) = b → Ending.returned (Value.bool b) = Ending.returned (.bool (f q != -1))) := fun b h => by rw [h]
  have hq' : (q : Int) < (n : Int) := by omega
  clear hR
  generalize f q = y at *
  obtain ⟨b, hb⟩ : ∃ b, (y != -1) = b := ⟨_, rfl⟩
  have HE := Lib.hid (HR.out b hb)
  clear HR
  go_enter Try.func20, Try.ntmps20
  go_wp2
  go_ret
  exact ⟨by rw [← HE.out, ← hb]; rfl, Below.refl _ _⟩
theorem some_call (args : Array Value) (W : World) : (callFunc 20 args).run Try.prog W = .ok (.enter 20 args) W := by
  have hn : ¬ Try.f20.name = "runtime.NumGoroutine" := of_decide_eq_false (by kernel_rfl)
  have hb : ¬ Try.f20.body = none := fun h => by
    have : Try.f20.body.isSome = true := by kernel_rfl
    rw [h] at this; cases this
  simp [callFunc, go_sem, hn, hb]
set_option maxRecDepth 100000 in
theorem none_any {R : Option Addr} {n c g q : Nat} {f : Nat → Int} {w : World} (hg : w.cell? ⟨g, 0, none⟩ = some (.slice R n c)) (hR : IntsAt w w.heap.size R (fT n f)) (hq : q < n) :
    Calls Try.prog 21 #[.int .i64 (q : Nat), .pointer (some ⟨g, 0, none⟩)] w fun e w' => e = .returned (.bool (f q == -1)) ∧ Below w.heap.size w w' := by
  obtain ⟨ad, rfl, hadb, hcell, _⟩ := hR.get (fT_get f hq)
  have HR : Hid (∀ b, (f q == -1) = b → Ending.returned (Value.bool b) = Ending.returned (.bool (f q == -1))) := fun b h => by rw [h]
  have hq' : (q : Int) < (n : Int) := by omega
  clear hR
  generalize f q = y at *
  obtain ⟨b, hb⟩ : ∃ b, (y == -1) = b := ⟨_, rfl⟩
  have HE := Lib.hid (HR.out b hb)
  clear HR
  go_enter Try.func21, Try.ntmps21
  go_wp2
  go_ret
  exact ⟨by rw [← HE.out, ← hb]; rfl, Below.refl _ _⟩
theorem none_call (args : Array Value) (W : World) : (callFunc 21 args).run Try.prog W = .ok (.enter 21 args) W := by
  have hn : ¬ Try.f21.name = "runtime.NumGoroutine" := of_decide_eq_false (by kernel_rfl)
  have hb : ¬ Try.f21.body = none := fun h => by
    have : Try.f21.body.isSome = true := by kernel_rfl
    rw [h] at this; cases this
  simp [callFunc, go_sem, hn, hb]
set_option maxRecDepth 100000 in
set_option maxHeartbeats 1000000 in
theorem leads_any (o : Int) (Z : Option Addr) (cz : Nat) (r : List Int) (R : Option Addr) (cR n : Nat) (f : Nat → Int) (w : World) (hZ : IntsAt w w.heap.size Z r) (hr : r.length ≤ 40) (hR : IntsAt w w.heap.size R (fT n f)) (hgo : ∀ x ∈ r, 0 ≤ x ∧ x < (n : Int)) :
    Calls Try.prog 16 #[.int .i64 o, .slice Z r.length cz, .slice R n cR] w fun e w' => e = .returned (.bool (leadsB o r (fun x => f x.toNat))) ∧ Below w.heap.size w w' := by
  obtain ⟨w1, hw1⟩ : ∃ w1, w1 = w.alloc (.cells #[.slice R n cR] 22) := ⟨_, rfl⟩
  have hB1 : Below w.heap.size w w1 := by rw [hw1]; exact below_alloc _ _
  have hlt : w.heap.size < w1.heap.size := by rw [hw1]; simp
  have hc : w1.cell? ⟨w.heap.size, 0, none⟩ = some (.slice R n cR) := by rw [hw1]; exact box_cell w _ _ 0
  have hZ1 := hZ.on hB1
  have hR1 := hR.on hB1
  have HB := Lib.hid hB1
  have HW := Lib.hid hw1
  by_cases h0 : o = 0
  · have HR : Hid (leadsB o r (fun x => f x.toNat) = r.any (fun x => f x.toNat != -1)) := if_pos h0
    have h0' := int_eq h0
    have HC := Lib.hid (has1_any 20 some_call (.pointer (some ⟨w.heap.size, 0, none⟩)) Z cz r (fun x => f x.toNat != -1) w1 hZ1 (by omega) (fun x hx W hW => by
      obtain ⟨q, hq⟩ := Int.eq_ofNat_of_zero_le (hgo x hx).1
      have hqn := (hgo x hx).2
      subst hq
      exact some_any ((hW.cell hlt).trans hc) (hR1.on hW) (by omega)))
    clear hZ hR hZ1 hR1 hw1 hB1 hgo h0
    generalize r.any (fun x => f x.toNat != -1) = b at *
    generalize r.length = l at *
    go_enter Try.func16, Try.ntmps16
    go_wp2_with fail
    rw [← HW.out]
    refine HC.out.mono ?_
    rintro e w4 ⟨rfl, hb⟩
    have HB2 := Lib.hid (HB.out.trans (hb.mono HB.out.size))
    clear hb HC HW
    go_wp2
    go_ret
    exact ⟨by rw [HR.out]; rfl, HB2.out⟩
  · have HR : Hid (leadsB o r (fun x => f x.toNat) = !r.any (fun x => f x.toNat == -1)) := if_neg h0
    have h0' := int_ne h0
    have HC := Lib.hid (has1_any 21 none_call (.pointer (some ⟨w.heap.size, 0, none⟩)) Z cz r (fun x => f x.toNat == -1) w1 hZ1 (by omega) (fun x hx W hW => by
      obtain ⟨q, hq⟩ := Int.eq_ofNat_of_zero_le (hgo x hx).1
      have hqn := (hgo x hx).2
      subst hq
      exact none_any ((hW.cell hlt).trans hc) (hR1.on hW) (by omega)))
    clear hZ hR hZ1 hR1 hw1 hB1 hgo h0
    generalize r.any (fun x => f x.toNat == -1) = b at *
    generalize r.length = l at *
    go_enter Try.func16, Try.ntmps16
    go_wp2_with fail
    rw [← HW.out]
    refine HC.out.mono ?_
    rintro e w4 ⟨rfl, hb⟩
    have HB2 := Lib.hid (HB.out.trans (hb.mono HB.out.size))
    clear hb HC HW
    go_wp2
    go_ret
    exact ⟨by rw [HR.out]; rfl, HB2.out⟩

set_option maxRecDepth 100000 in
set_option maxHeartbeats 4000000 in
theorem within_any (v : Value) (a : Ar) (k : Nat) (R : Option Addr) (cR : Nat) (w : World) (h : ArAt w w.heap.size v a) (gd : Good a) (hR : IntsAt w w.heap.size R (fT a.next.length (rankTo a k))) :
    Calls Try.prog 13 #[v, .slice R a.next.length cR] w fun e w' => Hid (∃ wv, e = .returned wv ∧ Own w w' [] [eInts wv (upto a.next.length (fnd a k))]) := by
  obtain ⟨O, co, A, c, F, cf, rfl, h⟩ := h
  obtain ⟨w1, hw1, hB1, hX, ha1⟩ := box_ar w h
  have HB := Lib.hid hB1
  have HG := Lib.hid gd
  have h40 := gd.n40
  rw [gd.own, gd.goal]
  rw [gd.own, gd.goal] at hX hw1
  have HW := Lib.hid hw1
  have HA : Hid (∀ W, Below w1.heap.size w1 W → ArIs W W.heap.size O co A c F cf a ∧ BoxA W w.heap.size O a.next.length co A a.next.length c F a.next.length cf ∧ IntsAt W W.heap.size R (fT a.next.length (rankTo a k))) := fun W hW => ⟨ha1.on hW, hX.on hW, (hR.on hB1).on hW⟩
  have hc1 := hX.c1
  have HO : Hid (Own w1 w1 [eInts (.slice none 0 0) (upto 0 (fnd a k))] []) := (own_start w1).nil 3 1
  clear h hw1 hB1 ha1 hX gd hR
  generalize hn : a.next.length = n at *
  have HN := Lib.hid hn
  clear hn
  go_enter Try.func13, Try.ntmps13
  go_wp2_with fail
  rw [← HW.out]
  clear HW
  go_loopw [5, 11] (fun ov i wr => ∃ (p : Nat), p ≤ n ∧ i = .int .i64 p ∧ Hid (Own w1 wr [eInts ov (upto p (fnd a k))] [])) (fun _ i _ => n - (intOf i).toNat)
  case atStart => exact ⟨0, by omega, rfl, HO⟩
  case round =>
    clear HO
    obtain ⟨p, hp, rfl, HO⟩ := hrel
    by_cases hltp : p < n
    · have hpn : p < a.next.length := by rw [HN.out]; exact hltp
      obtain ⟨r, hr⟩ : ∃ r, a.next[p]? = some r := ⟨_, List.getElem?_eq_getElem hpn⟩
      have hrw : rowA a p = r := by unfold rowA; rw [hr]; rfl
      have hfit := HG.out.fit p hpn
      rw [hrw, HN.out] at hfit
      obtain ⟨hi, hb, hRr⟩ := HA.out _ HO.out.below
      have hc0 := hb.c0
      have hc1 := hb.c1
      obtain ⟨ad, A', c', rfl, hadb, hcell, hrc, hrc2, hz⟩ := hi.rows p r hr
      have hol : p < a.own.length := by rw [HG.out.own]; exact hpn
      obtain ⟨ado, rfl, hob, hoc, hs5, hs6⟩ := hi.owns.at_ p hol
      have hoo : ownA a p = a.own[p] := by unfold ownA; rw [List.getElem?_eq_getElem hol]; rfl
      rw [← hoo] at hoc
      have HLd := Lib.hid (leads_any (ownA a p) A' c' r R cR n (rankTo a k) wr hz hfit.r40 hRr hfit.go)
      have hfy : rankTo a k p = -1 → fnd a k p = leadsB (ownA a p) r (fun x => rankTo a k x.toNat) := fun q => by rw [fnd_yes HG.out hpn q, hrw]
      obtain ⟨adr, rfl, hrb, hrk, _⟩ := hRr.get (fT_get (rankTo a k) hltp)
      have hln : (upto p (fnd a k)).length < 17592186044416 := by have := upto_length p (fnd a k); omega
      have e1 : (p : Int) < (n : Int) := by omega
      by_cases hneg : rankTo a k p = -1
      · have hf := hfy hneg
        rw [← hf] at HLd
        have hneg' := int_eq hneg
        generalize ownA a p = o at *
        clear hi hb hRr hz hs5 hs6 hoo hf hfy hfit hrw hr hol hpn
        generalize rankTo a k p = x at *
        generalize r.length = rl at *
        rcases hfb : fnd a k p with _ | _
        · rw [hfb] at HLd
          have HU : Hid (upto (p + 1) (fnd a k) = upto p (fnd a k)) := upto_miss hfb
          clear hfb
          go_wp2_with fail
          refine HLd.out.mono ?_
          rintro e w4 ⟨rfl, hb⟩
          have HO2 := Lib.hid (HO.out.on hb)
          rw [← HU.out] at HO2
          clear hb HLd
          go_wp2
          go_roundw
          case rel => exact ⟨p + 1, by omega, by go_num, HO2⟩
          case measure => simp [intOf]; omega
        · rw [hfb] at HLd
          have HU : Hid (upto (p + 1) (fnd a k) = upto p (fnd a k) ++ [(p : Int)]) := upto_hit hfb
          clear hfb
          go_wp2_with fail
          refine HLd.out.mono ?_
          rintro e w4 ⟨rfl, hb⟩
          have HO2 := Lib.hid (HO.out.on hb)
          clear hb HLd HO
          go_wp2_with (at_builtin; refine own_int (by rfl) _ _ (by rfl) (by rfl) HO2.out (by rfl) hln ?_)
          intro g5 cap5 w5 ho5
          rw [← HU.out] at ho5
          have HO5 := Lib.hid ho5
          clear ho5 HO2
          go_wp2
          go_roundw
          case rel => exact ⟨p + 1, by omega, by go_num, HO5⟩
          case measure => simp [intOf]; omega
      · have HU : Hid (upto (p + 1) (fnd a k) = upto p (fnd a k)) := upto_miss (fnd_no hneg)
        have hneg' := int_ne hneg
        have HO2 := Lib.hid HO.out
        rw [← HU.out] at HO2
        clear hi hb hRr hz hs5 hs6 hoo hfy hfit hrw hr hol hpn HLd
        generalize rankTo a k p = x at *
        generalize r.length = rl at *
        go_wp2
        go_roundw
        case rel => exact ⟨p + 1, by omega, by go_num, HO2⟩
        case measure => simp [intOf]; omega
    · obtain rfl : p = n := by omega
      have HE := Lib.hid (HO.out.base HB.out).fin
      clear HO
      go_wp2
      go_ret
      exact ⟨_, rfl, HE.out⟩
end Go.Proofs.Ytkphdegelhlpeaa.Du
