/- The walks of package duel's checkRow and Check. -/
import Derived.Test.YtkphdegelhlpeaaDoorDuelA
namespace Go.Proofs.YtkphdegelhlpeaaDoor.Du
open Go.RowKit Go.IntWalk Go.Proofs.YtkphdegelhlpeaaDoor.Wd Go.Proofs.YtkphdegelhlpeaaDoor.Wo Go.Proofs.YtkphdegelhlpeaaDoor.Df Go.Proofs.YtkphdegelhlpeaaDoor.Rc

/-- What is wrong with a row. -/
def rowErr (n : Nat) (r : List Int) : Nat := if r.length = 0 then 3 else if 40 < r.length then 4 else if r.all (fun x => decide (0 ≤ x) && decide (x < n)) = true then 0 else 1
theorem rowErr_chk {n : Nat} {o : Int} {r : List Int} (h : o = 0 ∨ o = 1) : rowChk n o r = rowErr n r := by
  unfold rowChk
  rw [if_neg (by omega)]; rfl
theorem rowErr_out {n : Nat} {r : List Int} (hr : r.length ≠ 0) (h4 : ¬ 40 < r.length) {x : Int} (hx : x ∈ r) (hb : ¬ (0 ≤ x ∧ x < n)) : rowErr n r = 1 := by
  unfold rowErr
  rw [if_neg hr, if_neg h4, if_neg]
  intro q
  have := List.all_eq_true.1 q x hx
  simp at this
  omega
theorem rowErr_well {n : Nat} {r : List Int} (hr : r.length ≠ 0) (h4 : ¬ 40 < r.length) (hx : ∀ x ∈ r, 0 ≤ x ∧ x < n) : rowErr n r = 0 := by
  unfold rowErr
  rw [if_neg hr, if_neg h4, if_pos]
  exact List.all_eq_true.2 fun x q => by have := hx x q; simp; omega
set_option maxRecDepth 100000 in
set_option maxHeartbeats 1000000 in
theorem crow_any (A : Option Addr) (c n : Nat) (r : List Int) (w : World) (hA : IntsAt w w.heap.size A r) (hl : r.length ≤ 9223372036854775807) :
    Calls Tryd.prog 14 #[.slice A r.length c, .int .i64 (n : Nat)] w fun e w' => Hid (e = .returned (errV (rowErr n r))) ∧ w' = w := by
  by_cases e1 : r.length = 0
  · have HR : Hid (rowErr n r = 3) := by unfold rowErr; rw [if_pos e1]; exact rfl
    have hq := int_eq (show (r.length : Int) = 0 by omega)
    clear hA e1
    generalize r.length = l at *
    go_enter Tryd.func14, Tryd.ntmps14
    go_wp2
    go_ret
    exact ⟨by rw [HR.out]; rfl, rfl⟩
  have hq := int_ne (show (r.length : Int) ≠ 0 by omega)
  by_cases e2 : 40 < r.length
  · have HR : Hid (rowErr n r = 4) := by unfold rowErr; rw [if_neg e1, if_pos e2]; exact rfl
    clear hA e1
    generalize r.length = l at *
    go_enter Tryd.func14, Tryd.ntmps14
    go_wp2
    go_ret
    exact ⟨by rw [HR.out]; rfl, rfl⟩
  have HZ := Lib.hid hA
  have HOut : Hid (∀ x ∈ r, ¬ (0 ≤ x ∧ x < n) → rowErr n r = 1) := fun x hx hb => rowErr_out e1 e2 hx hb
  have HWell : Hid ((∀ x ∈ r, 0 ≤ x ∧ x < n) → rowErr n r = 0) := fun q => rowErr_well e1 e2 q
  have HY : Hid (∀ x ∈ r.take 0, 0 ≤ x ∧ x < (n : Int)) := by simp [Hid]
  clear hA e1
  go_enter Tryd.func14, Tryd.ntmps14
  go_wp2
  go_loop [17] (fun i => ∃ (l : Nat), l ≤ r.length ∧ i = .int .i64 l ∧ Hid (∀ x ∈ r.take l, 0 ≤ x ∧ x < (n : Int))) (fun i => r.length - (intOf i).toNat)
  case atStart => exact ⟨0, by omega, rfl, HY⟩
  case round =>
    clear HY
    obtain ⟨l, hl, rfl, HV⟩ := hrel
    by_cases hlj : l < r.length
    · obtain ⟨ad2, rfl, hadb2, hcell2, hs1, hs2⟩ := HZ.out.at_ l hlj
      by_cases h0 : r[l] < 0
      · have HR := Lib.hid (HOut.out _ (List.getElem_mem hlj) (by omega))
        generalize r[l] = x at *
        go_wp2
        go_ret
        exact ⟨by rw [HR.out]; rfl, rfl⟩
      · by_cases h1 : r[l] < (n : Int)
        · have HV1 := Lib.hid (all_take_succ HV.out hlj ⟨by omega, h1⟩)
          have h1' : ¬ r[l] ≥ (n : Int) := by omega
          generalize r[l] = x at *
          go_wp2
          go_round
          case rel => exact ⟨l + 1, by omega, by go_num, HV1⟩
          case measure => simp [intOf]; omega
        · have HR := Lib.hid (HOut.out _ (List.getElem_mem hlj) (by omega))
          have h1' : r[l] ≥ (n : Int) := by omega
          generalize r[l] = x at *
          go_wp2
          go_ret
          exact ⟨by rw [HR.out]; rfl, rfl⟩
    · have HR := Lib.hid (HWell.out (all_take_end HV.out (by omega)))
      go_wp2
      go_ret
      exact ⟨by rw [HR.out]; rfl, rfl⟩

set_option maxRecDepth 100000 in
set_option maxHeartbeats 2000000 in
theorem acheck_any (v : Value) (a : Ar) (w : World) (h : ArAt w w.heap.size v a) :
    Calls Tryd.prog 6 #[v] w fun e w' => Hid (e = .returned (errV (achk a))) ∧ Below w.heap.size w w' := by
  obtain ⟨O, co, A, c, F, cf, rfl, h⟩ := h
  obtain ⟨w1, hw1, hB1, hX, ha1⟩ := box_ar w h
  have HB := Lib.hid hB1
  have HW := Lib.hid hw1
  have hln : a.next.length ≤ 9223372036854775807 := Nat.le_trans h.hc h.hc2
  have hlo : a.own.length ≤ 9223372036854775807 := Nat.le_trans h.ho h.ho2
  have hlg : a.goal.length ≤ 9223372036854775807 := Nat.le_trans h.hf h.hf2
  have hc0 := hX.c0
  have hc1 := hX.c1
  have hc2 := hX.c2
  by_cases g1 : a.next.length = 0
  · have HR : Hid (achk a = 3) := by unfold achk; rw [if_pos (.inl g1)]; exact rfl
    have h1 := int_eq (show (a.next.length : Int) = 0 by omega)
    clear h ha1 hX hB1 g1
    generalize a.next.length = n at *
    generalize a.own.length = no at *
    generalize a.goal.length = nf at *
    go_enter Tryd.func6, Tryd.ntmps6
    go_wp2
    go_ret
    exact ⟨by rw [HR.out]; rfl, by rw [← HW.out]; exact HB.out⟩
  have h1 := int_ne (show (a.next.length : Int) ≠ 0 by omega)
  by_cases g2 : a.own.length = a.next.length
  case neg =>
    have HR : Hid (achk a = 3) := by unfold achk; rw [if_pos (.inr (.inl g2))]; exact rfl
    have h2 := int_ne' (show (a.own.length : Int) ≠ (a.next.length : Int) by omega)
    clear h ha1 hX hB1 g1 g2
    generalize a.next.length = n at *
    generalize a.own.length = no at *
    generalize a.goal.length = nf at *
    go_enter Tryd.func6, Tryd.ntmps6
    go_wp2
    go_ret
    exact ⟨by rw [HR.out]; rfl, by rw [← HW.out]; exact HB.out⟩
  have h2 := int_eq' (show (a.own.length : Int) = (a.next.length : Int) by omega)
  by_cases g3 : a.goal.length = a.next.length
  case neg =>
    have HR : Hid (achk a = 3) := by unfold achk; rw [if_pos (.inr (.inr g3))]; exact rfl
    have h3 := int_ne' (show (a.goal.length : Int) ≠ (a.next.length : Int) by omega)
    clear h ha1 hX hB1 g1 g2 g3
    generalize a.next.length = n at *
    generalize a.own.length = no at *
    generalize a.goal.length = nf at *
    go_enter Tryd.func6, Tryd.ntmps6
    go_wp2
    go_ret
    exact ⟨by rw [HR.out]; rfl, by rw [← HW.out]; exact HB.out⟩
  have h3 := int_eq' (show (a.goal.length : Int) = (a.next.length : Int) by omega)
  by_cases g4 : 40 < a.next.length
  · have HR : Hid (achk a = 4) := by unfold achk; rw [if_neg (by omega), if_pos g4]; exact rfl
    clear h ha1 hX hB1 g1 g2 g3
    generalize a.next.length = n at *
    generalize a.own.length = no at *
    generalize a.goal.length = nf at *
    go_enter Tryd.func6, Tryd.ntmps6
    go_wp2
    go_ret
    exact ⟨by rw [HR.out]; rfl, by rw [← HW.out]; exact HB.out⟩
  have HBad : Hid (∀ k e, k < a.next.length → toChk a k = 0 → rowChk a.next.length (ownA a k) (rowA a k) = e → e ≠ 0 → achk a = e) := fun k e hk h0 he hz => achk_bad g1 g2 g3 (by omega) hk h0 he hz
  have HEnd : Hid (toChk a a.next.length = 0 → achk a = 0) := fun q => by rw [achk_at g1 g2 g3 (by omega), q]
  have HOw := Lib.hid ha1.owns
  have HN := Lib.hid ha1.rows
  have HY : Hid (toChk a 0 = 0) := rfl
  have HLo := Lib.hid g2
  rw [g2, g3]
  rw [g2, g3] at hX
  rw [g2] at h2
  rw [g3] at h3
  have hw2 := HW.out
  rw [g2, g3] at hw2
  have HW := Lib.hid hw2
  have HX := Lib.hid hX
  have hc0 := hX.c0
  have hc1 := hX.c1
  have hc2 := hX.c2
  clear h hB1 ha1 g1 g2 g3 hX hlo hlg hw2 hw1
  generalize hnn : a.next.length = n at *
  have HLen := Lib.hid hnn
  clear hnn
  go_enter Tryd.func6, Tryd.ntmps6
  go_wp2_with fail
  rw [← HW.out]
  clear HW
  go_loop [33] (fun i => ∃ (k : Nat), k ≤ n ∧ i = .int .i64 k ∧ Hid (toChk a k = 0)) (fun i => n - (intOf i).toNat)
  case atStart => exact ⟨0, by omega, rfl, HY⟩
  case round =>
    clear HY
    obtain ⟨k, hk, rfl, HU⟩ := hrel
    by_cases hlt : k < n
    · have hlt' : k < a.next.length := by rw [HLen.out]; exact hlt
      have hlo' : k < a.own.length := by rw [HLo.out]; omega
      obtain ⟨ado, rfl, hob, hocell, ho1, ho2⟩ := HOw.out.at_ k hlo'
      have ho : ownA a k = a.own[k] := by unfold ownA; rw [List.getElem?_eq_getElem hlo']; rfl
      have hr : rowA a k = a.next[k] := by unfold rowA; rw [List.getElem?_eq_getElem hlt']; rfl
      have HBk := Lib.hid (HBad.out k)
      rw [ho, hr] at HBk
      have HBk := Lib.hid (fun e => HBk.out e hlt HU.out)
      have HNx : Hid (rowChk n a.own[k] a.next[k] = 0 → toChk a (k + 1) = 0) := fun q => by rw [toChk_next HU.out, ho, hr, HLen.out]; exact q
      obtain ⟨ad, A', c', rfl, hadb, hcell, hrc, hrc2, hz⟩ := HN.out k _ (List.getElem?_eq_getElem hlt')
      have HCr := Lib.hid (crow_any A' c' n a.next[k] w1 hz (Nat.le_trans hrc hrc2))
      clear hz ho hr
      generalize a.own[k] = o at *
      generalize a.next[k] = r at *
      have hc0 := HX.out.c0
      have hc1 := HX.out.c1
      have e1 : (k : Int) < (n : Int) := by omega
      by_cases o0 : o = 0
      · have HCe : rowChk n o r = rowErr n r := rowErr_chk (.inl o0)
        have o0' := int_eq' o0
        clear o0
        rw [HCe] at HNx HBk
        clear HCe
        rcases hE : rowErr n r with _ | e0
        · rw [hE] at HCr HNx
          have HN2 := Lib.hid (HNx.out rfl)
          clear hE HNx HBk
          generalize r.length = rl at *
          go_wp2_with fail
          refine HCr.out.mono ?_
          rintro e w4 ⟨he, rfl⟩
          obtain rfl : e = .returned .nilIface := he.out
          clear he HCr
          go_wp2
          go_round
          case rel => exact ⟨k + 1, by omega, by go_num, HN2⟩
          case measure => simp [intOf]; omega
        · rw [hE] at HCr
          have HR := Lib.hid (HBk.out (e0 + 1) hE (by omega))
          clear hE HNx HBk
          generalize r.length = rl at *
          have HC2 : Hid (∃ E, errV (e0 + 1) = errI E) := ⟨_, rfl⟩
          obtain ⟨E, hE⟩ := HC2.out
          rw [hE] at HCr
          have HE := Lib.hid hE
          clear hE HC2
          go_wp2_with fail
          refine HCr.out.mono ?_
          rintro e w4 ⟨he, rfl⟩
          obtain rfl : e = .returned (errI E) := he.out
          clear he HCr
          go_wp2
          go_ret
          exact ⟨by rw [HR.out, HE.out]; rfl, HB.out⟩
      have o0' := int_ne' o0
      by_cases o1 : o = 1
      · have HCe : rowChk n o r = rowErr n r := rowErr_chk (.inr o1)
        have o1' := int_eq' o1
        clear o0 o1
        rw [HCe] at HNx HBk
        clear HCe
        rcases hE : rowErr n r with _ | e0
        · rw [hE] at HCr HNx
          have HN2 := Lib.hid (HNx.out rfl)
          clear hE HNx HBk
          generalize r.length = rl at *
          go_wp2_with fail
          refine HCr.out.mono ?_
          rintro e w4 ⟨he, rfl⟩
          obtain rfl : e = .returned .nilIface := he.out
          clear he HCr
          go_wp2
          go_round
          case rel => exact ⟨k + 1, by omega, by go_num, HN2⟩
          case measure => simp [intOf]; omega
        · rw [hE] at HCr
          have HR := Lib.hid (HBk.out (e0 + 1) hE (by omega))
          clear hE HNx HBk
          generalize r.length = rl at *
          have HC2 : Hid (∃ E, errV (e0 + 1) = errI E) := ⟨_, rfl⟩
          obtain ⟨E, hE⟩ := HC2.out
          rw [hE] at HCr
          have HE := Lib.hid hE
          clear hE HC2
          go_wp2_with fail
          refine HCr.out.mono ?_
          rintro e w4 ⟨he, rfl⟩
          obtain rfl : e = .returned (errI E) := he.out
          clear he HCr
          go_wp2
          go_ret
          exact ⟨by rw [HR.out, HE.out]; rfl, HB.out⟩
      · have o1' := int_ne' o1
        have HR := Lib.hid (HBk.out 1 (rowChk_own (by omega)) (by decide))
        clear o0 o1 HBk HNx HCr
        generalize r.length = rl at *
        go_wp2
        go_ret
        exact ⟨by rw [HR.out]; rfl, HB.out⟩
    · have HR := Lib.hid (HEnd.out (by have := HU.out; rwa [show k = n by omega] at this))
      go_wp2
      go_ret
      exact ⟨by rw [HR.out]; rfl, HB.out⟩
end Go.Proofs.YtkphdegelhlpeaaDoor.Du
