/- The document's check of an arena. -/
import Derived.Test.YtkphdegelhlpeaaDoorDuelA
import Derived.Test.YtkphdegelhlpeaaDoorRefWord
namespace Go.Proofs.YtkphdegelhlpeaaDoor.Du
open Go.RowKit Go.IntWalk Go.Proofs.YtkphdegelhlpeaaDoor.Wd Go.Proofs.YtkphdegelhlpeaaDoor.Wo Go.Proofs.YtkphdegelhlpeaaDoor.Df Go.Proofs.YtkphdegelhlpeaaDoor.Rc

/-! ### within bounds -/
theorem inside_any (x lo hi : Int) (w : World) : Calls Tryd.prog 12 #[.int .i64 x, .int .i64 lo, .int .i64 hi] w fun e w' => Hid (e = .returned (.bool (decide (lo ≤ x ∧ x ≤ hi)))) ∧ w = w' := by
  by_cases h : lo ≤ x
  · by_cases h2 : x ≤ hi
    · have HR : Hid (decide (lo ≤ x ∧ x ≤ hi) = true) := decide_eq_true ⟨h, h2⟩
      go_enter Tryd.func12, Tryd.ntmps12
      go_wp2
      go_ret
      exact ⟨by rw [HR.out]; rfl, rfl⟩
    · have HR : Hid (decide (lo ≤ x ∧ x ≤ hi) = false) := decide_eq_false (fun q => h2 q.2)
      have hd : decide (x ≤ hi) = false := decide_eq_false h2
      clear h2
      go_enter Tryd.func12, Tryd.ntmps12
      go_wp2
      go_ret
      exact ⟨by rw [HR.out]; rfl, rfl⟩
  · have HR : Hid (decide (lo ≤ x ∧ x ≤ hi) = false) := decide_eq_false (fun q => h q.1)
    have hd : decide (lo ≤ x) = false := decide_eq_false h
    clear h
    go_enter Tryd.func12, Tryd.ntmps12
    go_wp2
    go_ret
    exact ⟨by rw [HR.out]; rfl, rfl⟩
theorem inside_yes (x lo hi : Int) (w : World) (h : lo ≤ x ∧ x ≤ hi) : Calls Tryd.prog 12 #[.int .i64 x, .int .i64 lo, .int .i64 hi] w fun e w' => e = .returned (.bool true) ∧ w = w' :=
  (inside_any x lo hi w).mono fun _ _ ⟨he, hw⟩ => ⟨by rw [he.out, decide_eq_true h], hw⟩
theorem inside_no (x lo hi : Int) (w : World) (h : ¬ (lo ≤ x ∧ x ≤ hi)) : Calls Tryd.prog 12 #[.int .i64 x, .int .i64 lo, .int .i64 hi] w fun e w' => e = .returned (.bool false) ∧ w = w' :=
  (inside_any x lo hi w).mono fun _ _ ⟨he, hw⟩ => ⟨by rw [he.out, decide_eq_false h], hw⟩

/-! ### the document's check -/
set_option maxRecDepth 100000 in
set_option maxHeartbeats 2000000 in
theorem rarena_any (v : Value) (a : Ar) (w : World) (h : ArAt w w.heap.size v a) :
    Calls Tryd.prog 4 #[v] w fun e w' => Hid (e = .returned (.int .i64 (achk a : Nat))) ∧ Below w.heap.size w w' := by
  obtain ⟨O, co, A, c, F, cf, rfl, h⟩ := h
  obtain ⟨w1, hw1, hB1, hX, ha1⟩ := box_ar w h
  have HB := Lib.hid hB1
  have HW := Lib.hid hw1
  have hln : a.next.length ≤ 9223372036854775807 := Nat.le_trans h.hc h.hc2
  have hlo : a.own.length ≤ 9223372036854775807 := Nat.le_trans h.ho h.ho2
  have hlg : a.goal.length ≤ 9223372036854775807 := Nat.le_trans h.hf h.hf2
  have hc0 := hX.c0
  have hc1 := hX.c1
  have hc2 := hX.c2
  by_cases g1 : a.next.length = 0
  · have HR : Hid (achk a = 3) := by unfold achk; rw [if_pos (.inl g1)]; exact rfl
    have h1 := int_eq (show (a.next.length : Int) = 0 by omega)
    clear h ha1 hX hB1 g1
    generalize a.next.length = n at *
    generalize a.own.length = no at *
    generalize a.goal.length = nf at *
    go_enter Tryd.func4, Tryd.ntmps4
    go_wp2
    go_ret
    exact ⟨by rw [HR.out]; rfl, by rw [← HW.out]; exact HB.out⟩
  have h1 := int_ne (show (a.next.length : Int) ≠ 0 by omega)
  by_cases g2 : a.own.length = a.next.length
  case neg =>
    have HR : Hid (achk a = 3) := by unfold achk; rw [if_pos (.inr (.inl g2))]; exact rfl
    have h2 := int_ne' (show (a.own.length : Int) ≠ (a.next.length : Int) by omega)
    clear h ha1 hX hB1 g1 g2
    generalize a.next.length = n at *
    generalize a.own.length = no at *
    generalize a.goal.length = nf at *
    go_enter Tryd.func4, Tryd.ntmps4
    go_wp2
    go_ret
    exact ⟨by rw [HR.out]; rfl, by rw [← HW.out]; exact HB.out⟩
  have h2 := int_eq' (show (a.own.length : Int) = (a.next.length : Int) by omega)
  by_cases g3 : a.goal.length = a.next.length
  case neg =>
    have HR : Hid (achk a = 3) := by unfold achk; rw [if_pos (.inr (.inr g3))]; exact rfl
    have h3 := int_ne' (show (a.goal.length : Int) ≠ (a.next.length : Int) by omega)
    clear h ha1 hX hB1 g1 g2 g3
    generalize a.next.length = n at *
    generalize a.own.length = no at *
    generalize a.goal.length = nf at *
    go_enter Tryd.func4, Tryd.ntmps4
    go_wp2
    go_ret
    exact ⟨by rw [HR.out]; rfl, by rw [← HW.out]; exact HB.out⟩
  have h3 := int_eq' (show (a.goal.length : Int) = (a.next.length : Int) by omega)
  by_cases g4 : 40 < a.next.length
  · have HR : Hid (achk a = 4) := by unfold achk; rw [if_neg (by omega), if_pos g4]; exact rfl
    clear h ha1 hX hB1 g1 g2 g3
    generalize a.next.length = n at *
    generalize a.own.length = no at *
    generalize a.goal.length = nf at *
    go_enter Tryd.func4, Tryd.ntmps4
    go_wp2
    go_ret
    exact ⟨by rw [HR.out]; rfl, by rw [← HW.out]; exact HB.out⟩
  have HBad : Hid (∀ k e, k < a.next.length → toChk a k = 0 → rowChk a.next.length (ownA a k) (rowA a k) = e → e ≠ 0 → achk a = e) := fun k e hk h0 he hz => achk_bad g1 g2 g3 (by omega) hk h0 he hz
  have HEnd : Hid (toChk a a.next.length = 0 → achk a = 0) := fun q => by rw [achk_at g1 g2 g3 (by omega), q]
  have HOw := Lib.hid ha1.owns
  have HN := Lib.hid ha1.rows
  have HY : Hid (toChk a 0 = 0) := rfl
  have HLo := Lib.hid g2
  rw [g2, g3]
  rw [g2, g3] at hX
  rw [g2] at h2
  rw [g3] at h3
  have hw2 := HW.out
  rw [g2, g3] at hw2
  have HW := Lib.hid hw2
  have HX := Lib.hid hX
  have hc0 := hX.c0
  have hc1 := hX.c1
  have hc2 := hX.c2
  clear h hB1 ha1 g1 g2 g3 hX hlo hlg hw2 hw1
  generalize hnn : a.next.length = n at *
  have HLen := Lib.hid hnn
  clear hnn
  have hwr : IntKind.i64.wrap ((n : Int) - 1) = (n : Int) - 1 := IntWalk.i64_in _ ⟨by omega, by omega⟩
  go_enter Tryd.func4, Tryd.ntmps4
  go_wp2_with fail
  rw [← HW.out]
  clear HW
  go_loopw [4] (fun i wr => ∃ (k j : Nat), k ≤ n ∧ i = .int .i64 k ∧ wr = w1.drewN j ∧ Hid (toChk a k = 0)) (fun i _ => n - (intOf i).toNat)
  case atStart => exact ⟨0, 0, by omega, rfl, rfl, HY⟩
  case round =>
    clear HY
    obtain ⟨k, j, hk, rfl, rfl, HU⟩ := hrel
    by_cases hlt : k < n
    · have hlt' : k < a.next.length := by rw [HLen.out]; exact hlt
      have hlo' : k < a.own.length := by rw [HLo.out]; omega
      obtain ⟨ado, rfl, hob, hocell, ho1, ho2⟩ := HOw.out.at_ k hlo'
      have ho : ownA a k = a.own[k] := by unfold ownA; rw [List.getElem?_eq_getElem hlo']; rfl
      have hr : rowA a k = a.next[k] := by unfold rowA; rw [List.getElem?_eq_getElem hlt']; rfl
      have HBk := Lib.hid (HBad.out k)
      rw [ho, hr] at HBk
      have HBk := Lib.hid (fun e => HBk.out e hlt HU.out)
      have HNx : Hid (rowChk n a.own[k] a.next[k] = 0 → toChk a (k + 1) = 0) := fun q => by rw [toChk_next HU.out, ho, hr, HLen.out]; exact q
      obtain ⟨ad, A', c', rfl, hadb, hcell, hrc, hrc2, hz⟩ := HN.out k _ (List.getElem?_eq_getElem hlt')
      have HZ := Lib.hid hz
      clear hz ho hr
      generalize a.own[k] = o at *
      generalize a.next[k] = r at *
      have hB2 := below_drewN HB.out j
      have hX2 := HX.out.on (below_drewN (Below.refl _ w1) j)
      have hc0 := hX2.c0
      have hc1 := hX2.c1
      go_wp2_with fail
      by_cases e1 : 0 ≤ o ∧ o ≤ 1
      case neg =>
        have HR := Lib.hid (HBk.out 1 (rowChk_own e1) (by decide))
        refine (inside_no _ _ _ _ e1).mono ?_
        rintro e w4 ⟨rfl, rfl⟩
        clear e1
        go_wp2
        go_ret
        exact ⟨by rw [HR.out]; rfl, below_drewN HB.out _⟩
      refine (inside_yes _ _ _ _ e1).mono ?_
      rintro e w4 ⟨rfl, rfl⟩
      by_cases e2 : r.length = 0
      · have HR := Lib.hid (HBk.out 3 (rowChk_none e1 e2) (by decide))
        have hq := int_eq (show (r.length : Int) = 0 by omega)
        clear e1 e2
        generalize r.length = rl at *
        go_wp2
        go_ret
        exact ⟨by rw [HR.out]; rfl, below_drewN HB.out _⟩
      have hq := int_ne (show (r.length : Int) ≠ 0 by omega)
      by_cases e3 : 40 < r.length
      · have HR := Lib.hid (HBk.out 4 (rowChk_many e1 e3) (by decide))
        clear e1 e2
        generalize r.length = rl at *
        go_wp2
        go_ret
        exact ⟨by rw [HR.out]; rfl, below_drewN HB.out _⟩
      have HOut : Hid (∀ x ∈ r, ¬ (0 ≤ x ∧ x ≤ (n : Int) - 1) → achk a = 1) := fun x hx hb => HBk.out 1 (rowChk_out e1 e2 (by omega) hx hb) (by decide)
      have HWell : Hid ((∀ x ∈ r, 0 ≤ x ∧ x ≤ (n : Int) - 1) → toChk a (k + 1) = 0) := fun q => HNx.out (rowChk_well e1 e2 (by omega) q)
      have HY : Hid (∀ x ∈ r.take 0, 0 ≤ x ∧ x ≤ (n : Int) - 1) := by simp [Hid]
      clear e1 e2
      go_wp2
      go_loopw [5] (fun i wr => ∃ (l m : Nat), l ≤ r.length ∧ i = .int .i64 l ∧ wr = w1.drewN m ∧ Hid (∀ x ∈ r.take l, 0 ≤ x ∧ x ≤ (n : Int) - 1)) (fun i _ => r.length - (intOf i).toNat)
      case atStart => exact ⟨0, j, by omega, rfl, rfl, HY⟩
      case round =>
        clear HY
        obtain ⟨l, m, hl, rfl, rfl, HV⟩ := hrel
        by_cases hlj : l < r.length
        · obtain ⟨ad2, rfl, hadb2, hcell2, hs1, hs2⟩ := HZ.out.at_ l hlj
          by_cases he : 0 ≤ r[l] ∧ r[l] ≤ (n : Int) - 1
          · have HC := Lib.hid (fun W => inside_yes r[l] 0 ((n : Int) - 1) W he)
            have HV1 := Lib.hid (all_take_succ HV.out hlj he)
            clear he
            generalize r[l] = x at *
            go_wp2_with fail
            refine (HC.out _).mono ?_
            rintro e w5 ⟨rfl, rfl⟩
            go_wp2
            go_roundw
            case rel => exact ⟨l + 1, m, by omega, by go_num, rfl, HV1⟩
            case measure => simp [intOf]; omega
          · have HC := Lib.hid (fun W => inside_no r[l] 0 ((n : Int) - 1) W he)
            have HR := Lib.hid (HOut.out _ (List.getElem_mem hlj) he)
            clear he
            generalize r[l] = x at *
            go_wp2_with fail
            refine (HC.out _).mono ?_
            rintro e w5 ⟨rfl, rfl⟩
            go_wp2
            go_ret
            exact ⟨by rw [HR.out]; rfl, below_drewN HB.out _⟩
        · have HV1 := Lib.hid (HWell.out (all_take_end HV.out (by omega)))
          go_wp2
          go_roundw
          case rel => exact ⟨k + 1, m, by omega, by go_num, rfl, HV1⟩
          case measure => simp [intOf]; omega
    · have HR := Lib.hid (HEnd.out (by have := HU.out; rwa [show k = n by omega] at this))
      go_wp2
      go_ret
      exact ⟨by rw [HR.out]; rfl, below_drewN HB.out _⟩
end Go.Proofs.YtkphdegelhlpeaaDoor.Du
