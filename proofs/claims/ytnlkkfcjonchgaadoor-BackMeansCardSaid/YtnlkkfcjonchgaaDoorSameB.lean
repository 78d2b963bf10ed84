/- The walk of stilewardsame.Bools. -/
import Derived.Test.YtnlkkfcjonchgaaDoorBoolT
import Derived.Test.YtnlkkfcjonchgaaDoorSame
import Derived.Deep.QuietTactic
import Derived.BigQuiet
namespace Go.Proofs.YtnlkkfcjonchgaaDoor.Df
open Go.RowKit Go.IntWalk Go.Proofs.YtnlkkfcjonchgaaDoor.Wd

theorem takeB_step {α : Type} {x y : List α} {k : Nat} (h : x.take k = y.take k) (hx : k < x.length) (hy : k < y.length) (he : x[k] = y[k]) : x.take (k + 1) = y.take (k + 1) := by
  rw [← List.take_append_getElem hx, ← List.take_append_getElem hy, h, he]
theorem neB_at {α : Type} {x y : List α} {k : Nat} (hx : k < x.length) (hy : k < y.length) (he : ¬ x[k] = y[k]) : x ≠ y := by
  rintro rfl; exact he rfl
set_option maxRecDepth 100000 in
set_option maxHeartbeats 1000000 in
theorem bools_any (a b : Option Addr) (ca cb : Nat) (x y : List Bool) (w : World) (hx : BoolsAt w w.heap.size a x) (hy : BoolsAt w w.heap.size b y) (lx : x.length ≤ 140737488355328) (ly : y.length ≤ 140737488355328) (r : Bool) (hr : r = decide (x = y)) :
    Calls Tryd.prog 34 #[.slice a x.length ca, .slice b y.length cb] w fun e w' => e = .returned (.bool r) ∧ ∃ n, w' = w.drewN n := by
  have HR := Lib.hid hr
  clear hr
  by_cases hl : x.length = y.length
  · have HX := Lib.hid hx
    have HY := Lib.hid hy
    have HL := Lib.hid hl
    have hle : x.length ≤ y.length := by omega
    have hl1 := int_eq' (show (x.length : Int) = (y.length : Int) by omega)
    clear hx hy hl
    go_enter Tryd.func34, Tryd.ntmps34
    go_wp2
    go_loopw [5] (fun i wr => ∃ (k n : Nat), k ≤ x.length ∧ i = .int .i64 k ∧ wr = w.drewN n ∧ Hid (x.take k = y.take k)) (fun i _ => x.length - (intOf i).toNat)
    case atStart => exact ⟨0, 0, by omega, rfl, rfl, by simp [Hid]⟩
    case round =>
      obtain ⟨k, n, hk, rfl, rfl, HE⟩ := hrel
      by_cases hlt : k < x.length
      · have hlt2 : k < y.length := by omega
        obtain ⟨ad, rfl, hadb, hcell, _⟩ := HX.out.at_ (List.getElem?_eq_getElem hlt)
        obtain ⟨ad2, rfl, hadb2, hcell2, _⟩ := HY.out.at_ (List.getElem?_eq_getElem hlt2)
        by_cases he : x[k] = y[k]
        · have HN := Lib.hid (takeB_step HE.out hlt hlt2 he)
          have he1 : (x[k] != y[k]) = false := by rw [he]; exact bne_self_eq_false _
          rw [← he] at hcell2
          rw [← he] at he1
          clear he
          generalize x[k] = z1 at *
          go_wp2
          go_quiet (fail)
          go_wp2
          go_roundw
          case rel => exact ⟨k + 1, _, by omega, by go_num, rfl, HN⟩
          case measure => simp [intOf]; omega
        · obtain rfl : r = false := by rw [HR.out]; exact decide_eq_false (neB_at hlt hlt2 he)
          have he1 : (x[k] != y[k]) = true := bne_iff_ne.2 he
          clear he
          generalize x[k] = z1 at *
          generalize y[k] = z2 at *
          have he2 : (!z1 == z2) = true := by cases z1 <;> cases z2 <;> simp_all
          go_wp2
          go_quiet (fail)
          go_wp2
          go_ret
          exact ⟨rfl, _, World.drewN_drewN _ _ _⟩
      · obtain rfl : r = true := by
          rw [HR.out]
          refine decide_eq_true ?_
          have := HE.out
          rw [List.take_of_length_le (by omega), List.take_of_length_le (by have := HL.out; omega)] at this
          exact this
        go_wp2
        go_ret
        exact ⟨rfl, _, rfl⟩
  · obtain rfl : r = false := by rw [HR.out]; exact decide_eq_false (fun e => hl (by rw [e]))
    have hl1 := int_ne' (show (x.length : Int) ≠ (y.length : Int) by omega)
    go_enter Tryd.func34, Tryd.ntmps34
    go_wp2
    go_ret
    exact ⟨rfl, 0, rfl⟩
end Go.Proofs.YtnlkkfcjonchgaaDoor.Df
