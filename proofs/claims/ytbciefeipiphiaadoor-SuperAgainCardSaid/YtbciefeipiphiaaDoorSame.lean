/- The walk of package stilewardsame's Ints: are two lists the same? -/
import Derived.Test.YtbciefeipiphiaaDoorProg
import Derived.Test.YtbciefeipiphiaaDoorWords
import Derived.Deep.QuietTactic
import Derived.BigQuiet
namespace Go.Proofs.YtbciefeipiphiaaDoor.Wd
open Go.RowKit Go.IntWalk

theorem take_eq_step {x y : List Int} {k : Nat} (h : x.take k = y.take k) (hx : k < x.length) (hy : k < y.length) (he : x[k] = y[k]) : x.take (k + 1) = y.take (k + 1) := by
  rw [← List.take_append_getElem hx, ← List.take_append_getElem hy, h, he]
theorem ne_at {x y : List Int} {k : Nat} (hx : k < x.length) (hy : k < y.length) (he : ¬ x[k] = y[k]) : x ≠ y := by
  rintro rfl; exact he rfl
theorem drewN_zero (w : World) : w.drewN 0 = w := rfl

set_option maxRecDepth 100000 in
set_option maxHeartbeats 1000000 in
theorem ints_any (a b : Option Addr) (ca cb : Nat) (x y : List Int) (w : World) (hx : IntsAt w w.heap.size a x) (hy : IntsAt w w.heap.size b y) (lx : x.length ≤ 140737488355328) (ly : y.length ≤ 140737488355328) :
    Calls Tryd.prog 11 #[.slice a x.length ca, .slice b y.length cb] w fun e w' => Hid (e = .returned (.bool (decide (x = y)))) ∧ ∃ n, w' = w.drewN n := by
  by_cases hl : x.length = y.length
  · have HX := Lib.hid hx
    have HY := Lib.hid hy
    have HL := Lib.hid hl
    have hle : x.length ≤ y.length := by omega
    have hl0 : decide (x.length = y.length) = true := by simpa using hl
    have hl1 : ((x.length : Int) != (y.length : Int)) = false := by rw [hl]; simp
    clear hx hy hl
    go_enter Tryd.func11, Tryd.ntmps11
    go_wp2
    go_loopw [5] (fun i wr => ∃ (k n : Nat), k ≤ x.length ∧ i = .int .i64 k ∧ wr = w.drewN n ∧ Hid (x.take k = y.take k)) (fun i _ => x.length - (intOf i).toNat)
    case atStart => exact ⟨0, 0, by omega, rfl, rfl, by simp [Hid]⟩
    case round =>
      obtain ⟨k, n, hk, rfl, rfl, HE⟩ := hrel
      by_cases hlt : k < x.length
      · obtain ⟨ad, rfl, hadb, hcell, hs1, hs2⟩ := HX.out.at_ k hlt
        obtain ⟨ad2, rfl, hadb2, hcell2, ht1, ht2⟩ := HY.out.at_ k (by omega)
        have hlt2 : k < y.length := by omega
        by_cases he : x[k] = y[k]
        · have HN := Lib.hid (take_eq_step HE.out hlt hlt2 he)
          have he1 : (x[k] != y[k]) = false := by rw [he]; simp
          have HE1 := Lib.hid he
          clear he
          generalize x[k] = z1 at *
          generalize y[k] = z2 at *
          go_wp2
          go_quiet (fail)
          go_wp2
          go_roundw
          case rel => exact ⟨k + 1, _, by omega, by go_num, rfl, HN⟩
          case measure => simp [intOf]; omega
        · have HR : Hid (decide (x = y) = false) := decide_eq_false (ne_at hlt hlt2 he)
          have he1 : (x[k] != y[k]) = true := by simpa using he
          have HE1 := Lib.hid he
          clear he
          generalize x[k] = z1 at *
          generalize y[k] = z2 at *
          go_wp2
          go_quiet (fail)
          go_wp2
          go_ret
          exact ⟨by rw [HR.out]; rfl, _, World.drewN_drewN _ _ _⟩
      · have HR : Hid (decide (x = y) = true) := by
          refine decide_eq_true ?_
          have := HE.out
          rw [List.take_of_length_le (by omega), List.take_of_length_le (by have := HL.out; omega)] at this
          exact this
        go_wp2
        go_ret
        exact ⟨by rw [HR.out]; rfl, _, rfl⟩
  · have HR : Hid (decide (x = y) = false) := decide_eq_false (fun e => hl (by rw [e]))
    have hl1 : ((x.length : Int) != (y.length : Int)) = true := by simp; omega
    go_enter Tryd.func11, Tryd.ntmps11
    go_wp2
    go_ret
    exact ⟨by rw [HR.out]; rfl, 0, rfl⟩
end Go.Proofs.YtbciefeipiphiaaDoor.Wd
