/- The walks of package word: Check, Only, Mirror, Sub and Less return what the plain mathematics says. The walk of package stilewardsame's Ints: are two lists the same? What the laws of words ask of the walks: each contract by its two ways. -/
import Derived.Test.YtbciefeipiphiaaDoorProg
import Derived.Test.YtbciefeipiphiaaDoorDfaM
import Derived.Test.YtbciefeipiphiaaDoorOwn
import Derived.Deep.QuietTactic
import Derived.BigQuiet
import Derived.Laws.BitsLemmas
import Derived.Test.YtbciefeipiphiaaDoorWords

namespace Go.Proofs.YtbciefeipiphiaaDoor.Wo
open Go.RowKit Go.IntWalk Go.Proofs.YtbciefeipiphiaaDoor.Wd

/-- '1 << letters'. -/
theorem shl_lim {L : Int} (h1 : 1 ≤ L) (h2 : L ≤ 6) : ∃ P : Int, wrap64 (2 ^ L.toNat) = P ∧ 2 ^ L.toNat = P ∧ 2 ≤ P ∧ P ≤ 64 := by
  refine ⟨_, ?_, rfl, ?_⟩
  all_goals have : L = 1 ∨ L = 2 ∨ L = 3 ∨ L = 4 ∨ L = 5 ∨ L = 6 := by omega
  all_goals rcases this with rfl | rfl | rfl | rfl | rfl | rfl <;> decide +kernel
theorem and_one (n : Int) : bits .and .i64 n 1 = n % 2 := by
  have h1 : (BitVec.ofInt 64 1).toNat = 2 ^ 1 - 1 := by decide
  have key : (BitVec.ofInt 64 n &&& BitVec.ofInt 64 1).toNat = (n % ((2 ^ 64 : Nat) : Int)).toNat % 2 ^ 1 := by
    rw [BitVec.toNat_and, BitVec.toNat_ofInt, h1, Nat.and_two_pow_sub_one_eq_mod]
  show IntKind.i64.wrap ((BitVec.ofInt 64 n &&& BitVec.ofInt 64 1).toNat : Nat) = n % 2
  rw [key, IntKind.wrap_i64]
  omega
theorem bit_has {s a : Int} (h : 0 ≤ s) : (bits .and .i64 (s / 2 ^ a.toNat) 1 == 1) = has s a := by
  obtain ⟨n, rfl⟩ := Int.eq_ofNat_of_zero_le h
  unfold has
  rw [and_one, Int.toNat_natCast]
  have e : (n : Int) / 2 ^ a.toNat % 2 = ((n / 2 ^ a.toNat % 2 : Nat) : Int) := by
    rw [Int.natCast_emod, Int.natCast_ediv, Int.natCast_pow]; rfl
  rw [e, Bool.eq_iff_iff]
  simp
  omega

/-! ### Less -/
/-! ### the laws' own -/
end Go.Proofs.YtbciefeipiphiaaDoor.Wo

namespace Go.Proofs.YtbciefeipiphiaaDoor.Wd
open Go.RowKit Go.IntWalk

theorem take_eq_step {x y : List Int} {k : Nat} (h : x.take k = y.take k) (hx : k < x.length) (hy : k < y.length) (he : x[k] = y[k]) : x.take (k + 1) = y.take (k + 1) := by
  rw [← List.take_append_getElem hx, ← List.take_append_getElem hy, h, he]
theorem ne_at {x y : List Int} {k : Nat} (hx : k < x.length) (hy : k < y.length) (he : ¬ x[k] = y[k]) : x ≠ y := by
  rintro rfl; exact he rfl
set_option maxRecDepth 100000 in
set_option maxHeartbeats 1000000 in
theorem ints_any (a b : Option Addr) (ca cb : Nat) (x y : List Int) (w : World) (hx : IntsAt w w.heap.size a x) (hy : IntsAt w w.heap.size b y) (lx : x.length ≤ 140737488355328) (ly : y.length ≤ 140737488355328) :
    Calls Tryd.prog 11 #[.slice a x.length ca, .slice b y.length cb] w fun e w' => Hid (e = .returned (.bool (decide (x = y)))) ∧ ∃ n, w' = w.drewN n := by
  by_cases hl : x.length = y.length
  · have HX := Lib.hid hx
    have HY := Lib.hid hy
    have HL := Lib.hid hl
    have hle : x.length ≤ y.length := by omega
    have hl0 : decide (x.length = y.length) = true := by simpa using hl
    have hl1 : ((x.length : Int) != (y.length : Int)) = false := by rw [hl]; simp
    clear hx hy hl
    go_enter Tryd.func11, Tryd.ntmps11
    go_wp2
    go_loopw [5] (fun i wr => ∃ (k n : Nat), k ≤ x.length ∧ i = .int .i64 k ∧ wr = w.drewN n ∧ Hid (x.take k = y.take k)) (fun i _ => x.length - (intOf i).toNat)
    case atStart => exact ⟨0, 0, by omega, rfl, rfl, by simp [Hid]⟩
    case round =>
      obtain ⟨k, n, hk, rfl, rfl, HE⟩ := hrel
      by_cases hlt : k < x.length
      · obtain ⟨ad, rfl, hadb, hcell, hs1, hs2⟩ := HX.out.at_ k hlt
        obtain ⟨ad2, rfl, hadb2, hcell2, ht1, ht2⟩ := HY.out.at_ k (by omega)
        have hlt2 : k < y.length := by omega
        by_cases he : x[k] = y[k]
        · have HN := Lib.hid (take_eq_step HE.out hlt hlt2 he)
          have he1 : (x[k] != y[k]) = false := by rw [he]; simp
          have HE1 := Lib.hid he
          clear he
          generalize x[k] = z1 at *
          generalize y[k] = z2 at *
          go_wp2
          go_quiet (fail)
          go_wp2
          go_roundw
          case rel => exact ⟨k + 1, _, by omega, by go_num, rfl, HN⟩
          case measure => simp [intOf]; omega
        · have HR : Hid (decide (x = y) = false) := decide_eq_false (ne_at hlt hlt2 he)
          have he1 : (x[k] != y[k]) = true := by simpa using he
          have HE1 := Lib.hid he
          clear he
          generalize x[k] = z1 at *
          generalize y[k] = z2 at *
          go_wp2
          go_quiet (fail)
          go_wp2
          go_ret
          exact ⟨by rw [HR.out]; rfl, _, World.drewN_drewN _ _ _⟩
      · have HR : Hid (decide (x = y) = true) := by
          refine decide_eq_true ?_
          have := HE.out
          rw [List.take_of_length_le (by omega), List.take_of_length_le (by have := HL.out; omega)] at this
          exact this
        go_wp2
        go_ret
        exact ⟨by rw [HR.out]; rfl, _, rfl⟩
  · have HR : Hid (decide (x = y) = false) := decide_eq_false (fun e => hl (by rw [e]))
    have hl1 : ((x.length : Int) != (y.length : Int)) = true := by simp; omega
    go_enter Tryd.func11, Tryd.ntmps11
    go_wp2
    go_ret
    exact ⟨by rw [HR.out]; rfl, 0, rfl⟩
end Go.Proofs.YtbciefeipiphiaaDoor.Wd

namespace Go.Proofs.YtbciefeipiphiaaDoor.Wo
open Go.RowKit Go.IntWalk Go.Proofs.YtbciefeipiphiaaDoor.Wd

theorem Fine.append {L : Int} {v z : List Int} (hv : Fine L v) (hz : Fine L z) (h : v.length + z.length ≤ 80) : Fine L (v ++ z) :=
  ⟨hv.1, by rw [List.length_append]; exact h, fun a ha => by
    rcases List.mem_append.1 ha with ha | ha
    · exact hv.2.2 a ha
    · exact hz.2.2 a ha⟩
theorem Fine.left {L : Int} {v z : List Int} (h : Fine L (v ++ z)) : Fine L v :=
  ⟨h.1, by have := h.2.1; rw [List.length_append] at this; omega, fun a ha => h.2.2 a (List.mem_append.2 (.inl ha))⟩
theorem Fine.right {L : Int} {v z : List Int} (h : Fine L (v ++ z)) : Fine L z :=
  ⟨h.1, by have := h.2.1; rw [List.length_append] at this; omega, fun a ha => h.2.2 a (List.mem_append.2 (.inr ha))⟩

section
variable {L : Int} {A B : Option Addr} {c d : Nat} {v z : List Int} {w : World}
/-- Ints of two lists that are one, behind some draws. -/
theorem ints_yes {n : Nat} (h : v = z) (hA : IntsAt w w.heap.size A v) (hB : IntsAt w w.heap.size B z) (hl : v.length ≤ 140737488355328) :
    Calls Tryd.prog 11 #[.slice A v.length c, .slice B z.length d] (w.drewN n) fun e w' => e = .returned (.bool true) ∧ ∃ m, w' = w.drewN m := by
  subst h
  refine (ints_any A B c d v v (w.drewN n) (hA.below (below_drewN (Below.refl _ _) n)) (hB.below (below_drewN (Below.refl _ _) n)) hl hl).mono ?_
  rintro e w' ⟨he, m, rfl⟩
  exact ⟨by rw [he.out]; simp, _, World.drewN_drewN _ _ _⟩
end
end Go.Proofs.YtbciefeipiphiaaDoor.Wo
