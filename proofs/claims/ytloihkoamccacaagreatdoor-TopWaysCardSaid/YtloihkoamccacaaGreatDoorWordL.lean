/- The walk of package stilewardsame's Ints: are two lists the same? The walks of package word: Check, Only, Mirror, Sub and Less return what the plain mathematics says. What the laws of words ask of the walks: each contract by its two ways. -/
import Derived.Test.YtloihkoamccacaaGreatDoorProg
import Derived.Test.YtloihkoamccacaaGreatDoorWords
import Derived.Deep.QuietTactic
import Derived.BigQuiet
import Derived.Test.YtloihkoamccacaaGreatDoorDfaM
import Derived.Test.YtloihkoamccacaaGreatDoorOwn
import Derived.Laws.BitsLemmas

namespace Go.Proofs.YtloihkoamccacaaGreatDoor.Wd
open Go.RowKit Go.IntWalk

theorem take_eq_step {x y : List Int} {k : Nat} (h : x.take k = y.take k) (hx : k < x.length) (hy : k < y.length) (he : x[k] = y[k]) : x.take (k + 1) = y.take (k + 1) := by
  rw [← List.take_append_getElem hx, ← List.take_append_getElem hy, h, he]
theorem ne_at {x y : List Int} {k : Nat} (hx : k < x.length) (hy : k < y.length) (he : ¬ x[k] = y[k]) : x ≠ y := by
  rintro rfl; exact he rfl
set_option maxRecDepth 100000 in
set_option maxHeartbeats 1000000 in
theorem ints_any (a b : Option Addr) (ca cb : Nat) (x y : List Int) (w : World) (hx : IntsAt w w.heap.size a x) (hy : IntsAt w w.heap.size b y) (lx : x.length ≤ 140737488355328) (ly : y.length ≤ 140737488355328) :
    Calls Tryz.prog 49 #[.slice a x.length ca, .slice b y.length cb] w fun e w' => Hid (e = .returned (.bool (decide (x = y)))) ∧ ∃ n, w' = w.drewN n := by
  by_cases hl : x.length = y.length
  · have HX := Lib.hid hx
    have HY := Lib.hid hy
    have HL := Lib.hid hl
    have hle : x.length ≤ y.length := by omega
    have hl0 : decide (x.length = y.length) = true := by simpa using hl
    have hl1 : ((x.length : Int) != (y.length : Int)) = false := by rw [hl]; simp
    clear hx hy hl
    go_enter Tryz.func49, Tryz.ntmps49
    go_wp2
    go_loopw [5] (fun i wr => ∃ (k n : Nat), k ≤ x.length ∧ i = .int .i64 k ∧ wr = w.drewN n ∧ Hid (x.take k = y.take k)) (fun i _ => x.length - (intOf i).toNat)
    case atStart => exact ⟨0, 0, by omega, rfl, rfl, by simp [Hid]⟩
    case round =>
      obtain ⟨k, n, hk, rfl, rfl, HE⟩ := hrel
      by_cases hlt : k < x.length
      · obtain ⟨ad, rfl, hadb, hcell, hs1, hs2⟩ := HX.out.at_ k hlt
        obtain ⟨ad2, rfl, hadb2, hcell2, ht1, ht2⟩ := HY.out.at_ k (by omega)
        have hlt2 : k < y.length := by omega
        by_cases he : x[k] = y[k]
        · have HN := Lib.hid (take_eq_step HE.out hlt hlt2 he)
          have he1 : (x[k] != y[k]) = false := by rw [he]; simp
          have HE1 := Lib.hid he
          clear he
          generalize x[k] = z1 at *
          generalize y[k] = z2 at *
          go_wp2
          go_quiet (fail)
          go_wp2
          go_roundw
          case rel => exact ⟨k + 1, _, by omega, by go_num, rfl, HN⟩
          case measure => simp [intOf]; omega
        · have HR : Hid (decide (x = y) = false) := decide_eq_false (ne_at hlt hlt2 he)
          have he1 : (x[k] != y[k]) = true := by simpa using he
          have HE1 := Lib.hid he
          clear he
          generalize x[k] = z1 at *
          generalize y[k] = z2 at *
          go_wp2
          go_quiet (fail)
          go_wp2
          go_ret
          exact ⟨by rw [HR.out]; rfl, _, World.drewN_drewN _ _ _⟩
      · have HR : Hid (decide (x = y) = true) := by
          refine decide_eq_true ?_
          have := HE.out
          rw [List.take_of_length_le (by omega), List.take_of_length_le (by have := HL.out; omega)] at this
          exact this
        go_wp2
        go_ret
        exact ⟨by rw [HR.out]; rfl, _, rfl⟩
  · have HR : Hid (decide (x = y) = false) := decide_eq_false (fun e => hl (by rw [e]))
    have hl1 : ((x.length : Int) != (y.length : Int)) = true := by simp; omega
    go_enter Tryz.func49, Tryz.ntmps49
    go_wp2
    go_ret
    exact ⟨by rw [HR.out]; rfl, 0, rfl⟩
end Go.Proofs.YtloihkoamccacaaGreatDoor.Wd

namespace Go.Proofs.YtloihkoamccacaaGreatDoor.Wo
open Go.RowKit Go.IntWalk Go.Proofs.YtloihkoamccacaaGreatDoor.Wd

set_option maxRecDepth 100000 in
set_option maxHeartbeats 1000000 in
theorem check_any (L : Int) (A : Option Addr) (c : Nat) (z : List Int) (w : World) (hL : Small L) (hA : IntsAt w w.heap.size A z) (hz : z.length ≤ 17592186044416) :
    Calls Tryz.prog 57 #[.int .i64 L, .slice A z.length c] w fun e w' => Hid (e = .returned (errV (chk L z))) ∧ w = w' := by
  obtain ⟨l1, l2⟩ := hL
  by_cases h : L < 1 ∨ 6 < L
  · have HR := Lib.hid (chk_one h z)
    rcases h with h | h
    all_goals
      go_enter Tryz.func57, Tryz.ntmps57
      go_wp2
      go_ret
      exact ⟨by rw [HR.out]; rfl, rfl⟩
  · have hh := h
    obtain ⟨g1, g2⟩ : 1 ≤ L ∧ L ≤ 6 := by omega
    by_cases h2 : 80 < z.length
    · have HR := Lib.hid (chk_four h h2)
      clear h hh
      go_enter Tryz.func57, Tryz.ntmps57
      go_wp2
      go_ret
      exact ⟨by rw [HR.out]; rfl, rfl⟩
    · have HB := Lib.hid (fun k hk h3 => chk_bad h h2 (k := k) hk h3)
      have HE := Lib.hid (upto_end h h2)
      have HA := Lib.hid hA
      have h80 : z.length ≤ 80 := by omega
      clear h hh hA h2
      go_enter Tryz.func57, Tryz.ntmps57
      go_wp2
      go_loop [20] (fun i => ∃ (k : Nat), k ≤ z.length ∧ i = .int .i64 k ∧ Hid (Upto L z k)) (fun i => z.length - (intOf i).toNat)
      case atStart => exact ⟨0, by omega, rfl, upto_zero L z⟩
      case round =>
        obtain ⟨k, hk, rfl, HU⟩ := hrel
        by_cases hlt : k < z.length
        · obtain ⟨ad, rfl, hadb, hcell, hs1, hs2⟩ := HA.out.at_ k hlt
          by_cases h0 : z[k] < 0
          · have HR := Lib.hid (HB.out k hlt (.inl h0))
            generalize z[k] = x at *
            go_wp2
            go_ret
            exact ⟨by rw [HR.out]; rfl, rfl⟩
          · by_cases h1 : L ≤ z[k]
            · have HR := Lib.hid (HB.out k hlt (.inr h1))
              generalize z[k] = x at *
              go_wp2
              go_ret
              exact ⟨by rw [HR.out]; rfl, rfl⟩
            · have HN := Lib.hid (upto_next HU.out hlt (by omega) (by omega))
              generalize z[k] = x at *
              go_wp2
              go_round
              case rel => exact ⟨k + 1, by omega, by go_num, HN⟩
              case measure => simp [intOf]; omega
        · obtain rfl : k = z.length := by omega
          have HR := Lib.hid (HE.out HU.out)
          go_wp2
          go_ret
          exact ⟨by rw [HR.out]; rfl, rfl⟩
/-- Check, by its two ways. -/
theorem check_ok (L : Int) (A : Option Addr) (c : Nat) (z : List Int) (w : World) (hL : Small L) (hA : IntsAt w w.heap.size A z) (hz : z.length ≤ 17592186044416) (h : chk L z = 0) :
    Calls Tryz.prog 57 #[.int .i64 L, .slice A z.length c] w fun e w' => e = .returned .nilIface ∧ w = w' :=
  (check_any L A c z w hL hA hz).mono fun e w' ⟨he, hw⟩ => ⟨by rw [he.out, h]; rfl, hw⟩
theorem check_bad (L : Int) (A : Option Addr) (c : Nat) (z : List Int) (w : World) (hL : Small L) (hA : IntsAt w w.heap.size A z) (hz : z.length ≤ 17592186044416) (x : Value) (e0 : Nat) (h : chk L z = e0 + 1) (hx : x = .int .i64 ((e0 + 1 : Nat) : Int)) :
    Calls Tryz.prog 57 #[.int .i64 L, .slice A z.length c] w fun e w' => e = .returned (.iface 57 x) ∧ w = w' :=
  (check_any L A c z w hL hA hz).mono fun e w' ⟨he, hw⟩ => ⟨by rw [he.out, h, hx]; rfl, hw⟩

/-- '1 << letters'. -/
theorem shl_lim {L : Int} (h1 : 1 ≤ L) (h2 : L ≤ 6) : ∃ P : Int, wrap64 (2 ^ L.toNat) = P ∧ 2 ^ L.toNat = P ∧ 2 ≤ P ∧ P ≤ 64 := by
  refine ⟨_, ?_, rfl, ?_⟩
  all_goals have : L = 1 ∨ L = 2 ∨ L = 3 ∨ L = 4 ∨ L = 5 ∨ L = 6 := by omega
  all_goals rcases this with rfl | rfl | rfl | rfl | rfl | rfl <;> decide +kernel
theorem and_one (n : Int) : bits .and .i64 n 1 = n % 2 := by
  have h1 : (BitVec.ofInt 64 1).toNat = 2 ^ 1 - 1 := by decide
  have key : (BitVec.ofInt 64 n &&& BitVec.ofInt 64 1).toNat = (n % ((2 ^ 64 : Nat) : Int)).toNat % 2 ^ 1 := by
    rw [BitVec.toNat_and, BitVec.toNat_ofInt, h1, Nat.and_two_pow_sub_one_eq_mod]
  show IntKind.i64.wrap ((BitVec.ofInt 64 n &&& BitVec.ofInt 64 1).toNat : Nat) = n % 2
  rw [key, IntKind.wrap_i64]
  omega
theorem bit_has {s a : Int} (h : 0 ≤ s) : (bits .and .i64 (s / 2 ^ a.toNat) 1 == 1) = has s a := by
  obtain ⟨n, rfl⟩ := Int.eq_ofNat_of_zero_le h
  unfold has
  rw [and_one, Int.toNat_natCast]
  have e : (n : Int) / 2 ^ a.toNat % 2 = ((n / 2 ^ a.toNat % 2 : Nat) : Int) := by
    rw [Int.natCast_emod, Int.natCast_ediv, Int.natCast_pow]; rfl
  rw [e, Bool.eq_iff_iff]
  simp
  omega

/-! ### Less -/
/-! ### the laws' own -/
end Go.Proofs.YtloihkoamccacaaGreatDoor.Wo

namespace Go.Proofs.YtloihkoamccacaaGreatDoor.Wo
open Go.RowKit Go.IntWalk Go.Proofs.YtloihkoamccacaaGreatDoor.Wd

theorem Fine.append {L : Int} {v z : List Int} (hv : Fine L v) (hz : Fine L z) (h : v.length + z.length ≤ 80) : Fine L (v ++ z) :=
  ⟨hv.1, by rw [List.length_append]; exact h, fun a ha => by
    rcases List.mem_append.1 ha with ha | ha
    · exact hv.2.2 a ha
    · exact hz.2.2 a ha⟩
theorem Fine.left {L : Int} {v z : List Int} (h : Fine L (v ++ z)) : Fine L v :=
  ⟨h.1, by have := h.2.1; rw [List.length_append] at this; omega, fun a ha => h.2.2 a (List.mem_append.2 (.inl ha))⟩
theorem Fine.right {L : Int} {v z : List Int} (h : Fine L (v ++ z)) : Fine L z :=
  ⟨h.1, by have := h.2.1; rw [List.length_append] at this; omega, fun a ha => h.2.2 a (List.mem_append.2 (.inr ha))⟩

section
variable {L : Int} {A B : Option Addr} {c d : Nat} {v z : List Int} {w : World}
end
end Go.Proofs.YtloihkoamccacaaGreatDoor.Wo
