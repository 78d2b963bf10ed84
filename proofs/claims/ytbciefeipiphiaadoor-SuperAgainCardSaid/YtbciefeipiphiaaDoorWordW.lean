/- The walks of package word: Check, Only, Mirror, Sub and Less return what the plain mathematics says. -/
import Derived.Test.YtbciefeipiphiaaDoorProg
import Derived.Test.YtbciefeipiphiaaDoorDfaM
import Derived.Test.YtbciefeipiphiaaDoorInts
import Derived.Deep.QuietTactic
import Derived.BigQuiet
import Derived.Laws.BitsLemmas
namespace Go.Proofs.YtbciefeipiphiaaDoor.Wo
open Go.RowKit Go.IntWalk Go.Proofs.YtbciefeipiphiaaDoor.Wd

set_option maxRecDepth 100000 in
set_option maxHeartbeats 1000000 in
theorem check_any (L : Int) (A : Option Addr) (c : Nat) (z : List Int) (w : World) (hL : Small L) (hA : IntsAt w w.heap.size A z) (hz : z.length ≤ 17592186044416) :
    Calls Tryd.prog 76 #[.int .i64 L, .slice A z.length c] w fun e w' => Hid (e = .returned (errV (chk L z))) ∧ w = w' := by
  obtain ⟨l1, l2⟩ := hL
  by_cases h : L < 1 ∨ 6 < L
  · have HR := Lib.hid (chk_one h z)
    rcases h with h | h
    all_goals
      go_enter Tryd.func76, Tryd.ntmps76
      go_wp2
      go_ret
      exact ⟨by rw [HR.out]; rfl, rfl⟩
  · have hh := h
    obtain ⟨g1, g2⟩ : 1 ≤ L ∧ L ≤ 6 := by omega
    by_cases h2 : 80 < z.length
    · have HR := Lib.hid (chk_four h h2)
      clear h hh
      go_enter Tryd.func76, Tryd.ntmps76
      go_wp2
      go_ret
      exact ⟨by rw [HR.out]; rfl, rfl⟩
    · have HB := Lib.hid (fun k hk h3 => chk_bad h h2 (k := k) hk h3)
      have HE := Lib.hid (upto_end h h2)
      have HA := Lib.hid hA
      have h80 : z.length ≤ 80 := by omega
      clear h hh hA h2
      go_enter Tryd.func76, Tryd.ntmps76
      go_wp2
      go_loop [20] (fun i => ∃ (k : Nat), k ≤ z.length ∧ i = .int .i64 k ∧ Hid (Upto L z k)) (fun i => z.length - (intOf i).toNat)
      case atStart => exact ⟨0, by omega, rfl, upto_zero L z⟩
      case round =>
        obtain ⟨k, hk, rfl, HU⟩ := hrel
        by_cases hlt : k < z.length
        · obtain ⟨ad, rfl, hadb, hcell, hs1, hs2⟩ := HA.out.at_ k hlt
          by_cases h0 : z[k] < 0
          · have HR := Lib.hid (HB.out k hlt (.inl h0))
            generalize z[k] = x at *
            go_wp2
            go_ret
            exact ⟨by rw [HR.out]; rfl, rfl⟩
          · by_cases h1 : L ≤ z[k]
            · have HR := Lib.hid (HB.out k hlt (.inr h1))
              generalize z[k] = x at *
              go_wp2
              go_ret
              exact ⟨by rw [HR.out]; rfl, rfl⟩
            · have HN := Lib.hid (upto_next HU.out hlt (by omega) (by omega))
              generalize z[k] = x at *
              go_wp2
              go_round
              case rel => exact ⟨k + 1, by omega, by go_num, HN⟩
              case measure => simp [intOf]; omega
        · obtain rfl : k = z.length := by omega
          have HR := Lib.hid (HE.out HU.out)
          go_wp2
          go_ret
          exact ⟨by rw [HR.out]; rfl, rfl⟩
/-- Check, by its two ways. -/
theorem check_ok (L : Int) (A : Option Addr) (c : Nat) (z : List Int) (w : World) (hL : Small L) (hA : IntsAt w w.heap.size A z) (hz : z.length ≤ 17592186044416) (h : chk L z = 0) :
    Calls Tryd.prog 76 #[.int .i64 L, .slice A z.length c] w fun e w' => e = .returned .nilIface ∧ w = w' :=
  (check_any L A c z w hL hA hz).mono fun e w' ⟨he, hw⟩ => ⟨by rw [he.out, h]; rfl, hw⟩
theorem check_bad (L : Int) (A : Option Addr) (c : Nat) (z : List Int) (w : World) (hL : Small L) (hA : IntsAt w w.heap.size A z) (hz : z.length ≤ 17592186044416) (x : Value) (e0 : Nat) (h : chk L z = e0 + 1) (hx : x = .int .i64 ((e0 + 1 : Nat) : Int)) :
    Calls Tryd.prog 76 #[.int .i64 L, .slice A z.length c] w fun e w' => e = .returned (.iface 58 x) ∧ w = w' :=
  (check_any L A c z w hL hA hz).mono fun e w' ⟨he, hw⟩ => ⟨by rw [he.out, h, hx]; rfl, hw⟩

/-- '1 << letters'. -/
theorem shl_lim {L : Int} (h1 : 1 ≤ L) (h2 : L ≤ 6) : ∃ P : Int, wrap64 (2 ^ L.toNat) = P ∧ 2 ^ L.toNat = P ∧ 2 ≤ P ∧ P ≤ 64 := by
  refine ⟨_, ?_, rfl, ?_⟩
  all_goals have : L = 1 ∨ L = 2 ∨ L = 3 ∨ L = 4 ∨ L = 5 ∨ L = 6 := by omega
  all_goals rcases this with rfl | rfl | rfl | rfl | rfl | rfl <;> decide +kernel
theorem and_one (n : Int) : bits .and .i64 n 1 = n % 2 := by
  have h1 : (BitVec.ofInt 64 1).toNat = 2 ^ 1 - 1 := by decide
  have key : (BitVec.ofInt 64 n &&& BitVec.ofInt 64 1).toNat = (n % ((2 ^ 64 : Nat) : Int)).toNat % 2 ^ 1 := by
    rw [BitVec.toNat_and, BitVec.toNat_ofInt, h1, Nat.and_two_pow_sub_one_eq_mod]
  show IntKind.i64.wrap ((BitVec.ofInt 64 n &&& BitVec.ofInt 64 1).toNat : Nat) = n % 2
  rw [key, IntKind.wrap_i64]
  omega
theorem and_nat (a b : Nat) (ha : a < 9223372036854775808) (hb : b < 9223372036854775808) : bits .and .i64 (a : Int) (b : Int) = ((a &&& b : Nat) : Int) := by
  have hx : a &&& b < 2 ^ 63 := Nat.and_lt_two_pow _ (by omega)
  have h1 : (BitVec.ofInt 64 (a : Int)).toNat = a := by
    rw [BitVec.ofInt_natCast, BitVec.toNat_ofNat]; exact Nat.mod_eq_of_lt (by omega)
  have h2 : (BitVec.ofInt 64 (b : Int)).toNat = b := by
    rw [BitVec.ofInt_natCast, BitVec.toNat_ofNat]; exact Nat.mod_eq_of_lt (by omega)
  show IntKind.i64.wrap ((BitVec.ofInt 64 (a : Int) &&& BitVec.ofInt 64 (b : Int)).toNat : Int) = _
  rw [BitVec.toNat_and, h1, h2, IntKind.wrap_i64]
  omega
theorem bit_has {s a : Int} (h : 0 ≤ s) : (bits .and .i64 (s / 2 ^ a.toNat) 1 == 1) = has s a := by
  obtain ⟨n, rfl⟩ := Int.eq_ofNat_of_zero_le h
  unfold has
  rw [and_one, Int.toNat_natCast]
  have e : (n : Int) / 2 ^ a.toNat % 2 = ((n / 2 ^ a.toNat % 2 : Nat) : Int) := by
    rw [Int.natCast_emod, Int.natCast_ediv, Int.natCast_pow]; rfl
  rw [e, Bool.eq_iff_iff]
  simp
  omega

def boolOut (x : Bool × Nat) : Ending := .returned (.tuple #[.bool x.1, errV x.2])
/-! ### Less -/
def cmpv (a b : Int) : Int := if a < b then -1 else if b < a then 1 else 0
/-- What slices.Compare of two words of one length says. -/
def CmpOut (v z : List Int) (e : Ending) : Prop := ∃ c : Int, e = .returned (.int .i64 c) ∧ decide (c < 0) = lx v z
/-! ### the laws' own -/
end Go.Proofs.YtbciefeipiphiaaDoor.Wo
