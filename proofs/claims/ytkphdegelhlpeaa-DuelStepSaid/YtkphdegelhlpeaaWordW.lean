/- The walks of package word: Check, Only, Mirror, Sub and Less return what the plain mathematics says. -/
import Derived.Test.YtkphdegelhlpeaaProg
import Derived.Test.YtkphdegelhlpeaaDfaM
import Derived.Test.YtkphdegelhlpeaaInts
import Derived.Deep.QuietTactic
import Derived.BigQuiet
import Derived.Laws.BitsLemmas
namespace Go.Proofs.Ytkphdegelhlpeaa.Wo
open Go.RowKit Go.IntWalk Go.Proofs.Ytkphdegelhlpeaa.Wd

/-- '1 << letters'. -/
theorem shl_lim {L : Int} (h1 : 1 ≤ L) (h2 : L ≤ 6) : ∃ P : Int, wrap64 (2 ^ L.toNat) = P ∧ 2 ^ L.toNat = P ∧ 2 ≤ P ∧ P ≤ 64 := by
  refine ⟨_, ?_, rfl, ?_⟩
  all_goals have : L = 1 ∨ L = 2 ∨ L = 3 ∨ L = 4 ∨ L = 5 ∨ L = 6 := by omega
  all_goals rcases this with rfl | rfl | rfl | rfl | rfl | rfl <;> decide +kernel
theorem and_one (n : Int) : bits .and .i64 n 1 = n % 2 := by
  have h1 : (BitVec.ofInt 64 1).toNat = 2 ^ 1 - 1 := by decide
  have key : (BitVec.ofInt 64 n &&& BitVec.ofInt 64 1).toNat = (n % ((2 ^ 64 : Nat) : Int)).toNat % 2 ^ 1 := by
    rw [BitVec.toNat_and, BitVec.toNat_ofInt, h1, Nat.and_two_pow_sub_one_eq_mod]
  show IntKind.i64.wrap ((BitVec.ofInt 64 n &&& BitVec.ofInt 64 1).toNat : Nat) = n % 2
  rw [key, IntKind.wrap_i64]
  omega
theorem and_nat (a b : Nat) (ha : a < 9223372036854775808) (hb : b < 9223372036854775808) : bits .and .i64 (a : Int) (b : Int) = ((a &&& b : Nat) : Int) := by
  have hx : a &&& b < 2 ^ 63 := Nat.and_lt_two_pow _ (by omega)
  have h1 : (BitVec.ofInt 64 (a : Int)).toNat = a := by
    rw [BitVec.ofInt_natCast, BitVec.toNat_ofNat]; exact Nat.mod_eq_of_lt (by omega)
  have h2 : (BitVec.ofInt 64 (b : Int)).toNat = b := by
    rw [BitVec.ofInt_natCast, BitVec.toNat_ofNat]; exact Nat.mod_eq_of_lt (by omega)
  show IntKind.i64.wrap ((BitVec.ofInt 64 (a : Int) &&& BitVec.ofInt 64 (b : Int)).toNat : Int) = _
  rw [BitVec.toNat_and, h1, h2, IntKind.wrap_i64]
  omega
theorem bit_has {s a : Int} (h : 0 ≤ s) : (bits .and .i64 (s / 2 ^ a.toNat) 1 == 1) = has s a := by
  obtain ⟨n, rfl⟩ := Int.eq_ofNat_of_zero_le h
  unfold has
  rw [and_one, Int.toNat_natCast]
  have e : (n : Int) / 2 ^ a.toNat % 2 = ((n / 2 ^ a.toNat % 2 : Nat) : Int) := by
    rw [Int.natCast_emod, Int.natCast_ediv, Int.natCast_pow]; rfl
  rw [e, Bool.eq_iff_iff]
  simp
  omega

def boolOut (x : Bool × Nat) : Ending := .returned (.tuple #[.bool x.1, errV x.2])
/-! ### Less -/
def cmpv (a b : Int) : Int := if a < b then -1 else if b < a then 1 else 0
/-- What slices.Compare of two words of one length says. -/
def CmpOut (v z : List Int) (e : Ending) : Prop := ∃ c : Int, e = .returned (.int .i64 c) ∧ decide (c < 0) = lx v z
/-! ### the laws' own -/
end Go.Proofs.Ytkphdegelhlpeaa.Wo
