/- The walks of package nfa: Check, sets as numbers, Accepts. -/
import Derived.Test.YtciopfiddfmckaaDoorNfaA
import Derived.Laws.Bits64b
import Derived.Deep.RegionHeld3
import Derived.Handy
namespace Go.Proofs.YtciopfiddfmckaaDoor.Nf
open Go.RowKit Go.IntWalk Go.Proofs.YtciopfiddfmckaaDoor.Wd Go.Proofs.YtciopfiddfmckaaDoor.Wo Go.Proofs.YtciopfiddfmckaaDoor.Df

/-- The block in which such an automaton that came in lies. -/
structure BoxN (w1 : World) (g : Nat) (L n : Int) (A : Option Addr) (k c : Nat) (M : Option Addr) (km cm : Nat) (F : Option Addr) (kf cf : Nat) : Prop where
  lt : g < w1.heap.size
  c0 : w1.cell? ⟨g, 0, none⟩ = some (.int .i64 L)
  c1 : w1.cell? ⟨g, 1, none⟩ = some (.int .i64 n)
  c2 : w1.cell? ⟨g, 2, none⟩ = some (.slice A k c)
  c3 : w1.cell? ⟨g, 3, none⟩ = some (.slice M km cm)
  c4 : w1.cell? ⟨g, 4, none⟩ = some (.slice F kf cf)
theorem BoxN.on {w1 w2 : World} {g : Nat} {L n : Int} {A M F : Option Addr} {k c km cm kf cf : Nat} (h : BoxN w1 g L n A k c M km cm F kf cf) (hb : Below w1.heap.size w1 w2) : BoxN w2 g L n A k c M km cm F kf cf :=
  ⟨Nat.lt_of_lt_of_le h.lt hb.size, (hb.cell h.lt).trans h.c0, (hb.cell h.lt).trans h.c1, (hb.cell h.lt).trans h.c2, (hb.cell h.lt).trans h.c3, (hb.cell h.lt).trans h.c4⟩
/-! ### slices.ContainsFunc at ints -/
/-! ### Check -/
theorem nchk_range {a : Nfa} (h : (a.L < 1 ∨ 6 < a.L) ∨ (a.n < 1 ∨ 40 < a.n)) : nchk a = 1 := by unfold nchk; rw [if_pos h]
theorem nchk_len {a : Nfa} (h : ¬ ((a.L < 1 ∨ 6 < a.L) ∨ (a.n < 1 ∨ 40 < a.n))) (h2 : (40 < a.st.length ∨ 40 < a.fin.length) ∨ 240 < a.mv.length) : nchk a = 4 := by unfold nchk; rw [if_neg h, if_pos h2]
theorem nchk_bad {a : Nfa} (h : ¬ ((a.L < 1 ∨ 6 < a.L) ∨ (a.n < 1 ∨ 40 < a.n))) (h2 : ¬ ((40 < a.st.length ∨ 40 < a.fin.length) ∨ 240 < a.mv.length)) (h3 : ¬ ((∀ x ∈ a.st, isQ a x) ∧ (∀ x ∈ a.fin, isQ a x) ∧ ∀ m ∈ a.mv, isMv a m)) : nchk a = 1 := by
  unfold nchk; rw [if_neg h, if_neg h2, if_neg h3]
theorem nchk_ok {a : Nfa} (h : ¬ ((a.L < 1 ∨ 6 < a.L) ∨ (a.n < 1 ∨ 40 < a.n))) (h2 : ¬ ((40 < a.st.length ∨ 40 < a.fin.length) ∨ 240 < a.mv.length)) (h3 : (∀ x ∈ a.st, isQ a x) ∧ (∀ x ∈ a.fin, isQ a x) ∧ ∀ m ∈ a.mv, isMv a m) : nchk a = 0 := by
  unfold nchk; rw [if_neg h, if_neg h2, if_pos h3]
theorem any_none {a : Nfa} {l : List Int} {n : Int} (e : a.n = n) : (l.any fun x => !decide (0 ≤ x ∧ x < n)) = false ↔ ∀ x ∈ l, isQ a x := by
  subst e
  rw [List.any_eq_false]
  unfold isQ
  simp
end Go.Proofs.YtciopfiddfmckaaDoor.Nf
