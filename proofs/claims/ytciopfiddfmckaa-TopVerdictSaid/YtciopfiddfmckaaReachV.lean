/- The contract of Count as the laws' walks use it, and an automaton that begins elsewhere. -/
import Derived.Test.YtciopfiddfmckaaReachL
import Derived.Test.YtciopfiddfmckaaDfaV
import Derived.Test.YtciopfiddfmckaaDfaR
namespace Go.Proofs.Ytciopfiddfmckaa.Rc
open Go.RowKit Go.IntWalk Go.Proofs.Ytciopfiddfmckaa.Wd Go.Proofs.Ytciopfiddfmckaa.Wo Go.Proofs.Ytciopfiddfmckaa.Df

/-- The same automaton from another start. -/
def fromA (d : Aut) (q : Nat) : Aut := ⟨d.L, (q : Int), d.next, d.fin⟩
theorem fromA_cnt (d : Aut) (q k t : Nat) : cnt (fromA d q) k t = cnt d k t := by
  induction k generalizing t with
  | zero => rfl
  | succ k ih =>
    show ((List.range d.L.toNat).map fun a => cnt (fromA d q) k (Df.step (fromA d q) t a)).sum = ((List.range d.L.toNat).map fun a => cnt d k (Df.step d t a)).sum
    exact sum_congr fun a _ => ih _
theorem fromA_good {d : Aut} (g : Df.Good d) {q : Nat} (hq : q < d.next.length) : Df.Good (fromA d q) :=
  ⟨g.l1, g.l6, g.n1, g.n40, g.fin, g.row, ⟨by show (0 : Int) ≤ (q : Int); omega, by show (q : Int) < (d.next.length : Int); omega⟩, g.go⟩
theorem fromA_at {w : World} {B : Nat} {L s : Int} {A : Option Addr} {n c : Nat} {F : Option Addr} {m cf : Nat} {d : Aut} (h : DfaAt w B (.agg #[.int .i64 L, .int .i64 s, .slice A n c, .slice F m cf]) d) {q : Nat} (hq : q ≤ 40) :
    DfaAt w B (.agg #[.int .i64 L, .int .i64 (q : Int), .slice A n c, .slice F m cf]) (fromA d q) := by
  obtain ⟨L', s', A', c', F', cf', e, h1⟩ := h
  simp only [Value.agg.injEq, Array.mk.injEq, List.cons.injEq, Value.int.injEq, Value.slice.injEq, true_and, and_true] at e
  obtain ⟨rfl, rfl, ⟨rfl, rfl, rfl⟩, rfl, rfl, rfl⟩ := e
  exact ⟨_, _, _, _, _, _, rfl, h1.eL, rfl, h1.hL, ⟨by omega, by omega⟩, h1.hc, h1.hc2, h1.hf, h1.hf2, h1.rows, h1.fins⟩
theorem at_step {w : World} {B : Nat} {L s : Int} {A : Option Addr} {n c : Nat} {F : Option Addr} {m cf : Nat} {d : Aut} (h : DfaAt w B (.agg #[.int .i64 L, .int .i64 s, .slice A n c, .slice F m cf]) d) (g : Df.Good d) {q i : Nat} (hq : q < d.next.length) (hi : (i : Int) < d.L) :
    ∃ ad ar m cr, A = some ad ∧ ad.block < B ∧ w.cell? (ad.add q) = some (.slice (some ar) m cr) ∧ i < m ∧ ar.block < B ∧ w.cell? (ar.add i) = some (.int .i64 ((Df.step d q i : Nat) : Int)) := by
  obtain ⟨L', s', A', c', F', cf', e, h1⟩ := h
  simp only [Value.agg.injEq, Array.mk.injEq, List.cons.injEq, Value.int.injEq, Value.slice.injEq, true_and, and_true] at e
  obtain ⟨rfl, rfl, ⟨rfl, rfl, rfl⟩, rfl, rfl, rfl⟩ := e
  exact h1.step_at g hq hi
theorem fine_nil {L : Int} (h1 : 1 ≤ L) (h6 : L ≤ 6) : Fine L [] := by
  refine ⟨?_, ?_, ?_⟩
  all_goals first | exact ⟨by omega, by omega⟩ | (intro a ha; simp at ha) | simp
end Go.Proofs.Ytciopfiddfmckaa.Rc
