/- Arenas in memory. -/
import Derived.Test.YtkphdegelhlpeaaDuelN
import Derived.Test.YtkphdegelhlpeaaDfaW
namespace Go.Proofs.Ytkphdegelhlpeaa.Du
open Go.RowKit Go.IntWalk Go.Proofs.Ytkphdegelhlpeaa.Wd Go.Proofs.Ytkphdegelhlpeaa.Wo Go.Proofs.Ytkphdegelhlpeaa.Df Go.Proofs.Ytkphdegelhlpeaa.Rc

/-! ### in memory -/
/-- A value that reads as an arena. -/
structure ArIs (w : World) (B : Nat) (O : Option Addr) (co : Nat) (A : Option Addr) (c : Nat) (F : Option Addr) (cf : Nat) (a : Ar) : Prop where
  ho : a.own.length ≤ co
  ho2 : co ≤ 9223372036854775807
  hc : a.next.length ≤ c
  hc2 : c ≤ 9223372036854775807
  hf : a.goal.length ≤ cf
  hf2 : cf ≤ 9223372036854775807
  owns : IntsAt w B O a.own
  rows : RowsAt w B A a.next
  goals : BoolsAt w B F a.goal
def ArAt (w : World) (B : Nat) (v : Value) (a : Ar) : Prop :=
  ∃ O co A c F cf, v = .agg #[.slice O a.own.length co, .slice A a.next.length c, .slice F a.goal.length cf] ∧ ArIs w B O co A c F cf a
theorem ArIs.on {w w' : World} {O A F : Option Addr} {co c cf : Nat} {a : Ar} (h : ArIs w w.heap.size O co A c F cf a) (hb : Below w.heap.size w w') : ArIs w' w'.heap.size O co A c F cf a :=
  ⟨h.ho, h.ho2, h.hc, h.hc2, h.hf, h.hf2, h.owns.on hb, h.rows.on hb, h.goals.on hb⟩
theorem ArAt.on {w w' : World} {v : Value} {a : Ar} (h : ArAt w w.heap.size v a) (hb : Below w.heap.size w w') : ArAt w' w'.heap.size v a := by
  obtain ⟨O, co, A, c, F, cf, e, h1⟩ := h
  exact ⟨O, co, A, c, F, cf, e, h1.on hb⟩
structure BoxA (w1 : World) (g : Nat) (O : Option Addr) (no co : Nat) (A : Option Addr) (n c : Nat) (F : Option Addr) (nf cf : Nat) : Prop where
  lt : g < w1.heap.size
  c0 : w1.cell? ⟨g, 0, none⟩ = some (.slice O no co)
  c1 : w1.cell? ⟨g, 1, none⟩ = some (.slice A n c)
  c2 : w1.cell? ⟨g, 2, none⟩ = some (.slice F nf cf)
theorem BoxA.on {w1 w2 : World} {g : Nat} {O : Option Addr} {no co : Nat} {A : Option Addr} {n c : Nat} {F : Option Addr} {nf cf : Nat} (h : BoxA w1 g O no co A n c F nf cf) (hb : Below w1.heap.size w1 w2) : BoxA w2 g O no co A n c F nf cf :=
  ⟨Nat.lt_of_lt_of_le h.lt hb.size, (hb.cell h.lt).trans h.c0, (hb.cell h.lt).trans h.c1, (hb.cell h.lt).trans h.c2⟩
theorem box_ar (w : World) {O A F : Option Addr} {co c cf : Nat} {a : Ar} (h : ArIs w w.heap.size O co A c F cf a) :
    ∃ w1, w1 = w.alloc (.cells #[.slice O a.own.length co, .slice A a.next.length c, .slice F a.goal.length cf] 26) ∧ Below w.heap.size w w1 ∧ BoxA w1 w.heap.size O a.own.length co A a.next.length c F a.goal.length cf ∧ ArIs w1 w1.heap.size O co A c F cf a :=
  ⟨_, rfl, below_alloc _ _, ⟨by simp, box_cell w _ _ 0, box_cell w _ _ 1, box_cell w _ _ 2⟩, h.on (below_alloc _ _)⟩
theorem ArIs.below {w w' : World} {B : Nat} {O A F : Option Addr} {co c cf : Nat} {a : Ar} (h : ArIs w B O co A c F cf a) (hb : Below B w w') : ArIs w' B O co A c F cf a :=
  ⟨h.ho, h.ho2, h.hc, h.hc2, h.hf, h.hf2, h.owns.below hb, h.rows.below hb, Cells.below h.goals hb⟩
/-- The value of a row of n. -/
abbrev rw_ (g n : Nat) : Value := .slice (some ⟨g, 0, none⟩) n n
end Go.Proofs.Ytkphdegelhlpeaa.Du
