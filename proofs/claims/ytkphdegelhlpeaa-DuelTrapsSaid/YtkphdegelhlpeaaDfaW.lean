/- The walks of package dfa's checks and runs. -/
import Derived.Test.YtkphdegelhlpeaaDfaA
import Derived.Test.YtkphdegelhlpeaaWordL
import Derived.Deep.QuietTactic
import Derived.BigQuiet
namespace Go.Proofs.Ytkphdegelhlpeaa.Df
open Go.RowKit Go.IntWalk Go.Proofs.Ytkphdegelhlpeaa.Wd Go.Proofs.Ytkphdegelhlpeaa.Wo

/-- A struct laid into a block of its own. -/
theorem box_cell (w : World) (cs : Array Value) (t : TypeId) (j : Nat) : (w.alloc (.cells cs t)).cell? ⟨w.heap.size, j, none⟩ = cs[j]? := cell_of_row _ _ j cs t _ (heap_alloc_new w _)
theorem below_alloc (w : World) (o : Obj) : Below w.heap.size w (w.alloc o) := (Below.refl _ _).alloc (Nat.le_refl _) o
/-- The block in which an automaton that came in lies. -/
structure Boxed (w1 : World) (g : Nat) (L s : Int) (A : Option Addr) (n c : Nat) (F : Option Addr) (nf cf : Nat) : Prop where
  lt : g < w1.heap.size
  c0 : w1.cell? ⟨g, 0, none⟩ = some (.int .i64 L)
  c1 : w1.cell? ⟨g, 1, none⟩ = some (.int .i64 s)
  c2 : w1.cell? ⟨g, 2, none⟩ = some (.slice A n c)
  c3 : w1.cell? ⟨g, 3, none⟩ = some (.slice F nf cf)
theorem boxed_new (w : World) (L s : Int) (A : Option Addr) (n c : Nat) (F : Option Addr) (nf cf : Nat) (t : TypeId) :
    Boxed (w.alloc (.cells #[.int .i64 L, .int .i64 s, .slice A n c, .slice F nf cf] t)) w.heap.size L s A n c F nf cf :=
  ⟨by simp, box_cell w _ t 0, box_cell w _ t 1, box_cell w _ t 2, box_cell w _ t 3⟩
theorem Boxed.on {w1 w2 : World} {g : Nat} {L s : Int} {A : Option Addr} {n c : Nat} {F : Option Addr} {nf cf : Nat} (h : Boxed w1 g L s A n c F nf cf) (hb : Below w1.heap.size w1 w2) : Boxed w2 g L s A n c F nf cf :=
  ⟨Nat.lt_of_lt_of_le h.lt hb.size, (hb.cell h.lt).trans h.c0, (hb.cell h.lt).trans h.c1, (hb.cell h.lt).trans h.c2, (hb.cell h.lt).trans h.c3⟩
theorem int_eq {a b : Int} (h : a = b) : (a == b) = true := by rw [h]; exact beq_self_eq_true _
theorem int_ne {a b : Int} (h : a ≠ b) : (a == b) = false := beq_eq_false_iff_ne.2 h

theorem all_take_succ {α : Type} {l : List α} {P : α → Prop} {k : Nat} (h : ∀ r ∈ l.take k, P r) (hk : k < l.length) (hp : P l[k]) : ∀ r ∈ l.take (k + 1), P r := by
  rw [← List.take_append_getElem hk]
  intro r hr
  rcases List.mem_append.1 hr with hr | hr
  · exact h r hr
  · simp at hr; subst hr; exact hp
theorem all_take_end {α : Type} {l : List α} {P : α → Prop} {k : Nat} (h : ∀ r ∈ l.take k, P r) (hk : l.length ≤ k) : ∀ r ∈ l, P r := by
  rwa [List.take_of_length_le hk] at h
/-! ### Check -/
/-! ### Run and Accepts -/
/-- The error of a run, and its answer. -/
def runErr (d : Aut) (q : Int) (z : List Int) : Nat := if dchk d ≠ 0 then dchk d else if chk d.L z ≠ 0 then chk d.L z else if isSt d q then 0 else 1
def runOut (d : Aut) (q : Int) (z : List Int) : Int := if runErr d q z = 0 then ((runA d q.toNat z : Nat) : Int) else 0
def accErr (d : Aut) (z : List Int) : Nat := if dchk d ≠ 0 then dchk d else chk d.L z
def accOut (d : Aut) (z : List Int) : Bool := if accErr d z = 0 then accA d z else false
theorem runErr_zero {d : Aut} {q : Int} {z : List Int} (h1 : dchk d = 0) (h2 : chk d.L z = 0) (h3 : isSt d q) : runErr d q z = 0 := by
  unfold runErr; rw [if_neg (by omega), if_neg (by omega), if_pos h3]
theorem fine_word {L : Int} {z : List Int} (h : Fine L z) : Word L z := h.2.2
/-- An error's number as an interface value. -/
abbrev errI (x : Int) : Value := .iface 40 (.int .i64 x)
theorem errV_succ (n : Nat) : errV (n + 1) = errI ((n + 1 : Nat) : Int) := rfl
theorem runErr_start (d : Aut) (z : List Int) : runErr d d.s z = accErr d z := by
  unfold runErr accErr
  by_cases h : dchk d = 0
  · have h' : ¬ dchk d ≠ 0 := fun k => k h
    rw [if_neg h', if_neg h']
    by_cases h2 : chk d.L z = 0
    · rw [if_neg (fun k => k h2), if_pos (dchk_iff.1 h).st, h2]
    · rw [if_pos h2]
  · rw [if_pos h, if_pos h]
theorem accErr_good {d : Aut} {z : List Int} (h : accErr d z = 0) : Good d ∧ Fine d.L z := by
  unfold accErr at h
  split at h
  · omega
  · exact ⟨dchk_iff.1 (by omega), chk_iff.1 h⟩
end Go.Proofs.Ytkphdegelhlpeaa.Df
