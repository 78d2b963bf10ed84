/- Plain mathematics of package safe: automata with other final states, automata that stop; beginnings, rests, always, ever; the class. -/
import Derived.Test.YtbciefeipiphiaaDoorDfaM
namespace Go.Proofs.YtbciefeipiphiaaDoor.Sa
open Go.Proofs.YtbciefeipiphiaaDoor.Df Go.Proofs.YtbciefeipiphiaaDoor.Wo Go.Proofs.YtbciefeipiphiaaDoor.Rc Go.Proofs.YtbciefeipiphiaaDoor.Sm

/-- Other states are final, by whether they were and by whether they are alive. -/
def judge (f : Bool → Bool → Bool) (d : Aut) : Aut := ⟨d.L, d.s, d.next, (List.range d.next.length).map fun s => f (finA d s) (isAlive d s)⟩
def preF : Bool → Bool → Bool := fun _ a => a
def restF : Bool → Bool → Bool := fun f a => f || !a
abbrev preA : Aut → Aut := judge preF
abbrev restA : Aut → Aut := judge restF

theorem judge_good {f : Bool → Bool → Bool} {d : Aut} (g : Good d) : Good (judge f d) := ⟨g.l1, g.l6, g.n1, g.n40, by simp [judge], g.row, g.st, g.go⟩
theorem judge_fin {f : Bool → Bool → Bool} {d : Aut} {q : Nat} (hq : q < d.next.length) : finA (judge f d) q = f (finA d q) (isAlive d q) := by
  unfold finA judge; simp only; rw [List.getElem?_map, List.getElem?_range hq]; rfl
theorem judge_acc {f : Bool → Bool → Bool} {d : Aut} (g : Good d) {w : List Int} (hw : Word d.L w) : accA (judge f d) w = f (accA d w) (isAlive d (runA d d.s.toNat w)) :=
  judge_fin (g.run_lt hw g.s_lt)
theorem fin_alive {d : Aut} (g : Good d) {s : Nat} (hs : s < d.next.length) (h : finA d s = true) : isAlive d s = true :=
  (isAlive_iff g hs).2 ⟨[], fun a ha => by simp at ha, h⟩
theorem word_append {L : Int} {v u : List Int} (hv : Word L v) (hu : Word L u) : Word L (v ++ u) := fun a ha => by
  rcases List.mem_append.1 ha with ha | ha
  · exact hv a ha
  · exact hu a ha
theorem word_take {L : Int} {v : List Int} (hv : Word L v) (k : Nat) : Word L (v.take k) := fun a ha => hv a (List.mem_of_mem_take ha)
theorem word_drop {L : Int} {v : List Int} (hv : Word L v) (k : Nat) : Word L (v.drop k) := fun a ha => hv a (List.mem_of_mem_drop ha)
theorem alive_word {d : Aut} (g : Good d) {w : List Int} (hw : Word d.L w) : isAlive d (runA d d.s.toNat w) = true ↔ ∃ u, Word d.L u ∧ accA d (w ++ u) = true := by
  rw [isAlive_iff g (g.run_lt hw g.s_lt)]
  unfold accA
  simp only [runA_append]
/-- Both together. -/
theorem parts {d : Aut} (g : Good d) {w : List Int} (hw : Word d.L w) : accA d w = (accA (preA d) w && accA (restA d) w) := by
  rw [judge_acc g hw, judge_acc g hw]
  unfold preF restF
  have := fin_alive g (g.run_lt hw g.s_lt)
  have h1 : accA d w = true → isAlive d (runA d d.s.toNat w) = true := this
  clear this
  generalize accA d w = a at *
  generalize isAlive d (runA d d.s.toNat w) = b at *
  rcases a with _ | _ <;> rcases b with _ | _ <;> simp_all

/-! ### automata that stop -/
theorem next_at {d : Aut} {s : Nat} (hs : s < d.next.length) : d.next[s]?.getD [] = d.next[s] := by rw [List.getElem?_eq_getElem hs]; rfl
/-! ### the class -/
/-- A state x, and behind it a state y. -/
def Pair (d : Aut) (x y : Bool) (s t : Nat) : Bool := isReached d d.s.toNat s && isReached d s t && (finA d s == x) && (finA d t == y)
/-- Is there such a pair among the first s rows and the first t places of the next one? -/
def seen (d : Aut) (x y : Bool) (s t : Nat) : Bool := ((List.range s).any fun i => (List.range d.next.length).any fun j => Pair d x y i j) || (List.range t).any fun j => Pair d x y s j
/-! ### of two -/
/-! ### an automaton with at most two of the letter 1 -/
end Go.Proofs.YtbciefeipiphiaaDoor.Sa
