/- Plain mathematics of package safe: automata with other final states, automata that stop; beginnings, rests, always, ever; the class. Plain mathematics of package verdict: the verdict of a state, what is settled, the first word that settles it; what can be watched. Plain mathematics of package gate: letters that are offered, what passes. Plain mathematics of the whole: gates and verdicts, gates and formulas that look back. -/
import Derived.Test.YtciopfiddfmckaaDoorDfaM

namespace Go.Proofs.YtciopfiddfmckaaDoor.Sa
open Go.Proofs.YtciopfiddfmckaaDoor.Df Go.Proofs.YtciopfiddfmckaaDoor.Wo Go.Proofs.YtciopfiddfmckaaDoor.Rc Go.Proofs.YtciopfiddfmckaaDoor.Sm

/-- Other states are final, by whether they were and by whether they are alive. -/
def judge (f : Bool → Bool → Bool) (d : Aut) : Aut := ⟨d.L, d.s, d.next, (List.range d.next.length).map fun s => f (finA d s) (isAlive d s)⟩
/-- All letters lead back from the states whose flag is b. -/
def stopRow (b : Bool) (d : Aut) (s : Nat) (r : List Int) : List Int := if finA d s = b then List.replicate r.length (s : Int) else r
def stopA (b : Bool) (d : Aut) : Aut := ⟨d.L, d.s, (List.range d.next.length).map fun s => stopRow b d s (d.next[s]?.getD []), d.fin⟩
def preF : Bool → Bool → Bool := fun _ a => a
def restF : Bool → Bool → Bool := fun f a => f || !a
abbrev preA : Aut → Aut := judge preF
abbrev restA : Aut → Aut := judge restF

theorem judge_good {f : Bool → Bool → Bool} {d : Aut} (g : Good d) : Good (judge f d) := ⟨g.l1, g.l6, g.n1, g.n40, by simp [judge], g.row, g.st, g.go⟩
theorem judge_fin {f : Bool → Bool → Bool} {d : Aut} {q : Nat} (hq : q < d.next.length) : finA (judge f d) q = f (finA d q) (isAlive d q) := by
  unfold finA judge; simp only; rw [List.getElem?_map, List.getElem?_range hq]; rfl
theorem judge_acc {f : Bool → Bool → Bool} {d : Aut} (g : Good d) {w : List Int} (hw : Word d.L w) : accA (judge f d) w = f (accA d w) (isAlive d (runA d d.s.toNat w)) :=
  judge_fin (g.run_lt hw g.s_lt)
theorem fin_alive {d : Aut} (g : Good d) {s : Nat} (hs : s < d.next.length) (h : finA d s = true) : isAlive d s = true :=
  (isAlive_iff g hs).2 ⟨[], fun a ha => by simp at ha, h⟩
theorem word_append {L : Int} {v u : List Int} (hv : Word L v) (hu : Word L u) : Word L (v ++ u) := fun a ha => by
  rcases List.mem_append.1 ha with ha | ha
  · exact hv a ha
  · exact hu a ha
theorem word_take {L : Int} {v : List Int} (hv : Word L v) (k : Nat) : Word L (v.take k) := fun a ha => hv a (List.mem_of_mem_take ha)
theorem word_drop {L : Int} {v : List Int} (hv : Word L v) (k : Nat) : Word L (v.drop k) := fun a ha => hv a (List.mem_of_mem_drop ha)
theorem alive_word {d : Aut} (g : Good d) {w : List Int} (hw : Word d.L w) : isAlive d (runA d d.s.toNat w) = true ↔ ∃ u, Word d.L u ∧ accA d (w ++ u) = true := by
  rw [isAlive_iff g (g.run_lt hw g.s_lt)]
  unfold accA
  simp only [runA_append]
/-- The beginnings of what is accepted. -/
theorem pre_acc {d : Aut} (g : Good d) {w : List Int} (hw : Word d.L w) : accA (preA d) w = true ↔ ∃ u, Word d.L u ∧ accA d (w ++ u) = true := by
  rw [judge_acc g hw]; exact alive_word g hw
theorem acc_pre {d : Aut} (g : Good d) {w : List Int} (hw : Word d.L w) (h : accA d w = true) : accA (preA d) w = true :=
  (pre_acc g hw).2 ⟨[], fun a ha => by simp at ha, by rw [List.append_nil]; exact h⟩
/-- Both together. -/
theorem parts {d : Aut} (g : Good d) {w : List Int} (hw : Word d.L w) : accA d w = (accA (preA d) w && accA (restA d) w) := by
  rw [judge_acc g hw, judge_acc g hw]
  unfold preF restF
  have := fin_alive g (g.run_lt hw g.s_lt)
  have h1 : accA d w = true → isAlive d (runA d d.s.toNat w) = true := this
  clear this
  generalize accA d w = a at *
  generalize isAlive d (runA d d.s.toNat w) = b at *
  rcases a with _ | _ <;> rcases b with _ | _ <;> simp_all

/-! ### automata that stop -/
theorem next_at {d : Aut} {s : Nat} (hs : s < d.next.length) : d.next[s]?.getD [] = d.next[s] := by rw [List.getElem?_eq_getElem hs]; rfl
theorem stop_len (b : Bool) (d : Aut) : (stopA b d).next.length = d.next.length := by simp [stopA]
theorem stop_row (b : Bool) {d : Aut} {s : Nat} (hs : s < d.next.length) : (stopA b d).next[s]? = some (stopRow b d s d.next[s]) := by
  unfold stopA; simp only; rw [List.getElem?_map, List.getElem?_range hs, Option.map_some, next_at hs]
theorem stop_good {b : Bool} {d : Aut} (g : Good d) : Good (stopA b d) := by
  refine ⟨g.l1, g.l6, by rw [stop_len]; exact g.n1, by rw [stop_len]; exact g.n40, by rw [stop_len]; exact g.fin, fun r hr => ?_, ?_, fun r hr x hx => ?_⟩
  · obtain ⟨s, hs, rfl⟩ := List.mem_map.1 hr
    have hs := List.mem_range.1 hs
    rw [next_at hs]
    have := g.row _ (List.getElem_mem hs)
    unfold stopRow
    split
    · rw [List.length_replicate]; exact this
    · exact this
  · have := g.st
    unfold isSt at *
    rw [stop_len]; exact this
  · obtain ⟨s, hs, rfl⟩ := List.mem_map.1 hr
    have hs := List.mem_range.1 hs
    rw [next_at hs] at hx
    unfold isSt
    rw [stop_len]
    unfold stopRow at hx
    split at hx
    · have := List.eq_of_mem_replicate hx
      omega
    · exact g.go _ (List.getElem_mem hs) x hx
theorem stop_step {b : Bool} {d : Aut} (g : Good d) {q a : Nat} (hq : q < d.next.length) (ha : (a : Int) < d.L) : step (stopA b d) q a = if finA d q = b then q else step d q a := by
  have hr := g.row _ (List.getElem_mem hq)
  unfold step
  rw [stop_row b hq, List.getElem?_eq_getElem hq]
  simp only [Option.getD_some]
  unfold stopRow
  split
  · rw [List.getElem?_replicate, if_pos (by omega)]; simp
  · rfl
/-- It stops where the flag is b at some beginning. -/
theorem stop_run {b : Bool} {d : Aut} (g : Good d) : ∀ (w : List Int) {q : Nat}, Word d.L w → q < d.next.length →
    (finA d (runA (stopA b d) q w) = b ↔ ∃ k, k ≤ w.length ∧ finA d (runA d q (w.take k)) = b)
  | [], q, _, _ => ⟨fun h => ⟨0, by simp, h⟩, fun ⟨k, _, h⟩ => by rw [List.take_nil] at h; exact h⟩
  | a :: w, q, hw, hq => by
    have ha := hw a List.mem_cons_self
    have hw' : Word d.L w := fun x hx => hw x (List.mem_cons_of_mem _ hx)
    have hs : runA (stopA b d) q (a :: w) = runA (stopA b d) (step (stopA b d) q a.toNat) w := rfl
    rw [hs, stop_step g hq (by omega)]
    by_cases hf : finA d q = b
    · rw [if_pos hf]
      refine ⟨fun _ => ⟨0, by omega, hf⟩, fun _ => ?_⟩
      exact (stop_run g w hw' hq).2 ⟨0, by omega, hf⟩
    · rw [if_neg hf, stop_run g w hw' (g.step_lt hq (by omega))]
      constructor
      · rintro ⟨k, hk, h⟩
        exact ⟨k + 1, by simpa using hk, h⟩
      · rintro ⟨k, hk, h⟩
        rcases k with _ | k
        · exact absurd h hf
        · exact ⟨k, by simpa using hk, h⟩
def allB (d : Aut) (w : List Int) (n : Nat) : Bool := (List.range n).all fun k => accA d (w.take k)
theorem allB_succ (d : Aut) (w : List Int) (n : Nat) : allB d w (n + 1) = (allB d w n && accA d (w.take n)) := by unfold allB; rw [List.range_succ, List.all_append]; simp
theorem always_acc {d : Aut} (g : Good d) {w : List Int} (hw : Word d.L w) : accA (stopA false d) w = true ↔ ∀ k, k ≤ w.length → accA d (w.take k) = true := by
  have h := stop_run (b := false) g w hw g.s_lt
  constructor
  · intro h1 k hk
    rcases h2 : accA d (w.take k) with _ | _
    · have h3 : accA (stopA false d) w = false := h.2 ⟨k, hk, h2⟩
      rw [h3] at h1; cases h1
    · rfl
  · intro h1
    rcases h2 : accA (stopA false d) w with _ | _
    · obtain ⟨k, hk, h3⟩ := h.1 h2
      have := h1 k hk
      have h4 : accA d (w.take k) = false := h3
      rw [h4] at this; cases this
    · rfl
theorem always_all {d : Aut} (g : Good d) {w : List Int} (hw : Word d.L w) : accA (stopA false d) w = allB d w (w.length + 1) := by
  refine Bool.eq_iff_iff.2 ?_
  rw [always_acc g hw]
  unfold allB
  rw [List.all_eq_true]
  constructor
  · intro h k hk; exact h k (by have := List.mem_range.1 hk; omega)
  · intro h k hk; exact h k (List.mem_range.2 (by omega))
/-! ### the class -/
/-- All beginnings of what is accepted are; all that goes on behind it is. -/
def Begun (d : Aut) : Prop := ∀ v u, Word d.L v → Word d.L u → accA d (v ++ u) = true → accA d v = true
/-- The same words. -/
def Kin (a b : Aut) : Prop := ∀ w, Word a.L w → accA a w = accA b w
theorem kin_alike {a b : Aut} : Alike a b a.s.toNat b.s.toNat ↔ Kin a b := Iff.rfl
theorem kin_pre {d : Aut} (g : Good d) : Kin d (preA d) ↔ Begun d := by
  constructor
  · intro h v u hv hu ha
    rw [h v hv]
    exact (pre_acc g hv).2 ⟨u, hu, ha⟩
  · intro h w hw
    refine Bool.eq_iff_iff.2 ⟨acc_pre g hw, fun h2 => ?_⟩
    obtain ⟨u, hu, h3⟩ := (pre_acc g hw).1 h2
    exact h w u hw hu h3
theorem good2_judge {f : Bool → Bool → Bool} {d : Aut} (g : Good d) : Good2 d (judge f d) := ⟨g, judge_good g, rfl⟩
theorem good2_stop {b : Bool} {d : Aut} (g : Good d) : Good2 d (stopA b d) := ⟨g, stop_good g, rfl⟩
/-- By the search for a word that tells them apart. -/
def same0 (a b : Aut) : Bool := (diffW a b a.s.toNat b.s.toNat).isNone
theorem same0_iff {a b : Aut} (g : Good2 a b) : same0 a b = true ↔ Kin a b := by
  unfold same0
  rw [Option.isNone_iff_eq_none, diffW_none g g.ga.s_lt g.gb.s_lt]
  exact kin_alike
def begunB (d : Aut) : Bool := same0 d (preA d)
def goesB (d : Aut) : Bool := same0 d (stopA true d)
theorem begunB_iff {d : Aut} (g : Good d) : begunB d = true ↔ Begun d := (same0_iff (good2_judge g)).trans (kin_pre g)
/-- The class, as a number. -/
def clsN (x y : Bool) : Nat := (if x then 1 else 0) + (if y then 2 else 0)
def classA (d : Aut) : Nat := clsN (begunB d) (goesB d)
/-- A state x, and behind it a state y. -/
def Pair (d : Aut) (x y : Bool) (s t : Nat) : Bool := isReached d d.s.toNat s && isReached d s t && (finA d s == x) && (finA d t == y)
/-- Is there such a pair among the first s rows and the first t places of the next one? -/
def seen (d : Aut) (x y : Bool) (s t : Nat) : Bool := ((List.range s).any fun i => (List.range d.next.length).any fun j => Pair d x y i j) || (List.range t).any fun j => Pair d x y s j
theorem class_le (d : Aut) : classA d ≤ 3 := by unfold classA clsN; split <;> split <;> omega
theorem class_odd (d : Aut) : (classA d % 2 = 1) ↔ begunB d = true := by unfold classA clsN; rcases begunB d with _ | _ <;> rcases goesB d with _ | _ <;> decide
/-! ### of two -/
/-! ### an automaton with at most two of the letter 1 -/
end Go.Proofs.YtciopfiddfmckaaDoor.Sa

namespace Go.Proofs.YtciopfiddfmckaaDoor.Ve
open Go.Proofs.YtciopfiddfmckaaDoor.Df Go.Proofs.YtciopfiddfmckaaDoor.Wo Go.Proofs.YtciopfiddfmckaaDoor.Rc Go.Proofs.YtciopfiddfmckaaDoor.Sm Go.Proofs.YtciopfiddfmckaaDoor.Sa

/-- The verdict by two bools and the state's own: is something accepted behind it, is something not? -/
def verN (yes no fin : Bool) : Nat := if yes then (if no then (if fin then 2 else 1) else 3) else 0
def verd (d : Aut) (s : Nat) : Nat := verN (isAlive d s) (isAlive (notA d) s) (finA d s)
def isSet (n : Nat) : Bool := n == 0 || n == 3
def settled (d : Aut) (s : Nat) : Bool := isSet (verd d s)
/-! ### the first word that settles it -/
end Go.Proofs.YtciopfiddfmckaaDoor.Ve

namespace Go.Proofs.YtciopfiddfmckaaDoor.Ga
open Go.Proofs.YtciopfiddfmckaaDoor.Df Go.Proofs.YtciopfiddfmckaaDoor.Wo Go.Proofs.YtciopfiddfmckaaDoor.Rc Go.Proofs.YtciopfiddfmckaaDoor.Sm Go.Proofs.YtciopfiddfmckaaDoor.Sa

/-- A gate: the state behind what has passed, what has passed, is it shut? -/
structure Gt where
  s : Nat
  out : List Int
  shut : Bool
def isL (d : Aut) (a : Int) : Bool := decide (0 ≤ a) && decide (a < d.L)
/-- A letter is offered: the error, does it pass, and the gate then. -/
def offer (d : Aut) (g : Gt) (a : Int) : Nat × Bool × Gt :=
  if isL d a = false then (1, false, g) else if g.shut = true then (0, false, g) else if 80 ≤ g.out.length then (4, false, g) else
    if finA d (step d g.s a.toNat) = true then (0, true, ⟨step d g.s a.toNat, g.out ++ [a], false⟩) else (0, false, ⟨g.s, g.out, true⟩)
def offers (d : Aut) (g : Gt) (l : List Int) : Gt := l.foldl (fun g a => (offer d g a).2.2) g
def gate0 (d : Aut) : Gt := ⟨d.s.toNat, [], false⟩
/-- What is wrong with an automaton for a gate. -/
def gchk (d : Aut) : Nat := if dchk d ≠ 0 then dchk d else if classA d % 2 = 0 then 3 else if accA d [] = false then 8 else 0
structure GGood (d : Aut) : Prop where
  good : Good d
  safe : Begun d
  empty : accA d [] = true
theorem gchk_iff {d : Aut} : gchk d = 0 ↔ GGood d := by
  unfold gchk
  constructor
  · intro h
    split at h
    · omega
    rename_i h1
    have g := dchk_iff.1 (Decidable.not_not.1 h1)
    split at h
    · omega
    rename_i h2
    split at h
    · omega
    rename_i h3
    exact ⟨g, (begunB_iff g).1 ((class_odd d).1 (by omega)), by simpa using h3⟩
  · rintro ⟨g, hb, he⟩
    rw [if_neg (fun h => h (dchk_iff.2 g)), if_neg (by have := (class_odd d).2 ((begunB_iff g).2 hb); omega), if_neg (by rw [he]; decide)]
/-- The gate is as it should be. -/
structure Gok (d : Aut) (g : Gt) : Prop where
  word : Word d.L g.out
  st : g.s = runA d d.s.toNat g.out
  acc : accA d g.out = true
  len : g.out.length ≤ 80
theorem gok_start {d : Aut} (h : GGood d) : Gok d (gate0 d) := ⟨fun a ha => by simp [gate0] at ha, rfl, h.empty, by simp [gate0]⟩
theorem isL_iff {d : Aut} {a : Int} : isL d a = true ↔ 0 ≤ a ∧ a < d.L := by unfold isL; simp
theorem word_one {L a : Int} {w : List Int} (hw : Word L w) (h0 : 0 ≤ a) (h1 : a < L) : Word L (w ++ [a]) := fun x hx => by
  rcases List.mem_append.1 hx with hx | hx
  · exact hw x hx
  · simp at hx; subst hx; exact ⟨h0, h1⟩
theorem offer_bad {d : Aut} {g : Gt} {a : Int} (h : isL d a = false) : offer d g a = (1, false, g) := if_pos h
theorem offer_shut {d : Aut} {g : Gt} {a : Int} (h : isL d a = true) (hs : g.shut = true) : offer d g a = (0, false, g) := by unfold offer; rw [if_neg (by rw [h]; decide), if_pos hs]
theorem offer_full {d : Aut} {g : Gt} {a : Int} (h : isL d a = true) (hs : g.shut = false) (hl : 80 ≤ g.out.length) : offer d g a = (4, false, g) := by unfold offer; rw [if_neg (by rw [h]; decide), if_neg (by rw [hs]; decide), if_pos hl]
theorem offer_pass {d : Aut} {g : Gt} {a : Int} (h : isL d a = true) (hs : g.shut = false) (hl : g.out.length < 80) (hf : finA d (step d g.s a.toNat) = true) : offer d g a = (0, true, ⟨step d g.s a.toNat, g.out ++ [a], false⟩) := by
  unfold offer; rw [if_neg (by rw [h]; decide), if_neg (by rw [hs]; decide), if_neg (by omega), if_pos hf]
theorem offer_stop {d : Aut} {g : Gt} {a : Int} (h : isL d a = true) (hs : g.shut = false) (hl : g.out.length < 80) (hf : finA d (step d g.s a.toNat) = false) : offer d g a = (0, false, ⟨g.s, g.out, true⟩) := by
  unfold offer; rw [if_neg (by rw [h]; decide), if_neg (by rw [hs]; decide), if_neg (by omega), if_neg (by rw [hf]; decide)]
/-- The five ways. -/
theorem offer_ways (d : Aut) (g : Gt) (a : Int) : (isL d a = false ∧ offer d g a = (1, false, g)) ∨ (isL d a = true ∧ g.shut = true ∧ offer d g a = (0, false, g)) ∨ (isL d a = true ∧ g.shut = false ∧ 80 ≤ g.out.length ∧ offer d g a = (4, false, g)) ∨
    (isL d a = true ∧ g.shut = false ∧ g.out.length < 80 ∧ finA d (step d g.s a.toNat) = true ∧ offer d g a = (0, true, ⟨step d g.s a.toNat, g.out ++ [a], false⟩)) ∨
    (isL d a = true ∧ g.shut = false ∧ g.out.length < 80 ∧ finA d (step d g.s a.toNat) = false ∧ offer d g a = (0, false, ⟨g.s, g.out, true⟩)) := by
  rcases h : isL d a with _ | _
  · exact .inl ⟨rfl, offer_bad h⟩
  · rcases hs : g.shut with _ | _
    · by_cases hl : 80 ≤ g.out.length
      · exact .inr (.inr (.inl ⟨rfl, rfl, hl, offer_full h hs hl⟩))
      · rcases hf : finA d (step d g.s a.toNat) with _ | _
        · exact .inr (.inr (.inr (.inr ⟨rfl, rfl, by omega, rfl, offer_stop h hs (by omega) hf⟩)))
        · exact .inr (.inr (.inr (.inl ⟨rfl, rfl, by omega, rfl, offer_pass h hs (by omega) hf⟩)))
    · exact .inr (.inl ⟨rfl, rfl, offer_shut h hs⟩)
theorem step_last (d : Aut) (q : Nat) (w : List Int) (a : Int) : runA d q (w ++ [a]) = step d (runA d q w) a.toNat := by rw [runA_append]; rfl
theorem gok_offer {d : Aut} {g : Gt} (h : Gok d g) (a : Int) : Gok d (offer d g a).2.2 := by
  rcases offer_ways d g a with ⟨_, e⟩ | ⟨_, _, e⟩ | ⟨_, _, _, e⟩ | ⟨hl, _, h80, hf, e⟩ | ⟨_, _, _, _, e⟩
  · rw [e]; exact h
  · rw [e]; exact h
  · rw [e]; exact h
  · rw [e]
    obtain ⟨h0, h1⟩ := isL_iff.1 hl
    refine ⟨word_one h.word h0 h1, ?_, ?_, by show (g.out ++ [a]).length ≤ 80; rw [List.length_append]; simp; omega⟩
    · show step d g.s a.toNat = _
      rw [step_last, ← h.st]
    · show accA d (g.out ++ [a]) = true
      unfold accA
      rw [step_last, ← h.st]; exact hf
  · rw [e]; exact ⟨h.word, h.st, h.acc, h.len⟩
theorem offers_snoc (d : Aut) (g : Gt) (l : List Int) (a : Int) : offers d g (l ++ [a]) = (offer d (offers d g l) a).2.2 := by unfold offers; rw [List.foldl_append]; rfl
theorem offers_take (d : Aut) (g : Gt) (l : List Int) {k : Nat} (hk : k < l.length) : offers d g (l.take (k + 1)) = (offer d (offers d g (l.take k)) l[k]).2.2 := by rw [← offers_snoc, List.take_append_getElem]
theorem gok_offers {d : Aut} {g : Gt} (h : Gok d g) (l : List Int) : Gok d (offers d g l) := by
  induction l generalizing g with
  | nil => exact h
  | cons a l ih => exact ih (gok_offer h a)
/-- The letters among what is offered. -/
def lets (d : Aut) (l : List Int) : List Int := l.filter (isL d)
theorem lets_self {d : Aut} {w : List Int} (hw : Word d.L w) : lets d w = w := List.filter_eq_self.2 fun _ ha => isL_iff.2 (hw _ ha)
/-- How many letters of a word pass from a state on. -/
def pass (d : Aut) : Nat → List Int → Nat
  | _, [] => 0
  | q, a :: w => if finA d (step d q a.toNat) = true then pass d (step d q a.toNat) w + 1 else 0
theorem pass_le (d : Aut) : ∀ (q : Nat) (w : List Int), pass d q w ≤ w.length
  | _, [] => Nat.le_refl _
  | q, a :: w => by unfold pass; split; have := pass_le d (step d q a.toNat) w; simp; omega; simp
theorem offers_shut (d : Aut) (l : List Int) {g : Gt} (h : g.shut = true) : offers d g l = g := by
  induction l with
  | nil => rfl
  | cons a l ih =>
    show offers d (offer d g a).2.2 l = g
    rcases offer_ways d g a with ⟨_, e⟩ | ⟨_, _, e⟩ | ⟨_, hs, _, e⟩ | ⟨_, hs, _⟩ | ⟨_, hs, _⟩
    · rw [e]; exact ih
    · rw [e]; exact ih
    · rw [h] at hs; cases hs
    · rw [h] at hs; cases hs
    · rw [h] at hs; cases hs
/-- All that is offered at once. -/
theorem offers_all (d : Aut) : ∀ (l : List Int) {g : Gt}, g.shut = false → g.out.length + l.length ≤ 80 →
    (offers d g l).out = g.out ++ (lets d l).take (pass d g.s (lets d l)) ∧ (offers d g l).shut = decide (pass d g.s (lets d l) < (lets d l).length)
  | [], g, h, _ => by simp [offers, lets, h]
  | a :: l, g, h, hl => by
    have e0 : offers d g (a :: l) = offers d (offer d g a).2.2 l := rfl
    simp only [List.length_cons] at hl
    rw [e0]
    rcases offer_ways d g a with ⟨hi, e⟩ | ⟨_, hs, e⟩ | ⟨_, _, h8, e⟩ | ⟨hi, _, _, hf, e⟩ | ⟨hi, _, _, hf, e⟩
    · rw [e]
      have el : lets d (a :: l) = lets d l := by unfold lets; rw [List.filter_cons_of_neg (by rw [hi]; decide)]
      rw [el]; exact offers_all d l h (by show g.out.length + l.length ≤ 80; omega)
    · rw [h] at hs; cases hs
    · omega
    · rw [e]
      have el : lets d (a :: l) = a :: lets d l := by unfold lets; rw [List.filter_cons_of_pos hi]
      have ep : pass d g.s (a :: lets d l) = pass d (step d g.s a.toNat) (lets d l) + 1 := by rw [pass, if_pos hf]
      obtain ⟨h1, h2⟩ := offers_all d l (g := ⟨step d g.s a.toNat, g.out ++ [a], false⟩) rfl (by rw [List.length_append]; simp; omega)
      rw [el, ep]
      refine ⟨by rw [h1]; simp, by rw [h2]; simp⟩
    · rw [e]
      have el : lets d (a :: l) = a :: lets d l := by unfold lets; rw [List.filter_cons_of_pos hi]
      have ep : pass d g.s (a :: lets d l) = 0 := by rw [pass, if_neg (by rw [hf]; decide)]
      rw [el, ep, offers_shut d l (g := ⟨g.s, g.out, true⟩) rfl]
      simp
/-- What passes is accepted at each step; the next letter is not. -/
theorem pass_acc {d : Aut} : ∀ (w : List Int) (q k : Nat), k < pass d q w → finA d (runA d q (w.take (k + 1))) = true
  | [], _, _, h => by simp [pass] at h
  | a :: w, q, k, h => by
    rw [pass] at h
    split at h
    · rename_i hf
      rcases k with _ | k
      · exact hf
      · exact pass_acc w (step d q a.toNat) k (by omega)
    · omega
theorem pass_stop {d : Aut} : ∀ (w : List Int) (q : Nat), pass d q w < w.length → finA d (runA d q (w.take (pass d q w + 1))) = false
  | [], _, h => by simp [pass] at h
  | a :: w, q, h => by
    by_cases hf : finA d (step d q a.toNat) = true
    · rw [pass, if_pos hf] at h ⊢
      exact pass_stop w (step d q a.toNat) (by simpa using h)
    · rw [pass, if_neg hf]
      show finA d (step d q a.toNat) = false
      simpa using hf
/-- The longest beginning that is accepted. -/
theorem pass_longest {d : Aut} (h : GGood d) {w : List Int} (hw : Word d.L w) : (∀ k, k ≤ pass d d.s.toNat w → accA d (w.take k) = true) ∧ ∀ k, pass d d.s.toNat w < k → k ≤ w.length → accA d (w.take k) = false := by
  constructor
  · intro k hk
    rcases k with _ | k
    · exact h.empty
    · exact pass_acc w _ k hk
  · intro k hk hl
    have hs := pass_stop (d := d) w d.s.toNat (by omega)
    rcases h2 : accA d (w.take k) with _ | _
    · rfl
    · have h3 := h.safe (w.take (pass d d.s.toNat w + 1)) ((w.take k).drop (pass d d.s.toNat w + 1)) (word_take hw _) (word_drop (word_take hw _) _) (by
        have e : w.take (pass d d.s.toNat w + 1) = (w.take k).take (pass d d.s.toNat w + 1) := by rw [List.take_take, Nat.min_eq_left (by omega)]
        rw [e, List.take_append_drop]; exact h2)
      rw [show accA d (w.take (pass d d.s.toNat w + 1)) = false from hs] at h3
      cases h3
/-- It is just that number. -/
theorem pass_is {d : Aut} (h : GGood d) {w : List Int} (hw : Word d.L w) {n : Nat} (hn : n ≤ w.length) (h1 : accA d (w.take n) = true) (h2 : ∀ k, n < k → k ≤ w.length → accA d (w.take k) = false) : pass d d.s.toNat w = n := by
  obtain ⟨p1, p2⟩ := pass_longest h hw
  rcases Nat.lt_trichotomy (pass d d.s.toNat w) n with hl | hl | hl
  · have := p2 n hl hn; rw [h1] at this; cases this
  · exact hl
  · have := h2 _ hl (pass_le _ _ _); rw [p1 _ (Nat.le_refl _)] at this; cases this
/-- Always is safe. -/
theorem begun_always {d : Aut} (g : Good d) : Begun (stopA false d) := fun v u hv hu h => by
  have hv : Word d.L v := hv
  have hu : Word d.L u := hu
  rw [always_acc g (word_append hv hu)] at h
  rw [always_acc g hv]
  intro k hk
  have := h k (by rw [List.length_append]; omega)
  rwa [List.take_append_of_le_length hk] at this
theorem always_empty {d : Aut} : accA (stopA false d) [] = accA d [] := rfl
end Go.Proofs.YtciopfiddfmckaaDoor.Ga

namespace Go.Proofs.YtciopfiddfmckaaDoor.Ga
open Go.Proofs.YtciopfiddfmckaaDoor.Df Go.Proofs.YtciopfiddfmckaaDoor.Wo Go.Proofs.YtciopfiddfmckaaDoor.Rc Go.Proofs.YtciopfiddfmckaaDoor.Sm Go.Proofs.YtciopfiddfmckaaDoor.Sa Go.Proofs.YtciopfiddfmckaaDoor.Ve

/-- A gate to which a word was offered is shut just if the word is not accepted. -/
theorem shut_acc {d : Aut} (h : GGood d) {w : List Int} (hw : Word d.L w) (hl : w.length ≤ 80) : (offers d (gate0 d) w).shut = !accA d w := by
  obtain ⟨_, h2⟩ := offers_all d w (g := gate0 d) rfl (by show (gate0 d).out.length + w.length ≤ 80; simp [gate0]; omega)
  rw [lets_self hw] at h2
  rw [h2]
  show decide (pass d d.s.toNat w < w.length) = _
  obtain ⟨p1, p2⟩ := pass_longest h hw
  have hp := pass_le d d.s.toNat w
  by_cases hlt : pass d d.s.toNat w < w.length
  · have := p2 w.length hlt (Nat.le_refl _)
    rw [List.take_length] at this
    rw [this, decide_eq_true hlt]; rfl
  · have := p1 w.length (by omega)
    rw [List.take_length] at this
    rw [this, decide_eq_false hlt]; rfl
theorem out_acc {d : Aut} (h : GGood d) {w : List Int} (hw : Word d.L w) (hl : w.length ≤ 80) (ha : accA d w = true) : (offers d (gate0 d) w).out = w := by
  obtain ⟨h1, _⟩ := offers_all d w (g := gate0 d) rfl (by show (gate0 d).out.length + w.length ≤ 80; simp [gate0]; omega)
  rw [lets_self hw] at h1
  rw [h1]
  show ([] : List Int) ++ w.take (pass d d.s.toNat w) = w
  have e : pass d d.s.toNat w = w.length := pass_is h hw (Nat.le_refl _) (by rw [List.take_length]; exact ha) fun k hk hk2 => by omega
  rw [e, List.take_length, List.nil_append]
/-- One letter more passes just if the word with it is accepted; there is no error. -/
theorem offer_acc {d : Aut} (h : GGood d) {w : List Int} {a : Int} (hw : Word d.L (w ++ [a])) (hl : w.length < 80) :
    (offer d (offers d (gate0 d) w) a).1 = 0 ∧ (offer d (offers d (gate0 d) w) a).2.1 = accA d (w ++ [a]) ∧ (offer d (offers d (gate0 d) w) a).2.2.shut = !accA d (w ++ [a]) := by
  have hv : Word d.L w := fun x hx => hw x (List.mem_append_left _ hx)
  have ha := hw a (by simp)
  have hi : isL d a = true := isL_iff.2 ha
  have hs := shut_acc h hv (by omega)
  have h3 : (offer d (offers d (gate0 d) w) a).2.2.shut = !accA d (w ++ [a]) := by
    rw [← offers_snoc]; exact shut_acc h hw (by simp; omega)
  refine ⟨?_, ?_, h3⟩
  · rcases offer_ways d (offers d (gate0 d) w) a with ⟨h1, _⟩ | ⟨_, _, e⟩ | ⟨_, h2, h8, e⟩ | ⟨_, _, _, _, e⟩ | ⟨_, _, _, _, e⟩
    · rw [hi] at h1; cases h1
    · rw [e]
    · rw [hs] at h2
      have h2 : accA d w = true := by simpa using h2
      rw [out_acc h hv (by omega) h2] at h8; omega
    · rw [e]
    · rw [e]
  · rcases offer_ways d (offers d (gate0 d) w) a with ⟨h1, _⟩ | ⟨_, h2, e⟩ | ⟨_, h2, h8, e⟩ | ⟨_, _, _, _, e⟩ | ⟨_, _, _, _, e⟩
    · rw [hi] at h1; cases h1
    · rw [e] at h3 ⊢
      rw [h2] at h3
      show false = _
      revert h3
      generalize accA d (w ++ [a]) = b
      cases b <;> decide
    · rw [hs] at h2
      have h2 : accA d w = true := by simpa using h2
      rw [out_acc h hv (by omega) h2] at h8; omega
    · rw [e] at h3 ⊢
      have h3 : false = !accA d (w ++ [a]) := h3
      show true = _
      revert h3
      generalize accA d (w ++ [a]) = b
      cases b <;> decide
    · rw [e] at h3 ⊢
      have h3 : true = !accA d (w ++ [a]) := h3
      show false = _
      revert h3
      generalize accA d (w ++ [a]) = b
      cases b <;> decide
theorem offer_wrong {d : Aut} {w : List Int} {a : Int} (ha : ¬ (0 ≤ a ∧ a < d.L)) : offer d (offers d (gate0 d) w) a = (1, false, offers d (gate0 d) w) := by
  refine offer_bad ?_
  rcases h : isL d a with _ | _
  · rfl
  · exact absurd (isL_iff.1 h) ha
/-- A gate of Always lets pass as long as all beginnings are accepted. -/
theorem gate_always {d : Aut} (g : Good d) (he : accA d [] = true) : GGood (stopA false d) := ⟨stop_good g, begun_always g, he⟩
theorem no_gate {d : Aut} (g : Good d) (he : accA d [] = false) : gchk (stopA false d) = 8 := by
  unfold gchk
  have hg : dchk (stopA false d) = 0 := dchk_iff.2 (stop_good g)
  have hc := (class_odd (stopA false d)).2 ((begunB_iff (stop_good g)).2 (begun_always g))
  rw [if_neg (fun k => k hg), if_neg (by omega), if_pos (by rw [always_empty]; exact he)]
theorem allB_last {d : Aut} (w : List Int) (a : Int) : allB d (w ++ [a]) (w.length + 2) = (allB d w (w.length + 1) && accA d (w ++ [a])) := by
  rw [allB_succ, List.take_of_length_le (by simp)]
  congr 1
  unfold allB
  have : ∀ k ∈ List.range (w.length + 1), accA d ((w ++ [a]).take k) = accA d (w.take k) := fun k hk => by
    rw [List.take_append_of_le_length (by have := List.mem_range.1 hk; omega)]
  rw [Bool.eq_iff_iff, List.all_eq_true, List.all_eq_true]
  exact ⟨fun h k hk => by rw [← this k hk]; exact h k hk, fun h k hk => by rw [this k hk]; exact h k hk⟩
theorem offer_always {d : Aut} (g : Good d) (he : accA d [] = true) {w : List Int} {a : Int} (hw : Word d.L (w ++ [a])) (hl : w.length < 80) :
    (offer (stopA false d) (offers (stopA false d) (gate0 (stopA false d)) w) a).1 = 0 ∧
      (offer (stopA false d) (offers (stopA false d) (gate0 (stopA false d)) w) a).2.1 = (allB d w (w.length + 1) && accA d (w ++ [a])) ∧
      (offer (stopA false d) (offers (stopA false d) (gate0 (stopA false d)) w) a).2.2.shut = !(allB d w (w.length + 1) && accA d (w ++ [a])) := by
  have h1 := offer_acc (gate_always g he) (w := w) (a := a) hw hl
  rw [always_all g hw, List.length_append] at h1
  simp only [List.length_cons, List.length_nil, Nat.zero_add] at h1
  rw [allB_last] at h1
  exact h1
end Go.Proofs.YtciopfiddfmckaaDoor.Ga
