/- Plain mathematics of package safe: automata with other final states, automata that stop; beginnings, rests, always, ever; the class. -/
import Derived.Test.YtbciefeipiphiaaDoorDfaM
namespace Go.Proofs.YtbciefeipiphiaaDoor.Sa
open Go.Proofs.YtbciefeipiphiaaDoor.Df Go.Proofs.YtbciefeipiphiaaDoor.Wo Go.Proofs.YtbciefeipiphiaaDoor.Rc Go.Proofs.YtbciefeipiphiaaDoor.Sm

/-- Other states are final, by whether they were and by whether they are alive. -/
def judge (f : Bool → Bool → Bool) (d : Aut) : Aut := ⟨d.L, d.s, d.next, (List.range d.next.length).map fun s => f (finA d s) (isAlive d s)⟩
/-- All letters lead back from the states whose flag is b. -/
def stopRow (b : Bool) (d : Aut) (s : Nat) (r : List Int) : List Int := if finA d s = b then List.replicate r.length (s : Int) else r
def stopA (b : Bool) (d : Aut) : Aut := ⟨d.L, d.s, (List.range d.next.length).map fun s => stopRow b d s (d.next[s]?.getD []), d.fin⟩
def preF : Bool → Bool → Bool := fun _ a => a
def restF : Bool → Bool → Bool := fun f a => f || !a
abbrev preA : Aut → Aut := judge preF
abbrev restA : Aut → Aut := judge restF

theorem judge_good {f : Bool → Bool → Bool} {d : Aut} (g : Good d) : Good (judge f d) := ⟨g.l1, g.l6, g.n1, g.n40, by simp [judge], g.row, g.st, g.go⟩
theorem judge_run (f : Bool → Bool → Bool) (d : Aut) (q : Nat) (w : List Int) : runA (judge f d) q w = runA d q w := rfl
theorem judge_fin {f : Bool → Bool → Bool} {d : Aut} {q : Nat} (hq : q < d.next.length) : finA (judge f d) q = f (finA d q) (isAlive d q) := by
  unfold finA judge; simp only; rw [List.getElem?_map, List.getElem?_range hq]; rfl
theorem judge_acc {f : Bool → Bool → Bool} {d : Aut} (g : Good d) {w : List Int} (hw : Word d.L w) : accA (judge f d) w = f (accA d w) (isAlive d (runA d d.s.toNat w)) :=
  judge_fin (g.run_lt hw g.s_lt)
theorem fin_alive {d : Aut} (g : Good d) {s : Nat} (hs : s < d.next.length) (h : finA d s = true) : isAlive d s = true :=
  (isAlive_iff g hs).2 ⟨[], fun a ha => by simp at ha, h⟩
theorem word_append {L : Int} {v u : List Int} (hv : Word L v) (hu : Word L u) : Word L (v ++ u) := fun a ha => by
  rcases List.mem_append.1 ha with ha | ha
  · exact hv a ha
  · exact hu a ha
theorem word_take {L : Int} {v : List Int} (hv : Word L v) (k : Nat) : Word L (v.take k) := fun a ha => hv a (List.mem_of_mem_take ha)
theorem word_drop {L : Int} {v : List Int} (hv : Word L v) (k : Nat) : Word L (v.drop k) := fun a ha => hv a (List.mem_of_mem_drop ha)
theorem alive_word {d : Aut} (g : Good d) {w : List Int} (hw : Word d.L w) : isAlive d (runA d d.s.toNat w) = true ↔ ∃ u, Word d.L u ∧ accA d (w ++ u) = true := by
  rw [isAlive_iff g (g.run_lt hw g.s_lt)]
  unfold accA
  simp only [runA_append]
/-- The beginnings of what is accepted. -/
theorem pre_acc {d : Aut} (g : Good d) {w : List Int} (hw : Word d.L w) : accA (preA d) w = true ↔ ∃ u, Word d.L u ∧ accA d (w ++ u) = true := by
  rw [judge_acc g hw]; exact alive_word g hw
theorem acc_pre {d : Aut} (g : Good d) {w : List Int} (hw : Word d.L w) (h : accA d w = true) : accA (preA d) w = true :=
  (pre_acc g hw).2 ⟨[], fun a ha => by simp at ha, by rw [List.append_nil]; exact h⟩
/-- Alive among the beginnings is alive. -/
theorem pre_alive {d : Aut} (g : Good d) {s : Nat} (hs : s < d.next.length) : isAlive (preA d) s = isAlive d s := by
  refine Bool.eq_iff_iff.2 ?_
  rw [isAlive_iff g hs, isAlive_iff (judge_good g) (by exact hs)]
  constructor
  · rintro ⟨w, hw, h⟩
    have hw : Word d.L w := hw
    rw [judge_run] at h
    have hl := g.run_lt hw hs
    rw [judge_fin hl] at h
    obtain ⟨u, hu, h2⟩ := (isAlive_iff g hl).1 h
    exact ⟨w ++ u, word_append hw hu, by rw [runA_append]; exact h2⟩
  · rintro ⟨w, hw, h⟩
    refine ⟨w, hw, ?_⟩
    rw [judge_run, judge_fin (g.run_lt hw hs)]
    exact fin_alive g (g.run_lt hw hs) h
theorem pre_pre {d : Aut} (g : Good d) : preA (preA d) = preA d := by
  show (⟨d.L, d.s, d.next, (List.range d.next.length).map fun s => preF (finA (preA d) s) (isAlive (preA d) s)⟩ : Aut) = ⟨d.L, d.s, d.next, (List.range d.next.length).map fun s => preF (finA d s) (isAlive d s)⟩
  congr 1
  exact List.map_congr_left fun s hs => pre_alive g (List.mem_range.1 hs)
/-- From each state of the rest something is accepted. -/
theorem rest_alive {d : Aut} (g : Good d) {s : Nat} (hs : s < d.next.length) : isAlive (restA d) s = true := by
  rw [isAlive_iff (judge_good g) (by exact hs)]
  rcases h : isAlive d s with _ | _
  · refine ⟨[], fun a ha => by simp at ha, ?_⟩
    show finA (restA d) s = true
    rw [judge_fin hs, h]; unfold restF; simp
  · obtain ⟨w, hw, h2⟩ := (isAlive_iff g hs).1 h
    refine ⟨w, hw, ?_⟩
    rw [judge_run, judge_fin (g.run_lt hw hs), h2]; rfl
theorem upto_all {n : Nat} {p : Nat → Bool} (h : ∀ s, s < n → p s = true) : (upto n p).length = n := by
  unfold upto
  rw [List.length_map, List.filter_eq_self.2 fun s hs => h s (List.mem_range.1 hs), List.length_range]
/-- Both together. -/
theorem parts {d : Aut} (g : Good d) {w : List Int} (hw : Word d.L w) : accA d w = (accA (preA d) w && accA (restA d) w) := by
  rw [judge_acc g hw, judge_acc g hw]
  unfold preF restF
  have := fin_alive g (g.run_lt hw g.s_lt)
  have h1 : accA d w = true → isAlive d (runA d d.s.toNat w) = true := this
  clear this
  generalize accA d w = a at *
  generalize isAlive d (runA d d.s.toNat w) = b at *
  rcases a with _ | _ <;> rcases b with _ | _ <;> simp_all

/-! ### automata that stop -/
theorem next_at {d : Aut} {s : Nat} (hs : s < d.next.length) : d.next[s]?.getD [] = d.next[s] := by rw [List.getElem?_eq_getElem hs]; rfl
theorem stop_len (b : Bool) (d : Aut) : (stopA b d).next.length = d.next.length := by simp [stopA]
theorem stop_row (b : Bool) {d : Aut} {s : Nat} (hs : s < d.next.length) : (stopA b d).next[s]? = some (stopRow b d s d.next[s]) := by
  unfold stopA; simp only; rw [List.getElem?_map, List.getElem?_range hs, Option.map_some, next_at hs]
theorem stop_good {b : Bool} {d : Aut} (g : Good d) : Good (stopA b d) := by
  refine ⟨g.l1, g.l6, by rw [stop_len]; exact g.n1, by rw [stop_len]; exact g.n40, by rw [stop_len]; exact g.fin, fun r hr => ?_, ?_, fun r hr x hx => ?_⟩
  · obtain ⟨s, hs, rfl⟩ := List.mem_map.1 hr
    have hs := List.mem_range.1 hs
    rw [next_at hs]
    have := g.row _ (List.getElem_mem hs)
    unfold stopRow
    split
    · rw [List.length_replicate]; exact this
    · exact this
  · have := g.st
    unfold isSt at *
    rw [stop_len]; exact this
  · obtain ⟨s, hs, rfl⟩ := List.mem_map.1 hr
    have hs := List.mem_range.1 hs
    rw [next_at hs] at hx
    unfold isSt
    rw [stop_len]
    unfold stopRow at hx
    split at hx
    · have := List.eq_of_mem_replicate hx
      omega
    · exact g.go _ (List.getElem_mem hs) x hx
theorem stop_fin (b : Bool) (d : Aut) (q : Nat) : finA (stopA b d) q = finA d q := rfl
theorem stop_step {b : Bool} {d : Aut} (g : Good d) {q a : Nat} (hq : q < d.next.length) (ha : (a : Int) < d.L) : step (stopA b d) q a = if finA d q = b then q else step d q a := by
  have hr := g.row _ (List.getElem_mem hq)
  unfold step
  rw [stop_row b hq, List.getElem?_eq_getElem hq]
  simp only [Option.getD_some]
  unfold stopRow
  split
  · rw [List.getElem?_replicate, if_pos (by omega)]; simp
  · rfl
/-- It stops where the flag is b at some beginning. -/
theorem stop_run {b : Bool} {d : Aut} (g : Good d) : ∀ (w : List Int) {q : Nat}, Word d.L w → q < d.next.length →
    (finA d (runA (stopA b d) q w) = b ↔ ∃ k, k ≤ w.length ∧ finA d (runA d q (w.take k)) = b)
  | [], q, _, _ => ⟨fun h => ⟨0, by simp, h⟩, fun ⟨k, _, h⟩ => by rw [List.take_nil] at h; exact h⟩
  | a :: w, q, hw, hq => by
    have ha := hw a List.mem_cons_self
    have hw' : Word d.L w := fun x hx => hw x (List.mem_cons_of_mem _ hx)
    have hs : runA (stopA b d) q (a :: w) = runA (stopA b d) (step (stopA b d) q a.toNat) w := rfl
    rw [hs, stop_step g hq (by omega)]
    by_cases hf : finA d q = b
    · rw [if_pos hf]
      refine ⟨fun _ => ⟨0, by omega, hf⟩, fun _ => ?_⟩
      exact (stop_run g w hw' hq).2 ⟨0, by omega, hf⟩
    · rw [if_neg hf, stop_run g w hw' (g.step_lt hq (by omega))]
      constructor
      · rintro ⟨k, hk, h⟩
        exact ⟨k + 1, by simpa using hk, h⟩
      · rintro ⟨k, hk, h⟩
        rcases k with _ | k
        · exact absurd h hf
        · exact ⟨k, by simpa using hk, h⟩
def allB (d : Aut) (w : List Int) (n : Nat) : Bool := (List.range n).all fun k => accA d (w.take k)
def someB (d : Aut) (w : List Int) (n : Nat) : Bool := (List.range n).any fun k => accA d (w.take k)
theorem allB_zero (d : Aut) (w : List Int) : allB d w 0 = true := rfl
theorem someB_zero (d : Aut) (w : List Int) : someB d w 0 = false := rfl
theorem allB_succ (d : Aut) (w : List Int) (n : Nat) : allB d w (n + 1) = (allB d w n && accA d (w.take n)) := by unfold allB; rw [List.range_succ, List.all_append]; simp
theorem someB_succ (d : Aut) (w : List Int) (n : Nat) : someB d w (n + 1) = (someB d w n || accA d (w.take n)) := by unfold someB; rw [List.range_succ, List.any_append]; simp
theorem ever_acc {d : Aut} (g : Good d) {w : List Int} (hw : Word d.L w) : accA (stopA true d) w = true ↔ ∃ k, k ≤ w.length ∧ accA d (w.take k) = true := stop_run g w hw g.s_lt
theorem always_acc {d : Aut} (g : Good d) {w : List Int} (hw : Word d.L w) : accA (stopA false d) w = true ↔ ∀ k, k ≤ w.length → accA d (w.take k) = true := by
  have h := stop_run (b := false) g w hw g.s_lt
  constructor
  · intro h1 k hk
    rcases h2 : accA d (w.take k) with _ | _
    · have h3 : accA (stopA false d) w = false := h.2 ⟨k, hk, h2⟩
      rw [h3] at h1; cases h1
    · rfl
  · intro h1
    rcases h2 : accA (stopA false d) w with _ | _
    · obtain ⟨k, hk, h3⟩ := h.1 h2
      have := h1 k hk
      have h4 : accA d (w.take k) = false := h3
      rw [h4] at this; cases this
    · rfl
theorem ever_some {d : Aut} (g : Good d) {w : List Int} (hw : Word d.L w) : accA (stopA true d) w = someB d w (w.length + 1) := by
  refine Bool.eq_iff_iff.2 ?_
  rw [ever_acc g hw]
  unfold someB
  rw [List.any_eq_true]
  constructor
  · rintro ⟨k, hk, h⟩; exact ⟨k, List.mem_range.2 (by omega), h⟩
  · rintro ⟨k, hk, h⟩; exact ⟨k, by have := List.mem_range.1 hk; omega, h⟩
theorem always_all {d : Aut} (g : Good d) {w : List Int} (hw : Word d.L w) : accA (stopA false d) w = allB d w (w.length + 1) := by
  refine Bool.eq_iff_iff.2 ?_
  rw [always_acc g hw]
  unfold allB
  rw [List.all_eq_true]
  constructor
  · intro h k hk; exact h k (by have := List.mem_range.1 hk; omega)
  · intro h k hk; exact h k (List.mem_range.2 (by omega))
theorem always_ever {d : Aut} (g : Good d) {w : List Int} (hw : Word d.L w) (h : accA (stopA false d) w = true) : accA (stopA true d) w = true :=
  (ever_acc g hw).2 ⟨0, by omega, (always_acc g hw).1 h 0 (by omega)⟩
theorem not_always {d : Aut} (g : Good d) : notA (stopA false d) = stopA true (notA d) := by
  have h : (List.range d.next.length).map (fun s => stopRow false d s (d.next[s]?.getD [])) = (List.range d.next.length).map (fun s => stopRow true (notA d) s (d.next[s]?.getD [])) := by
    refine List.map_congr_left fun s hs => ?_
    have hs := List.mem_range.1 hs
    unfold stopRow
    rw [notA_fin g hs]
    rcases finA d s with _ | _ <;> rfl
  show (⟨d.L, d.s, (List.range d.next.length).map fun s => stopRow false d s (d.next[s]?.getD []), d.fin.map (!·)⟩ : Aut) = ⟨d.L, d.s, (List.range d.next.length).map fun s => stopRow true (notA d) s (d.next[s]?.getD []), d.fin.map (!·)⟩
  rw [h]

/-! ### the class -/
/-- All beginnings of what is accepted are; all that goes on behind it is. -/
def Begun (d : Aut) : Prop := ∀ v u, Word d.L v → Word d.L u → accA d (v ++ u) = true → accA d v = true
def Goes (d : Aut) : Prop := ∀ v u, Word d.L v → Word d.L u → accA d v = true → accA d (v ++ u) = true
/-- The same words. -/
def Kin (a b : Aut) : Prop := ∀ w, Word a.L w → accA a w = accA b w
theorem kin_alike {a b : Aut} : Alike a b a.s.toNat b.s.toNat ↔ Kin a b := Iff.rfl
theorem kin_pre {d : Aut} (g : Good d) : Kin d (preA d) ↔ Begun d := by
  constructor
  · intro h v u hv hu ha
    rw [h v hv]
    exact (pre_acc g hv).2 ⟨u, hu, ha⟩
  · intro h w hw
    refine Bool.eq_iff_iff.2 ⟨acc_pre g hw, fun h2 => ?_⟩
    obtain ⟨u, hu, h3⟩ := (pre_acc g hw).1 h2
    exact h w u hw hu h3
theorem kin_always {d : Aut} (g : Good d) : Kin d (stopA false d) ↔ Begun d := by
  constructor
  · intro h v u hv hu ha
    rw [h _ (word_append hv hu), always_acc g (word_append hv hu)] at ha
    have := ha v.length (by simp)
    simpa using this
  · intro h w hw
    refine Bool.eq_iff_iff.2 ⟨fun ha => (always_acc g hw).2 fun k hk => ?_, fun ha => ?_⟩
    · exact h (w.take k) (w.drop k) (word_take hw k) (word_drop hw k) (by rw [List.take_append_drop]; exact ha)
    · have := (always_acc g hw).1 ha w.length (Nat.le_refl _)
      rwa [List.take_length] at this
theorem kin_ever {d : Aut} (g : Good d) : Kin d (stopA true d) ↔ Goes d := by
  constructor
  · intro h v u hv hu ha
    rw [h _ (word_append hv hu), ever_acc g (word_append hv hu)]
    exact ⟨v.length, by simp, by simpa using ha⟩
  · intro h w hw
    refine Bool.eq_iff_iff.2 ⟨fun ha => (ever_acc g hw).2 ⟨w.length, Nat.le_refl _, by rw [List.take_length]; exact ha⟩, fun ha => ?_⟩
    obtain ⟨k, hk, h2⟩ := (ever_acc g hw).1 ha
    have := h (w.take k) (w.drop k) (word_take hw k) (word_drop hw k) h2
    rwa [List.take_append_drop] at this
theorem begun_not {d : Aut} (g : Good d) : Begun (notA d) ↔ Goes d := by
  constructor
  · intro h v u hv hu ha
    rcases h2 : accA d (v ++ u) with _ | _
    · have h3 := h v u hv hu (by rw [notA_acc g (word_append hv hu), h2]; rfl)
      rw [notA_acc g hv, ha] at h3; cases h3
    · rfl
  · intro h v u hv hu ha
    have hv : Word d.L v := hv
    have hu : Word d.L u := hu
    rw [notA_acc g (word_append hv hu)] at ha
    rw [notA_acc g hv]
    rcases h2 : accA d v with _ | _
    · rfl
    · rw [h v u hv hu h2] at ha; cases ha
theorem goes_not {d : Aut} (g : Good d) : Goes (notA d) ↔ Begun d := by
  have := begun_not (notA_good g)
  rw [notA_notA] at this
  exact this.symm
theorem good2_judge {f : Bool → Bool → Bool} {d : Aut} (g : Good d) : Good2 d (judge f d) := ⟨g, judge_good g, rfl⟩
theorem good2_stop {b : Bool} {d : Aut} (g : Good d) : Good2 d (stopA b d) := ⟨g, stop_good g, rfl⟩
/-- By the search for a word that tells them apart. -/
def same0 (a b : Aut) : Bool := (diffW a b a.s.toNat b.s.toNat).isNone
theorem same0_iff {a b : Aut} (g : Good2 a b) : same0 a b = true ↔ Kin a b := by
  unfold same0
  rw [Option.isNone_iff_eq_none, diffW_none g g.ga.s_lt g.gb.s_lt]
  exact kin_alike
def begunB (d : Aut) : Bool := same0 d (preA d)
def goesB (d : Aut) : Bool := same0 d (stopA true d)
theorem begunB_iff {d : Aut} (g : Good d) : begunB d = true ↔ Begun d := (same0_iff (good2_judge g)).trans (kin_pre g)
theorem goesB_iff {d : Aut} (g : Good d) : goesB d = true ↔ Goes d := (same0_iff (good2_stop g)).trans (kin_ever g)
theorem alwaysB {d : Aut} (g : Good d) : same0 d (stopA false d) = begunB d := Bool.eq_iff_iff.2 (((same0_iff (good2_stop g)).trans (kin_always g)).trans (begunB_iff g).symm)
theorem begunB_not {d : Aut} (g : Good d) : begunB (notA d) = goesB d := Bool.eq_iff_iff.2 (((begunB_iff (notA_good g)).trans (begun_not g)).trans (goesB_iff g).symm)
theorem goesB_not {d : Aut} (g : Good d) : goesB (notA d) = begunB d := Bool.eq_iff_iff.2 (((goesB_iff (notA_good g)).trans (goes_not g)).trans (begunB_iff g).symm)
theorem begunB_pre {d : Aut} (g : Good d) : begunB (preA d) = true := by
  rw [begunB_iff (judge_good g)]
  intro v u hv hu h
  have hv : Word d.L v := hv
  have hu : Word d.L u := hu
  obtain ⟨x, hx, h2⟩ := (pre_acc g (word_append hv hu)).1 h
  exact (pre_acc g hv).2 ⟨u ++ x, word_append hu hx, by rw [← List.append_assoc]; exact h2⟩
/-- The class, as a number. -/
def clsN (x y : Bool) : Nat := (if x then 1 else 0) + (if y then 2 else 0)
def classA (d : Aut) : Nat := clsN (begunB d) (goesB d)
/-- By states. -/
theorem reached_iff {d : Aut} (g : Good d) {s t : Nat} (hs : s < d.next.length) : isReached d s t = true ↔ ∃ w, Word d.L w ∧ runA d s w = t := by
  unfold isReached
  rw [decide_eq_true_iff, mem_rset g hs, rch_word]
/-- A state x, and behind it a state y. -/
def Pair (d : Aut) (x y : Bool) (s t : Nat) : Bool := isReached d d.s.toNat s && isReached d s t && (finA d s == x) && (finA d t == y)
theorem begun_states {d : Aut} (g : Good d) : Begun d ↔ ∀ s t, s < d.next.length → t < d.next.length → Pair d false true s t = false := by
  constructor
  · intro h s t hs _
    rcases h2 : Pair d false true s t with _ | _
    · rfl
    · unfold Pair at h2
      simp only [Bool.and_eq_true, beq_iff_eq] at h2
      obtain ⟨⟨⟨h3, h4⟩, h5⟩, h6⟩ := h2
      obtain ⟨v, hv, rfl⟩ := (reached_iff g g.s_lt).1 h3
      obtain ⟨u, hu, rfl⟩ := (reached_iff g hs).1 h4
      have := h v u hv hu (by unfold accA; rw [runA_append]; exact h6)
      rw [show accA d v = false from h5] at this
      cases this
  · intro h v u hv hu ha
    rcases h2 : accA d v with _ | _
    · have h1 := g.run_lt hv g.s_lt
      have := h _ _ h1 (g.run_lt hu h1)
      unfold Pair at this
      rw [(reached_iff g g.s_lt).2 ⟨v, hv, rfl⟩, (reached_iff g h1).2 ⟨u, hu, rfl⟩, show finA d (runA d d.s.toNat v) = false from h2] at this
      rw [← runA_append, show finA d (runA d d.s.toNat (v ++ u)) = true from ha] at this
      simp at this
    · rfl
theorem goes_states {d : Aut} (g : Good d) : Goes d ↔ ∀ s t, s < d.next.length → t < d.next.length → Pair d true false s t = false := by
  constructor
  · intro h s t hs _
    rcases h2 : Pair d true false s t with _ | _
    · rfl
    · unfold Pair at h2
      simp only [Bool.and_eq_true, beq_iff_eq] at h2
      obtain ⟨⟨⟨h3, h4⟩, h5⟩, h6⟩ := h2
      obtain ⟨v, hv, rfl⟩ := (reached_iff g g.s_lt).1 h3
      obtain ⟨u, hu, rfl⟩ := (reached_iff g hs).1 h4
      have := h v u hv hu h5
      unfold accA at this
      rw [runA_append, h6] at this
      cases this
  · intro h v u hv hu ha
    rcases h2 : accA d (v ++ u) with _ | _
    · have h1 := g.run_lt hv g.s_lt
      have := h _ _ h1 (g.run_lt hu h1)
      unfold Pair at this
      rw [(reached_iff g g.s_lt).2 ⟨v, hv, rfl⟩, (reached_iff g h1).2 ⟨u, hu, rfl⟩, show finA d (runA d d.s.toNat v) = true from ha] at this
      rw [← runA_append, show finA d (runA d d.s.toNat (v ++ u)) = false from h2] at this
      simp at this
    · rfl
/-- Is there such a pair among the first s rows and the first t places of the next one? -/
def seen (d : Aut) (x y : Bool) (s t : Nat) : Bool := ((List.range s).any fun i => (List.range d.next.length).any fun j => Pair d x y i j) || (List.range t).any fun j => Pair d x y s j
theorem seen_zero (d : Aut) (x y : Bool) : seen d x y 0 0 = false := rfl
theorem seen_succ (d : Aut) (x y : Bool) (s t : Nat) : seen d x y s (t + 1) = (seen d x y s t || Pair d x y s t) := by
  unfold seen; rw [List.range_succ, List.any_append]; simp [Bool.or_assoc]
theorem seen_row (d : Aut) (x y : Bool) (s : Nat) : seen d x y s d.next.length = seen d x y (s + 1) 0 := by
  unfold seen; rw [List.range_succ, List.any_append]; simp
theorem seen_end (d : Aut) (x y : Bool) : seen d x y d.next.length 0 = false ↔ ∀ s t, s < d.next.length → t < d.next.length → Pair d x y s t = false := by
  unfold seen
  rw [List.range_zero, List.any_nil, Bool.or_false, List.any_eq_false]
  constructor
  · intro h s t hs ht
    have h1 := h s (List.mem_range.2 hs)
    rcases h2 : Pair d x y s t with _ | _
    · rfl
    · exact absurd (List.any_eq_true.2 ⟨t, List.mem_range.2 ht, h2⟩) h1
  · intro h s hs h1
    obtain ⟨t, ht, h2⟩ := List.any_eq_true.1 h1
    rw [h s t (List.mem_range.1 hs) (List.mem_range.1 ht)] at h2
    cases h2
theorem begunB_seen {d : Aut} (g : Good d) : begunB d = !seen d false true d.next.length 0 := by
  refine Bool.eq_iff_iff.2 ?_
  rw [begunB_iff g, begun_states g, ← seen_end]; simp
theorem goesB_seen {d : Aut} (g : Good d) : goesB d = !seen d true false d.next.length 0 := by
  refine Bool.eq_iff_iff.2 ?_
  rw [goesB_iff g, goes_states g, ← seen_end]; simp
theorem class_le (d : Aut) : classA d ≤ 3 := by unfold classA clsN; split <;> split <;> omega
theorem class_odd (d : Aut) : (classA d % 2 = 1) ↔ begunB d = true := by unfold classA clsN; rcases begunB d with _ | _ <;> rcases goesB d with _ | _ <;> decide
theorem class_two (d : Aut) : (2 ≤ classA d) ↔ goesB d = true := by unfold classA clsN; rcases begunB d with _ | _ <;> rcases goesB d with _ | _ <;> decide

/-! ### of two -/
/-- Whatever accepts just what either accepts has just the beginnings of either. -/
theorem pre_either {a b c : Aut} (ga : Good a) (gb : Good b) (gc : Good c) (h1 : a.L = c.L) (h2 : b.L = c.L) (h : ∀ w, Word c.L w → accA c w = (accA a w || accA b w)) {w : List Int} (hw : Word c.L w) :
    accA (preA c) w = (accA (preA a) w || accA (preA b) w) := by
  refine Bool.eq_iff_iff.2 ?_
  rw [Bool.or_eq_true, pre_acc gc hw, pre_acc ga (by rw [h1]; exact hw), pre_acc gb (by rw [h2]; exact hw), h1, h2]
  constructor
  · rintro ⟨u, hu, h3⟩
    rw [h _ (word_append hw hu), Bool.or_eq_true] at h3
    rcases h3 with h3 | h3
    · exact .inl ⟨u, hu, h3⟩
    · exact .inr ⟨u, hu, h3⟩
  · rintro (⟨u, hu, h3⟩ | ⟨u, hu, h3⟩)
    · exact ⟨u, hu, by rw [h _ (word_append hw hu), h3]; rfl⟩
    · exact ⟨u, hu, by rw [h _ (word_append hw hu), h3, Bool.or_true]⟩
/-- A safe one that has all that is accepted has all its beginnings. -/
theorem least_safe {d e : Aut} (g : Good2 d e) (hb : Begun e) (h : ∀ w, Word d.L w → (accA d w && !accA e w) = false) {w : List Int} (hw : Word d.L w) : (accA (preA d) w && !accA e w) = false := by
  rcases h1 : accA (preA d) w with _ | _
  · rfl
  · obtain ⟨u, hu, h2⟩ := (pre_acc g.ga hw).1 h1
    have h3 := h _ (word_append hw hu)
    rw [h2] at h3
    have h4 : accA e (w ++ u) = true := by simpa using h3
    have := hb w u (by rw [← g.eL]; exact hw) (by rw [← g.eL]; exact hu) h4
    rw [this]; rfl
theorem pre_pairs (f : Bool → Bool → Bool) (d e : Aut) : S2 (judge f d) e = S2 d e := rfl
/-! ### an automaton with at most two of the letter 1 -/
def fewA : Aut := ⟨2, 0, [[0, 1], [1, 2], [2, 3], [3, 3]], [true, true, true, false]⟩
theorem few_good : Good fewA := dchk_iff.1 (by decide)
theorem few_yes : accA fewA [1, 0, 1] = true := by decide
theorem few_no : accA fewA [1, 1, 1] = false := by decide
end Go.Proofs.YtbciefeipiphiaaDoor.Sa
