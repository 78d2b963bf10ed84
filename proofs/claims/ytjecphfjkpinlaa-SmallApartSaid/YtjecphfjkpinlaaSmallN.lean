/- Plain mathematics of small: which states of two automata are alike; the smallest automaton; there is one only. -/
import Derived.Test.YtjecphfjkpinlaaSmallM
namespace Go.Proofs.Ytjecphfjkpinlaa.Sm
open Go.Proofs.Ytjecphfjkpinlaa.Df Go.Proofs.Ytjecphfjkpinlaa.Wo Go.Proofs.Ytjecphfjkpinlaa.Rc

/-! ### two automata, read side by side -/
/-- Told apart by a word of just k letters. -/
def ap2 (a b : Aut) : Nat → Nat → Nat → Bool
  | 0, x, y => finA a x != finA b y
  | k + 1, x, y => (List.range a.L.toNat).any fun c => ap2 a b k (step a x c) (step b y c)
theorem ap2_iff {a b : Aut} {k x y : Nat} : ap2 a b k x y = true ↔ ∃ w, Word a.L w ∧ w.length = k ∧ finA a (runA a x w) ≠ finA b (runA b y w) := by
  induction k generalizing x y with
  | zero =>
    show (finA a x != finA b y) = true ↔ _
    rw [bne_iff_ne]
    constructor
    · intro h; exact ⟨[], by intro a ha; simp at ha, rfl, h⟩
    · rintro ⟨w, _, hl, hf⟩
      obtain rfl := List.eq_nil_of_length_eq_zero hl
      exact hf
  | succ k ih =>
    show ((List.range a.L.toNat).any fun c => ap2 a b k (step a x c) (step b y c)) = true ↔ _
    rw [List.any_eq_true]
    constructor
    · rintro ⟨c, hc, h⟩
      obtain ⟨w, hw, hl, hf⟩ := ih.1 h
      rw [List.mem_range] at hc
      refine ⟨(c : Int) :: w, fun e he => ?_, by simp [hl], hf⟩
      rcases List.mem_cons.1 he with rfl | he
      · exact ⟨by omega, by omega⟩
      · exact hw e he
    · rintro ⟨w, hw, hl, hf⟩
      rcases w with _ | ⟨c, w⟩
      · simp at hl
      · have hc := hw c List.mem_cons_self
        exact ⟨c.toNat, List.mem_range.2 (by omega), ih.2 ⟨w, fun e he => hw e (List.mem_cons_of_mem _ he), by simpa using hl, hf⟩⟩
theorem ap2_false {a b : Aut} {k x y : Nat} : ap2 a b k x y = false ↔ ∀ w, Word a.L w → w.length = k → finA a (runA a x w) = finA b (runA b y w) := by
  constructor
  · intro h w hw hl
    rcases Decidable.em (finA a (runA a x w) = finA b (runA b y w)) with e | e
    · exact e
    · rw [ap2_iff.2 ⟨w, hw, hl, e⟩] at h; cases h
  · intro h
    rcases e : ap2 a b k x y with _ | _
    · rfl
    · obtain ⟨w, hw, hl, h2⟩ := ap2_iff.1 e
      exact absurd (h w hw hl) h2
/-- Both in one system: those of b come after those of a. -/
def sig (a b : Aut) (x c : Nat) : Nat := if x < a.next.length then step a x c else a.next.length + step b (x - a.next.length) c
def phi (a b : Aut) (x : Nat) : Bool := if x < a.next.length then finA a x else finA b (x - a.next.length)
theorem sig_l {a b : Aut} {x c : Nat} (hx : x < a.next.length) : sig a b x c = step a x c := if_pos hx
theorem sig_r {a b : Aut} {y c : Nat} : sig a b (a.next.length + y) c = a.next.length + step b y c := by
  unfold sig; rw [if_neg (by omega)]; congr 2; omega
theorem phi_l {a b : Aut} {x : Nat} (hx : x < a.next.length) : phi a b x = finA a x := if_pos hx
theorem phi_r {a b : Aut} {y : Nat} : phi a b (a.next.length + y) = finA b y := by
  unfold phi; rw [if_neg (by omega)]; congr 1; omega
theorem any_congr' {α : Type} {l : List α} {p q : α → Bool} (h : ∀ x ∈ l, p x = q x) : l.any p = l.any q := by
  induction l with
  | nil => rfl
  | cons a l ih => simp only [List.any_cons]; rw [h a List.mem_cons_self, ih fun x hx => h x (List.mem_cons_of_mem _ hx)]
theorem ap2_union {a b : Aut} (g : Good2 a b) {k x y : Nat} (hx : x < a.next.length) : ap2 a b k x y = apF a.L.toNat (sig a b) (phi a b) k x (a.next.length + y) := by
  have h1 := g.ga.l1
  induction k generalizing x y with
  | zero =>
    show (finA a x != finA b y) = (phi a b x != phi a b (a.next.length + y))
    rw [phi_l hx, phi_r]
  | succ k ih =>
    show ((List.range a.L.toNat).any fun c => ap2 a b k (step a x c) (step b y c)) = ((List.range a.L.toNat).any fun c => apF a.L.toNat (sig a b) (phi a b) k (sig a b x c) (sig a b (a.next.length + y) c))
    refine any_congr' fun c hc => ?_
    have hc' := List.mem_range.1 hc
    rw [sig_l hx, sig_r]
    exact ih (g.ga.step_lt hx (by omega))
theorem ap2_self {a : Aut} {k x y : Nat} : ap2 a a k x y = apF a.L.toNat (step a) (finA a) k x y := by
  induction k generalizing x y with
  | zero => rfl
  | succ k ih =>
    show ((List.range a.L.toNat).any fun c => ap2 a a k (step a x c) (step a y c)) = ((List.range a.L.toNat).any fun c => apF a.L.toNat (step a) (finA a) k (step a x c) (step a y c))
    exact any_congr' fun c _ => ih
/-- Two states of two automata that are told apart at all are told apart by a short word. -/
theorem short2 {a b : Aut} (g : Good2 a b) {k x y : Nat} (hx : x < a.next.length) (hy : y < b.next.length) (h : ap2 a b k x y = true) :
    ∃ m, m ≤ k ∧ m + 2 ≤ a.next.length + b.next.length ∧ (∀ j, j < m → ap2 a b j x y = false) ∧ ap2 a b m x y = true := by
  rw [ap2_union g hx] at h
  have h1 := g.ga.l1
  have he := g.eL
  obtain ⟨m, h1, h2, h3, h4⟩ := apart_short (N := a.next.length + b.next.length) (fun z c hz hc => by
    unfold sig
    split
    · rename_i h; have := g.ga.step_lt h (a := c) (by omega); omega
    · have := g.gb.step_lt (q := z - a.next.length) (a := c) (by omega) (by omega); omega) (by omega) (by omega) h
  refine ⟨m, h1, h2, fun j hj => ?_, by rw [ap2_union g hx]; exact h4⟩
  rw [ap2_union g hx]
  exact relF_iff.1 h3 j hj
/-- Two states of one automaton. -/
theorem short1 {a : Aut} (g : Df.Good a) {k x y : Nat} (hx : x < a.next.length) (hy : y < a.next.length) (h : ap2 a a k x y = true) :
    ∃ m, m ≤ k ∧ m + 2 ≤ a.next.length ∧ (∀ j, j < m → ap2 a a j x y = false) ∧ ap2 a a m x y = true := by
  rw [ap2_self] at h
  have h1 := g.l1
  obtain ⟨m, h1, h2, h3, h4⟩ := apart_short (N := a.next.length) (fun z c hz hc => g.step_lt hz (by omega)) hx hy h
  refine ⟨m, h1, h2, fun j hj => ?_, by rw [ap2_self]; exact h4⟩
  rw [ap2_self]
  exact relF_iff.1 h3 j hj

/-! ### alike -/
/-- From the one and from the other the same words are accepted. -/
def Alike (a b : Aut) (x y : Nat) : Prop := ∀ w, Word a.L w → finA a (runA a x w) = finA b (runA b y w)
def sameB (a b : Aut) (x y : Nat) : Bool := (List.range (a.next.length + b.next.length)).all fun k => !ap2 a b k x y
theorem same_iff {a b : Aut} (g : Good2 a b) {x y : Nat} (hx : x < a.next.length) (hy : y < b.next.length) : sameB a b x y = true ↔ Alike a b x y := by
  unfold sameB
  rw [List.all_eq_true]
  constructor
  · intro h w hw
    rcases Decidable.em (finA a (runA a x w) = finA b (runA b y w)) with e | e
    · exact e
    · obtain ⟨m, _, h2, _, h4⟩ := short2 g hx hy (ap2_iff.2 ⟨w, hw, rfl, e⟩)
      have := h m (List.mem_range.2 (by omega))
      rw [h4] at this; cases this
  · intro h k _
    rw [ap2_false.2 fun w hw _ => h w hw]; rfl
theorem Alike.refl (a : Aut) (x : Nat) : Alike a a x x := fun _ _ => rfl
theorem Alike.symm {a b : Aut} {x y : Nat} (h : Alike a b x y) (e : a.L = b.L) : Alike b a y x := fun w hw => (h w (by rw [e]; exact hw)).symm
theorem Alike.trans {a b c : Aut} {x y z : Nat} (h : Alike a b x y) (h2 : Alike b c y z) (e : a.L = b.L) : Alike a c x z := fun w hw => (h w hw).trans (h2 w (by rw [← e]; exact hw))
theorem Alike.step {a b : Aut} {x y : Nat} (h : Alike a b x y) {c : Nat} (hc : (c : Int) < a.L) : Alike a b (step a x c) (step b y c) := fun w hw => by
  have := h ((c : Int) :: w) (fun e he => by
    rcases List.mem_cons.1 he with rfl | he
    · exact ⟨by omega, hc⟩
    · exact hw e he)
  exact this
theorem Alike.run {a b : Aut} {x y : Nat} (h : Alike a b x y) {v : List Int} (hv : Word a.L v) : Alike a b (runA a x v) (runA b y v) := fun w hw => by
  have := h (v ++ w) (fun e he => by
    rcases List.mem_append.1 he with he | he
    · exact hv e he
    · exact hw e he)
  rw [runA_append, runA_append] at this
  exact this
/-- The first one of b that is alike. -/
def kin (a b : Aut) (x : Nat) : Nat := (least b.next.length (sameB a b x)).getD 0
theorem kin_spec {a b : Aut} (g : Good2 a b) {x y : Nat} (hx : x < a.next.length) (hy : y < b.next.length) (h : Alike a b x y) :
    kin a b x ≤ y ∧ kin a b x < b.next.length ∧ Alike a b x (kin a b x) ∧ ∀ j, j < kin a b x → ¬ Alike a b x j := by
  rcases e : least b.next.length (sameB a b x) with _ | k
  · have := least_none e hy
    rw [(same_iff g hx hy).2 h] at this; cases this
  · obtain ⟨h1, h2, h3⟩ := least_some e
    have hk : kin a b x = k := by unfold kin; rw [e]; rfl
    rw [hk]
    have h4 : ∀ j, j < k → ¬ Alike a b x j := fun j hj ha => by
      have := h3 j hj
      rw [(same_iff g hx (by omega)).2 ha] at this; cases this
    refine ⟨?_, h1, (same_iff g hx h1).1 h2, h4⟩
    rcases Nat.lt_or_ge y k with hlt | hge
    · exact absurd h (h4 y hlt)
    · exact hge
/-- What is alike has the same kin. -/
theorem kin_congr {a a' b : Aut} (g : Good2 a b) (g' : Good2 a' b) {x x' y : Nat} (hx : x < a.next.length) (hx' : x' < a'.next.length) (hy : y < b.next.length) (h : Alike a b x y) (h' : Alike a a' x x') : kin a b x = kin a' b x' := by
  have e : a.L = a'.L := g.eL.trans g'.eL.symm
  have h2 : Alike a' b x' y := (h'.symm e).trans h e.symm
  obtain ⟨_, p1, p2, p3⟩ := kin_spec g hx hy h
  obtain ⟨_, q1, q2, q3⟩ := kin_spec g' hx' hy h2
  rcases Nat.lt_trichotomy (kin a b x) (kin a' b x') with hlt | e' | hlt
  · exact absurd ((h'.symm e).trans p2 e.symm) (q3 _ hlt)
  · exact e'
  · exact absurd (h'.trans q2 e) (p3 _ hlt)

/-! ### the smallest automaton -/
theorem Good2.self {d : Aut} (g : Df.Good d) : Good2 d d := ⟨g, g, rfl⟩
theorem stand_spec {d : Aut} (g : Df.Good d) {x : Nat} (hx : x < d.next.length) : kin d d x ≤ x ∧ kin d d x < d.next.length ∧ Alike d d x (kin d d x) := by
  obtain ⟨h1, h2, h3, _⟩ := kin_spec (Good2.self g) hx hx (Alike.refl d x)
  exact ⟨h1, h2, h3⟩
theorem stand_stand {d : Aut} (g : Df.Good d) {x : Nat} (hx : x < d.next.length) : kin d d (kin d d x) = kin d d x := by
  obtain ⟨_, h2, h3⟩ := stand_spec g hx
  exact (kin_congr (Good2.self g) (Good2.self g) hx h2 hx (Alike.refl d x) h3).symm
/-- Each way goes to the first one of its kind. -/
def quo (d : Aut) : Aut := ⟨d.L, ((kin d d d.s.toNat : Nat) : Int), (List.range d.next.length).map fun q => (S1 d q).map fun t => ((kin d d t : Nat) : Int), d.fin⟩
theorem quo_len (d : Aut) : (quo d).next.length = d.next.length := by simp [quo]
theorem quo_row {d : Aut} {q : Nat} (hq : q < d.next.length) : (quo d).next[q]? = some ((S1 d q).map fun t => ((kin d d t : Nat) : Int)) := by
  show ((List.range d.next.length).map fun q => (S1 d q).map fun t => ((kin d d t : Nat) : Int))[q]? = _
  rw [List.getElem?_map, List.getElem?_range hq]; rfl
theorem quo_step {d : Aut} {q c : Nat} (hq : q < d.next.length) (hc : (c : Int) < d.L) : step (quo d) q c = kin d d (step d q c) := by
  unfold step
  rw [quo_row hq, Option.getD_some, List.getElem?_map, S1_get d q hc]
  rfl
theorem quo_fin (d : Aut) (q : Nat) : finA (quo d) q = finA d q := rfl
theorem quo_good {d : Aut} (g : Df.Good d) : Df.Good (quo d) := by
  refine ⟨g.l1, g.l6, ?_, ?_, ?_, ?_, ?_, ?_⟩
  · rw [quo_len]; exact g.n1
  · rw [quo_len]; exact g.n40
  · rw [quo_len]; exact g.fin
  · intro r hr
    obtain ⟨q, _, rfl⟩ := List.mem_map.1 hr
    rw [List.length_map]
    exact S1_len g q
  · have := (stand_spec g g.s_lt).2.1
    refine ⟨?_, ?_⟩
    · show (0 : Int) ≤ ((kin d d d.s.toNat : Nat) : Int); omega
    · rw [quo_len]; show ((kin d d d.s.toNat : Nat) : Int) < _; omega
  · intro r hr x hx
    obtain ⟨q, hq, rfl⟩ := List.mem_map.1 hr
    obtain ⟨t, ht, rfl⟩ := List.mem_map.1 hx
    have := (stand_spec g (S1_lt g (List.mem_range.1 hq) ht)).2.1
    refine ⟨by omega, ?_⟩
    rw [quo_len]; omega
theorem quo_alike {d : Aut} (g : Df.Good d) {x : Nat} (hx : x < d.next.length) : Alike (quo d) d x x := by
  intro w
  induction w generalizing x with
  | nil => intro _; rfl
  | cons c w ih =>
    intro hw
    have hc := hw c List.mem_cons_self
    have hc' : ((c.toNat : Nat) : Int) < d.L := by have := hc.2; have : c < d.L := this; omega
    have hw' : Word d.L w := fun e he => hw e (List.mem_cons_of_mem _ he)
    have hs := g.step_lt hx hc'
    obtain ⟨_, h2, h3⟩ := stand_spec g hs
    show finA (quo d) (runA (quo d) (step (quo d) x c.toNat) w) = finA d (runA d (step d x c.toNat) w)
    rw [quo_step hx hc', ih h2 hw', h3 w hw']
theorem quo_acc {d : Aut} (g : Df.Good d) {w : List Int} (hw : Word d.L w) : accA (quo d) w = accA d w := by
  show finA (quo d) (runA (quo d) (kin d d d.s.toNat) w) = finA d (runA d d.s.toNat w)
  obtain ⟨_, h2, h3⟩ := stand_spec g g.s_lt
  rw [quo_alike g h2 w hw, h3 w hw]
def minA (d : Aut) : Aut := trimA (quo d)
theorem min_good {d : Aut} (g : Df.Good d) : Df.Good (minA d) := trim_good (quo_good g)
theorem min_acc {d : Aut} (g : Df.Good d) {w : List Int} (hw : Word d.L w) : accA (minA d) w = accA d w := by
  unfold minA
  rw [trim_acc (quo_good g) hw, quo_acc g hw]
theorem min_L (d : Aut) : (minA d).L = d.L := rfl
theorem trim_states {d : Aut} (g : Df.Good d) : (trimA d).next.length ≤ d.next.length := by
  have hn : (trimA d).next.length = (rset d d.s.toNat).length := by unfold trimA autOf; simp
  rw [hn]
  exact nodup_le _ _ (rset_whole g g.s_lt).nd fun x hx => rset_lt g g.s_lt hx
theorem min_states {d : Aut} (g : Df.Good d) : (minA d).next.length ≤ d.next.length := by
  have := trim_states (quo_good g)
  rw [quo_len] at this
  exact this
end Go.Proofs.Ytjecphfjkpinlaa.Sm
