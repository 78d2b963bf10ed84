/- Plain mathematics of small: the first word that tells two states of two automata apart. -/
import Derived.Test.YtjecphfjkpinlaaSmallO
namespace Go.Proofs.Ytjecphfjkpinlaa.Sm
open Go.Proofs.Ytjecphfjkpinlaa.Df Go.Proofs.Ytjecphfjkpinlaa.Wo Go.Proofs.Ytjecphfjkpinlaa.Rc

/-- The first of the words of k letters that tell two states apart. -/
def pick2 (a b : Aut) : Nat → Nat → Nat → List Int
  | 0, _, _ => []
  | k + 1, x, y => match least a.L.toNat (fun c => ap2 a b k (step a x c) (step b y c)) with
    | none => []
    | some c => (c : Int) :: pick2 a b k (step a x c) (step b y c)
theorem least_letter2 {a b : Aut} {k x y : Nat} (h : ap2 a b (k + 1) x y = true) : ∃ c, least a.L.toNat (fun c => ap2 a b k (step a x c) (step b y c)) = some c := by
  rcases hl : least a.L.toNat (fun c => ap2 a b k (step a x c) (step b y c)) with _ | c
  · have h' : ((List.range a.L.toNat).any fun c => ap2 a b k (step a x c) (step b y c)) = true := h
    obtain ⟨c, hc, hp⟩ := List.any_eq_true.1 h'
    rw [List.mem_range] at hc
    have hz : ap2 a b k (step a x c) (step b y c) = false := least_none hl hc
    rw [hz] at hp; cases hp
  · exact ⟨c, rfl⟩
theorem pick2_succ {a b : Aut} {k x y c : Nat} (h : least a.L.toNat (fun c => ap2 a b k (step a x c) (step b y c)) = some c) : pick2 a b (k + 1) x y = (c : Int) :: pick2 a b k (step a x c) (step b y c) := by
  rw [pick2, h]
theorem pick2_ok {a b : Aut} {k x y : Nat} (h : ap2 a b k x y = true) : Word a.L (pick2 a b k x y) ∧ (pick2 a b k x y).length = k ∧ finA a (runA a x (pick2 a b k x y)) ≠ finA b (runA b y (pick2 a b k x y)) := by
  induction k generalizing x y with
  | zero => exact ⟨by intro e he; simp [pick2] at he, rfl, bne_iff_ne.1 h⟩
  | succ k ih =>
    obtain ⟨c, hc⟩ := least_letter2 h
    obtain ⟨h1, h2, _⟩ := least_some hc
    obtain ⟨h3, h4, h5⟩ := ih h2
    rw [pick2_succ hc]
    refine ⟨fun e he => ?_, by simp [h4], h5⟩
    rcases List.mem_cons.1 he with rfl | he
    · exact ⟨by omega, by omega⟩
    · exact h3 e he
theorem pick2_least {a b : Aut} {k x y : Nat} (h : ap2 a b k x y = true) {v : List Int} (hv : Word a.L v) (hl : v.length = k) (hf : finA a (runA a x v) ≠ finA b (runA b y v)) : lx v (pick2 a b k x y) = false := by
  induction k generalizing x y v with
  | zero =>
    obtain rfl := List.eq_nil_of_length_eq_zero hl
    rfl
  | succ k ih =>
    obtain ⟨c, hc⟩ := least_letter2 h
    obtain ⟨h1, h2, h3⟩ := least_some hc
    rcases v with _ | ⟨e, v⟩
    · simp at hl
    have he := hv e List.mem_cons_self
    have hv' : Word a.L v := fun z hz => hv z (List.mem_cons_of_mem _ hz)
    have hl' : v.length = k := by simpa using hl
    have hf' : finA a (runA a (step a x e.toNat) v) ≠ finA b (runA b (step b y e.toNat) v) := hf
    have hb2 : ap2 a b k (step a x e.toNat) (step b y e.toNat) = true := ap2_iff.2 ⟨v, hv', hl', hf'⟩
    rw [pick2_succ hc, lx]
    by_cases q : e = (c : Int)
    · rw [if_pos q]
      subst q
      exact ih h2 hv' hl' hf'
    · rw [if_neg q]
      refine decide_eq_false (fun hlt => ?_)
      have := h3 e.toNat (by omega)
      rw [this] at hb2; cases hb2
/-- The first word that tells two states apart. -/
def diffW (a b : Aut) (x y : Nat) : Option (List Int) := (least (a.next.length + b.next.length) (fun k => ap2 a b k x y)).map (fun k => pick2 a b k x y)
theorem diffW_none {a b : Aut} (g : Good2 a b) {x y : Nat} (hx : x < a.next.length) (hy : y < b.next.length) : diffW a b x y = none ↔ Alike a b x y := by
  constructor
  · intro h
    have hn : least (a.next.length + b.next.length) (fun k => ap2 a b k x y) = none := by
      unfold diffW at h
      simpa using h
    refine (same_iff g hx hy).1 ?_
    unfold sameB
    rw [List.all_eq_true]
    intro k hk
    have hz : ap2 a b k x y = false := least_none hn (List.mem_range.1 hk)
    rw [hz]; rfl
  · intro h
    rcases hd : diffW a b x y with _ | w
    · rfl
    · unfold diffW at hd
      obtain ⟨k, hk, _⟩ := Option.map_eq_some_iff.1 hd
      obtain ⟨_, h2, _⟩ := least_some hk
      rw [ap2_false.2 fun w hw _ => h w hw] at h2; cases h2
theorem diffW_some {a b : Aut} (g : Good2 a b) {x y : Nat} (hx : x < a.next.length) (hy : y < b.next.length) {w : List Int} (h : diffW a b x y = some w) :
    Word a.L w ∧ w.length + 2 ≤ a.next.length + b.next.length ∧ finA a (runA a x w) ≠ finA b (runA b y w) ∧ ∀ v, Word a.L v → finA a (runA a x v) ≠ finA b (runA b y v) → lss v w = false := by
  unfold diffW at h
  obtain ⟨k, hk, rfl⟩ := Option.map_eq_some_iff.1 h
  obtain ⟨_, h2, h3⟩ := least_some hk
  obtain ⟨p1, p2, p3⟩ := pick2_ok h2
  obtain ⟨m, q1, q2, _, q4⟩ := short2 g hx hy h2
  have hmk : m = k := by
    rcases Nat.lt_or_eq_of_le q1 with hlt | e
    · have hz : ap2 a b m x y = false := h3 m hlt
      rw [hz] at q4; cases q4
    · exact e
  refine ⟨p1, by omega, p3, fun v hv hf => ?_⟩
  unfold lss
  rw [p2]
  by_cases e : v.length = k
  · rw [if_pos e]; exact pick2_least h2 hv e hf
  · rw [if_neg e]
    refine decide_eq_false (fun hlt => ?_)
    have hz : ap2 a b v.length x y = false := h3 _ hlt
    rw [ap2_iff.2 ⟨v, hv, rfl, hf⟩] at hz; cases hz
/-- Within one automaton it is shorter than there are states. -/
theorem diffW_short {a : Aut} (g : Df.Good a) {x y : Nat} (hx : x < a.next.length) (hy : y < a.next.length) {w : List Int} (h : diffW a a x y = some w) : w.length + 2 ≤ a.next.length := by
  unfold diffW at h
  obtain ⟨k, hk, rfl⟩ := Option.map_eq_some_iff.1 h
  obtain ⟨_, h2, h3⟩ := least_some hk
  obtain ⟨_, p2, _⟩ := pick2_ok h2
  obtain ⟨m, q1, q2, _, q4⟩ := short1 g hx hy h2
  rcases Nat.lt_or_eq_of_le q1 with hlt | e
  · have hz : ap2 a a m x y = false := h3 m hlt
    rw [hz] at q4; cases q4
  · omega
/-- There is one first word only. -/
theorem diffW_unique {a b : Aut} (g : Good2 a b) {x y : Nat} (hx : x < a.next.length) (hy : y < b.next.length) {w : List Int} (hw : Word a.L w) (hf : finA a (runA a x w) ≠ finA b (runA b y w))
    (hmin : ∀ v, Word a.L v → finA a (runA a x v) ≠ finA b (runA b y v) → lss v w = false) : diffW a b x y = some w := by
  rcases h : diffW a b x y with _ | u
  · exact absurd ((diffW_none g hx hy).1 h w hw) hf
  · obtain ⟨h1, _, h3, h4⟩ := diffW_some g hx hy h
    rw [lss_total (h4 w hw hf) (hmin u h1 h3)]
/-- Turned, it is the same word. -/
theorem diffW_turn {a b : Aut} (g : Good2 a b) {x y : Nat} (hx : x < a.next.length) (hy : y < b.next.length) : diffW b a y x = diffW a b x y := by
  have g' : Good2 b a := ⟨g.gb, g.ga, g.eL.symm⟩
  have hL : ∀ {v}, Word b.L v → Word a.L v := fun h => by rw [g.eL]; exact h
  rcases h : diffW b a y x with _ | w
  · exact ((diffW_none g hx hy).2 (((diffW_none g' hy hx).1 h).symm g.eL.symm)).symm
  · obtain ⟨h1, _, h3, h4⟩ := diffW_some g' hy hx h
    exact (diffW_unique g hx hy (hL h1) (fun e => h3 e.symm) fun v hv hf => h4 v (by rw [← g.eL]; exact hv) fun e => hf e.symm).symm
/-- Of two states of two clones of one automaton, alike is what it is within the one. -/
theorem diff_apart {d : Aut} (g : Df.Good d) {i j : Nat} (hi : i < (minA d).next.length) (hj : j < (minA d).next.length) (h : i ≠ j) : ∃ w, diffW (minA d) (minA d) i j = some w ∧ w.length < (minA d).next.length := by
  have gm := min_good g
  rcases e : diffW (minA d) (minA d) i j with _ | w
  · exact absurd (min_apart g hi hj ((diffW_none (Good2.self gm) hi hj).1 e)) h
  · have := diffW_short gm hi hj e
    exact ⟨w, rfl, by omega⟩
end Go.Proofs.Ytjecphfjkpinlaa.Sm
