/- Plain mathematics of small: the table of all pairs, by how many steps they are told apart, round by round. -/
import Derived.Test.YtjecphfjkpinlaaSmallP
namespace Go.Proofs.Ytjecphfjkpinlaa.Sm
open Go.Proofs.Ytjecphfjkpinlaa.Df Go.Proofs.Ytjecphfjkpinlaa.Wo Go.Proofs.Ytjecphfjkpinlaa.Rc

/-- In how many steps two states are told apart; -1: never. -/
def lev (a b : Aut) (x y : Nat) : Int := match least (a.next.length + b.next.length) (fun k => ap2 a b k x y) with
  | none => -1
  | some k => ((k : Nat) : Int)
theorem lev_cases (a b : Aut) (x y : Nat) : lev a b x y = -1 ∨ ∃ k : Nat, lev a b x y = (k : Int) := by
  unfold lev
  rcases least (a.next.length + b.next.length) (fun k => ap2 a b k x y) with _ | k
  · exact .inl rfl
  · exact .inr ⟨k, rfl⟩
theorem lev_eq {a b : Aut} (g : Good2 a b) {x y k : Nat} (hx : x < a.next.length) (hy : y < b.next.length) : lev a b x y = (k : Int) ↔ ap2 a b k x y = true ∧ ∀ j, j < k → ap2 a b j x y = false := by
  constructor
  · intro h
    unfold lev at h
    rcases e : least (a.next.length + b.next.length) (fun k => ap2 a b k x y) with _ | m
    · rw [e] at h; have h : (-1 : Int) = (k : Int) := h; omega
    · rw [e] at h
      have h : ((m : Nat) : Int) = (k : Int) := h
      obtain rfl : m = k := by omega
      obtain ⟨_, h2, h3⟩ := least_some e
      exact ⟨h2, h3⟩
  · rintro ⟨h1, h2⟩
    obtain ⟨m, q1, q2, _, q4⟩ := short2 g hx hy h1
    have hmk : m = k := by
      rcases Nat.lt_or_eq_of_le q1 with hlt | e
      · rw [h2 m hlt] at q4; cases q4
      · exact e
    subst hmk
    have e : least (a.next.length + b.next.length) (fun k => ap2 a b k x y) = some m := least_is (by omega) h1 h2
    unfold lev; rw [e]
theorem lev_lt {a b : Aut} (g : Good2 a b) {x y k : Nat} (hx : x < a.next.length) (hy : y < b.next.length) (h : lev a b x y = (k : Int)) : k + 2 ≤ a.next.length + b.next.length := by
  obtain ⟨h1, h2⟩ := (lev_eq g hx hy).1 h
  obtain ⟨m, q1, q2, _, q4⟩ := short2 g hx hy h1
  rcases Nat.lt_or_eq_of_le q1 with hlt | e
  · rw [h2 m hlt] at q4; cases q4
  · omega
theorem lev_never {a b : Aut} (g : Good2 a b) {x y : Nat} (hx : x < a.next.length) (hy : y < b.next.length) : lev a b x y = -1 ↔ Alike a b x y := by
  rw [← diffW_none g hx hy]
  unfold lev diffW
  rcases least (a.next.length + b.next.length) (fun k => ap2 a b k x y) with _ | k
  · exact ⟨fun _ => rfl, fun _ => rfl⟩
  · constructor
    · intro h; have h : ((k : Nat) : Int) = -1 := h; omega
    · intro h; cases h
theorem lev_zero {a b : Aut} (g : Good2 a b) {x y : Nat} (hx : x < a.next.length) (hy : y < b.next.length) : lev a b x y = 0 ↔ finA a x ≠ finA b y := by
  have := lev_eq g hx hy (k := 0)
  constructor
  · intro h; exact bne_iff_ne.1 ((this.1 h).1)
  · intro h; exact this.2 ⟨bne_iff_ne.2 h, fun j hj => by omega⟩
/-- One level higher: some letter leads to a pair of the level below, and the pair is of no lower level. -/
theorem lev_down {a b : Aut} (g : Good2 a b) {x y k : Nat} (hx : x < a.next.length) (hy : y < b.next.length) (h : lev a b x y = ((k + 1 : Nat) : Int)) : ∃ c : Nat, (c : Int) < a.L ∧ lev a b (step a x c) (step b y c) = (k : Int) := by
  obtain ⟨h1, h2⟩ := (lev_eq g hx hy).1 h
  have h1' : ((List.range a.L.toNat).any fun c => ap2 a b k (step a x c) (step b y c)) = true := h1
  obtain ⟨c, hc, hp⟩ := List.any_eq_true.1 h1'
  have hc' := List.mem_range.1 hc
  have hcL : (c : Int) < a.L := by omega
  refine ⟨c, hcL, (lev_eq g (g.ga.step_lt hx hcL) (g.gb.step_lt hy (by rw [← g.eL]; exact hcL))).2 ⟨hp, fun j hj => ?_⟩⟩
  rcases e : ap2 a b j (step a x c) (step b y c) with _ | _
  · rfl
  · have : ap2 a b (j + 1) x y = true := List.any_eq_true.2 ⟨c, hc, e⟩
    rw [h2 (j + 1) (by omega)] at this; cases this
theorem lev_up {a b : Aut} (g : Good2 a b) {x y k c : Nat} (hx : x < a.next.length) (hy : y < b.next.length) (hc : (c : Int) < a.L) (h : lev a b (step a x c) (step b y c) = (k : Int)) (hn : ∀ j : Nat, j ≤ k → lev a b x y ≠ (j : Int)) : lev a b x y = ((k + 1 : Nat) : Int) := by
  obtain ⟨h1, _⟩ := (lev_eq g (g.ga.step_lt hx hc) (g.gb.step_lt hy (by rw [← g.eL]; exact hc))).1 h
  have hup : ap2 a b (k + 1) x y = true := List.any_eq_true.2 ⟨c, List.mem_range.2 (by omega), h1⟩
  obtain ⟨m, q1, _, q3, q4⟩ := short2 g hx hy hup
  have hm := (lev_eq g hx hy).2 ⟨q4, q3⟩
  rcases Nat.lt_or_eq_of_le q1 with hlt | e
  · exact absurd hm (hn m (by omega))
  · rw [← e]; exact hm
/-- If none is of a level, none is of a higher one. -/
theorem lev_gap {a b : Aut} (g : Good2 a b) {k : Nat} (h : ∀ x y, x < a.next.length → y < b.next.length → lev a b x y ≠ (k : Int)) :
    ∀ j, k ≤ j → ∀ x y, x < a.next.length → y < b.next.length → lev a b x y ≠ (j : Int) := by
  intro j
  induction j with
  | zero => intro hk x y hx hy; obtain rfl : k = 0 := by omega
            exact h x y hx hy
  | succ j ih =>
    intro hk x y hx hy e
    rcases Nat.lt_or_eq_of_le hk with hlt | rfl
    · obtain ⟨c, hc, hl⟩ := lev_down g hx hy e
      exact ih (by omega) _ _ (g.ga.step_lt hx hc) (g.gb.step_lt hy (by rw [← g.eL]; exact hc)) hl
    · exact h x y hx hy e

/-! ### the table -/
/-- What the table holds of a pair in round k: before, and after the pair's turn. -/
def val (a b : Aut) (k : Nat) (done : Bool) (x y : Nat) : Int := if lev a b x y < (k : Int) ∨ (lev a b x y = (k : Int) ∧ done = true) then lev a b x y else -1
theorem val_known {a b : Aut} {k : Nat} {e : Bool} {x y : Nat} (h : 0 ≤ val a b k e x y) : val a b k e x y = lev a b x y := by
  unfold val at h ⊢
  split
  · rfl
  · rename_i hn; rw [if_neg hn] at h; omega
theorem val_neg {a b : Aut} {k : Nat} {x y : Nat} (h : val a b k false x y < 0) {j : Nat} (hj : j < k) : lev a b x y ≠ (j : Int) := by
  intro e
  unfold val at h
  rw [if_pos (.inl (by omega))] at h
  omega
theorem val_hit {a b : Aut} {k : Nat} {e : Bool} {x y : Nat} : val a b (k + 1) e x y = (k : Int) ↔ lev a b x y = (k : Int) := by
  unfold val
  constructor
  · intro h
    split at h
    · exact h
    · omega
  · intro h
    rw [if_pos (.inl (by omega))]; exact h
theorem val_old {a b : Aut} {k : Nat} {x y : Nat} (h : 0 ≤ val a b k false x y) : val a b k true x y = val a b k false x y := by
  have h1 : lev a b x y < (k : Int) := by
    unfold val at h
    split at h
    · rename_i q
      rcases q with q | q
      · exact q
      · exact absurd q.2 (by decide)
    · omega
  unfold val
  rw [if_pos (.inl h1), if_pos (.inl h1)]
/-- A pair whose turn it is, and a letter that leads to the level below. -/
theorem val_set {a b : Aut} (g : Good2 a b) {k x y c : Nat} (hx : x < a.next.length) (hy : y < b.next.length) (h : val a b (k + 1) false x y < 0) (hc : (c : Int) < a.L) (hl : lev a b (step a x c) (step b y c) = (k : Int)) : val a b (k + 1) true x y = ((k + 1 : Nat) : Int) := by
  have e := lev_up g hx hy hc hl fun j hj => val_neg h (by omega)
  unfold val
  rw [if_pos (.inr ⟨e, rfl⟩)]; exact e
/-- A pair whose turn it is, and no such letter. -/
theorem val_keep {a b : Aut} (g : Good2 a b) {k x y : Nat} (hx : x < a.next.length) (hy : y < b.next.length) (h : ∀ c : Nat, (c : Int) < a.L → lev a b (step a x c) (step b y c) ≠ (k : Int)) : val a b (k + 1) true x y = val a b (k + 1) false x y ∧ lev a b x y ≠ ((k + 1 : Nat) : Int) := by
  have hn : lev a b x y ≠ ((k + 1 : Nat) : Int) := fun e => by
    obtain ⟨c, hc, hl⟩ := lev_down g hx hy e
    exact h c hc hl
  refine ⟨?_, hn⟩
  unfold val
  by_cases q : lev a b x y < ((k + 1 : Nat) : Int)
  · rw [if_pos (.inl q), if_pos (.inl q)]
  · rw [if_neg (fun z => z.elim q fun z => hn z.1), if_neg (fun z => z.elim q fun z => hn z.1)]
theorem val_next (a b : Aut) (k x y : Nat) : val a b k true x y = val a b (k + 1) false x y := by
  unfold val
  by_cases q : lev a b x y < (k : Int) ∨ (lev a b x y = (k : Int) ∧ true = true)
  · rw [if_pos q, if_pos (.inl (by rcases q with q | q <;> omega))]
  · rw [if_neg q, if_neg (fun z => by
      rcases z with z | z
      · rcases Int.lt_or_eq_of_le (by omega : lev a b x y ≤ (k : Int)) with q1 | q1
        · exact q (.inl q1)
        · exact q (.inr ⟨q1, rfl⟩)
      · exact absurd z.2 (by decide))]
theorem val_start {a b : Aut} (g : Good2 a b) {x y : Nat} (hx : x < a.next.length) (hy : y < b.next.length) : val a b 1 false x y = if finA a x ≠ finA b y then 0 else -1 := by
  by_cases h : finA a x ≠ finA b y
  · have e := (lev_zero g hx hy).2 h
    rw [if_pos h]
    unfold val
    rw [if_pos (.inl (by omega)), e]
  · rw [if_neg h]
    have e : lev a b x y ≠ 0 := fun e => h ((lev_zero g hx hy).1 e)
    unfold val
    split
    · rename_i q
      rcases lev_cases a b x y with q1 | ⟨k, q1⟩
      · exact q1
      · rcases q with q | q
        · omega
        · exact absurd q.2 (by decide)
    · rfl
/-- When a round finds nothing, the table is whole. -/
theorem val_end {a b : Aut} (g : Good2 a b) {k : Nat} (h : ∀ x y, x < a.next.length → y < b.next.length → lev a b x y ≠ (k : Int)) {x y : Nat} (hx : x < a.next.length) (hy : y < b.next.length) (e : Bool) : val a b k e x y = lev a b x y := by
  unfold val
  split
  · rfl
  · rename_i q
    rcases lev_cases a b x y with q1 | ⟨j, q1⟩
    · exact q1.symm
    · have hj : ¬ j < k := fun hlt => q (.inl (by omega))
      exact absurd q1 (lev_gap g h j (by omega) x y hx hy)
/-- The word is read off the table: at each step the first letter that leads to the level below. -/
theorem pick2_lev {a b : Aut} (g : Good2 a b) {k x y : Nat} (hx : x < a.next.length) (hy : y < b.next.length) (h : lev a b x y = ((k + 1 : Nat) : Int)) {c : Nat} (hc : (c : Int) < a.L) (hl : lev a b (step a x c) (step b y c) = (k : Int))
    (hmin : ∀ e, e < c → lev a b (step a x e) (step b y e) ≠ (k : Int)) : pick2 a b (k + 1) x y = (c : Int) :: pick2 a b k (step a x c) (step b y c) := by
  have hL := g.ga.l1
  obtain ⟨_, h2⟩ := (lev_eq g hx hy).1 h
  refine pick2_succ (least_is (by omega) ((lev_eq g (g.ga.step_lt hx hc) (g.gb.step_lt hy (by rw [← g.eL]; exact hc))).1 hl).1 fun e he => ?_)
  have heL : (e : Int) < a.L := by omega
  rcases q : ap2 a b k (step a x e) (step b y e) with _ | _
  · rfl
  · refine absurd ((lev_eq g (g.ga.step_lt hx heL) (g.gb.step_lt hy (by rw [← g.eL]; exact heL))).2 ⟨q, fun j hj => ?_⟩) (hmin e he)
    rcases q2 : ap2 a b j (step a x e) (step b y e) with _ | _
    · rfl
    · have : ap2 a b (j + 1) x y = true := List.any_eq_true.2 ⟨e, List.mem_range.2 (by omega), q2⟩
      rw [h2 (j + 1) (by omega)] at this; cases this
theorem diffW_lev {a b : Aut} {x y k : Nat} (h : lev a b x y = (k : Int)) : diffW a b x y = some (pick2 a b k x y) := by
  unfold lev at h
  unfold diffW
  rcases e : least (a.next.length + b.next.length) (fun k => ap2 a b k x y) with _ | m
  · rw [e] at h; have h : (-1 : Int) = (k : Int) := h; omega
  · rw [e] at h
    have h : ((m : Nat) : Int) = (k : Int) := h
    obtain rfl : m = k := by omega
    rfl
end Go.Proofs.Ytjecphfjkpinlaa.Sm
