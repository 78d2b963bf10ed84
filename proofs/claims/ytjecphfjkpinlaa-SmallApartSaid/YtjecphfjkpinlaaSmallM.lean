/- Plain mathematics of small: words that tell two states apart, how long the shortest one is, the smallest automaton, and that there is one only. -/
import Derived.Test.YtjecphfjkpinlaaReachN
namespace Go.Proofs.Ytjecphfjkpinlaa.Sm
open Go.Proofs.Ytjecphfjkpinlaa.Df Go.Proofs.Ytjecphfjkpinlaa.Wo Go.Proofs.Ytjecphfjkpinlaa.Rc

/-! ### a system of n states: how far two states are alike -/
/-- A word leads on. -/
def runF (σ : Nat → Nat → Nat) (x : Nat) (w : List Nat) : Nat := w.foldl σ x
/-- Told apart by a word of just k letters below L. -/
def apF (L : Nat) (σ : Nat → Nat → Nat) (φ : Nat → Bool) : Nat → Nat → Nat → Bool
  | 0, x, y => φ x != φ y
  | k + 1, x, y => (List.range L).any fun c => apF L σ φ k (σ x c) (σ y c)
theorem apF_iff {L : Nat} {σ : Nat → Nat → Nat} {φ : Nat → Bool} {k x y : Nat} : apF L σ φ k x y = true ↔ ∃ w : List Nat, (∀ a ∈ w, a < L) ∧ w.length = k ∧ φ (runF σ x w) ≠ φ (runF σ y w) := by
  induction k generalizing x y with
  | zero =>
    show (φ x != φ y) = true ↔ _
    rw [bne_iff_ne]
    constructor
    · intro h; exact ⟨[], by simp, rfl, h⟩
    · rintro ⟨w, _, hl, h⟩
      obtain rfl := List.eq_nil_of_length_eq_zero hl
      exact h
  | succ k ih =>
    show ((List.range L).any fun c => apF L σ φ k (σ x c) (σ y c)) = true ↔ _
    rw [List.any_eq_true]
    constructor
    · rintro ⟨c, hc, h⟩
      obtain ⟨w, hw, hl, h2⟩ := ih.1 h
      refine ⟨c :: w, fun a ha => ?_, by simp [hl], h2⟩
      rcases List.mem_cons.1 ha with rfl | ha
      · exact List.mem_range.1 hc
      · exact hw a ha
    · rintro ⟨w, hw, hl, h2⟩
      rcases w with _ | ⟨c, w⟩
      · simp at hl
      · exact ⟨c, List.mem_range.2 (hw c List.mem_cons_self), ih.2 ⟨w, fun a ha => hw a (List.mem_cons_of_mem _ ha), by simpa using hl, h2⟩⟩
section
variable {L : Nat} {σ : Nat → Nat → Nat} {φ : Nat → Bool}
theorem apF_false {k x y : Nat} : apF L σ φ k x y = false ↔ ∀ w : List Nat, (∀ a ∈ w, a < L) → w.length = k → φ (runF σ x w) = φ (runF σ y w) := by
  constructor
  · intro h w hw hl
    rcases Decidable.em (φ (runF σ x w) = φ (runF σ y w)) with e | e
    · exact e
    · rw [apF_iff.2 ⟨w, hw, hl, e⟩] at h; cases h
  · intro h
    rcases e : apF L σ φ k x y with _ | _
    · rfl
    · obtain ⟨w, hw, hl, h2⟩ := apF_iff.1 e
      exact absurd (h w hw hl) h2
/-- Alike as far as all words shorter than k. -/
def relF (L : Nat) (σ : Nat → Nat → Nat) (φ : Nat → Bool) (k x y : Nat) : Bool := (List.range k).all fun j => !apF L σ φ j x y
theorem relF_iff {k x y : Nat} : relF L σ φ k x y = true ↔ ∀ j, j < k → apF L σ φ j x y = false := by
  unfold relF
  rw [List.all_eq_true]
  constructor
  · intro h j hj
    have := h j (List.mem_range.2 hj)
    simpa using this
  · intro h j hj
    rw [h j (List.mem_range.1 hj)]; rfl
theorem relF_refl (k x : Nat) : relF L σ φ k x x = true := relF_iff.2 fun _ _ => apF_false.2 fun _ _ _ => rfl
theorem relF_symm {k x y : Nat} (h : relF L σ φ k x y = true) : relF L σ φ k y x = true := relF_iff.2 fun j hj => apF_false.2 fun w hw hl => ((apF_false.1 (relF_iff.1 h j hj)) w hw hl).symm
theorem relF_trans {k x y z : Nat} (h1 : relF L σ φ k x y = true) (h2 : relF L σ φ k y z = true) : relF L σ φ k x z = true :=
  relF_iff.2 fun j hj => apF_false.2 fun w hw hl => ((apF_false.1 (relF_iff.1 h1 j hj)) w hw hl).trans ((apF_false.1 (relF_iff.1 h2 j hj)) w hw hl)
theorem relF_less {k j x y : Nat} (h : relF L σ φ k x y = true) (hj : j ≤ k) : relF L σ φ j x y = true := relF_iff.2 fun i hi => relF_iff.1 h i (by omega)
/-- The first one of its kind. -/
def repF (L : Nat) (σ : Nat → Nat → Nat) (φ : Nat → Bool) (k x : Nat) : Bool := (List.range x).all fun y => !relF L σ φ k y x
theorem repF_iff {k x : Nat} : repF L σ φ k x = true ↔ ∀ y, y < x → relF L σ φ k y x = false := by
  unfold repF
  rw [List.all_eq_true]
  constructor
  · intro h y hy
    have := h y (List.mem_range.2 hy)
    simpa using this
  · intro h y hy
    rw [h y (List.mem_range.1 hy)]; rfl
/-- Each one has a first one of its kind. -/
theorem rep_of (k : Nat) : ∀ x, ∃ y, y ≤ x ∧ relF L σ φ k y x = true ∧ repF L σ φ k y = true := by
  intro x
  induction x using Nat.strongRecOn with
  | ind x ih =>
    by_cases h : repF L σ φ k x = true
    · exact ⟨x, Nat.le_refl _, relF_refl _ _, h⟩
    · have h' : ¬ ∀ y, y < x → relF L σ φ k y x = false := fun q => h (repF_iff.2 q)
      obtain ⟨y, hy⟩ := Classical.not_forall.1 h'
      obtain ⟨hy1, hy2⟩ := Classical.not_imp.1 hy
      obtain ⟨z, hz1, hz2, hz3⟩ := ih y hy1
      have hyx : relF L σ φ k y x = true := by
        rcases e : relF L σ φ k y x with _ | _
        · exact absurd e hy2
        · rfl
      exact ⟨z, by omega, relF_trans hz2 hyx, hz3⟩
theorem rep_unique {k x y : Nat} (hx : repF L σ φ k x = true) (hy : repF L σ φ k y = true) (h : relF L σ φ k x y = true) : x = y := by
  rcases Nat.lt_trichotomy x y with hlt | e | hlt
  · rw [repF_iff.1 hy x hlt] at h; cases h
  · exact e
  · have h' := relF_symm h
    rw [repF_iff.1 hx y hlt] at h'; cases h'
theorem relF_up {k x y : Nat} (h : relF L σ φ k x y = true) (ha : apF L σ φ k x y = false) : relF L σ φ (k + 1) x y = true := relF_iff.2 fun j hj => by
  rcases Nat.lt_or_eq_of_le (Nat.le_of_lt_succ hj) with h1 | rfl
  · exact relF_iff.1 h j h1
  · exact ha
theorem relF_down {k x y : Nat} (ha : apF L σ φ k x y = true) : relF L σ φ (k + 1) x y = false := by
  rcases e : relF L σ φ (k + 1) x y with _ | _
  · rfl
  · rw [relF_iff.1 e k (by omega)] at ha; cases ha
theorem repF_up {k x : Nat} (h : repF L σ φ k x = true) : repF L σ φ (k + 1) x = true := repF_iff.2 fun y hy => by
  rcases e : relF L σ φ (k + 1) y x with _ | _
  · rfl
  · have := repF_iff.1 h y hy
    rw [relF_less e (by omega)] at this; cases this
theorem filter_lt {α : Type} {l : List α} {p q : α → Bool} (h : ∀ x ∈ l, p x = true → q x = true) {z : α} (hz : z ∈ l) (hq : q z = true) (hp : p z = false) : (l.filter p).length < (l.filter q).length := by
  induction l with
  | nil => cases hz
  | cons a l ih =>
    have hle : (l.filter p).length ≤ (l.filter q).length := by
      clear ih hz
      induction l with
      | nil => simp
      | cons b l ih =>
        have hb := h b (by simp)
        have := ih (fun x hx => h x (by rcases List.mem_cons.1 hx with rfl | hx <;> simp_all))
        rcases e : p b with _ | _ <;> rcases e2 : q b with _ | _ <;> simp_all <;> omega
    rcases List.mem_cons.1 hz with rfl | hz'
    · simp [hp, hq]; omega
    · have := ih (fun x hx => h x (List.mem_cons_of_mem _ hx)) hz'
      have ha := h a List.mem_cons_self
      rcases e : p a with _ | _ <;> rcases e2 : q a with _ | _ <;> simp_all <;> omega
/-- How many kinds there are at level k. -/
def kinds (L : Nat) (σ : Nat → Nat → Nat) (φ : Nat → Bool) (N k : Nat) : Nat := ((List.range N).filter (repF L σ φ k)).length
theorem kinds_step {N k x y : Nat} (hx : x < N) (hy : y < N) (h : relF L σ φ k x y = true) (ha : apF L σ φ k x y = true) : kinds L σ φ N k < kinds L σ φ N (k + 1) := by
  obtain ⟨x', hx1, hx2, hx3⟩ := rep_of (L := L) (σ := σ) (φ := φ) (k + 1) x
  obtain ⟨y', hy1, hy2, hy3⟩ := rep_of (L := L) (σ := σ) (φ := φ) (k + 1) y
  have hne : x' ≠ y' := by
    rintro rfl
    have := relF_trans (relF_symm hx2) hy2
    rw [relF_down ha] at this; cases this
  have hal : relF L σ φ k x' y' = true := relF_trans (relF_trans (relF_less hx2 (by omega)) h) (relF_symm (relF_less hy2 (by omega)))
  unfold kinds
  rcases e : repF L σ φ k x' with _ | _
  · exact filter_lt (fun z _ hz => repF_up hz) (List.mem_range.2 (by omega)) hx3 e
  · rcases e2 : repF L σ φ k y' with _ | _
    · exact filter_lt (fun z _ hz => repF_up hz) (List.mem_range.2 (by omega)) hy3 e2
    · exact absurd (rep_unique e e2 hal) hne
theorem kinds_le (N k : Nat) : kinds L σ φ N k ≤ N := by
  have := List.length_filter_le (repF L σ φ k) (List.range N)
  simpa [kinds] using this
theorem kinds_zero {N : Nat} (h : 0 < N) : 1 ≤ kinds L σ φ N 0 := by
  have h0 : (0 : Nat) ∈ (List.range N).filter (repF L σ φ 0) := List.mem_filter.2 ⟨List.mem_range.2 h, rfl⟩
  exact List.length_pos_of_mem h0
/-- At every level below the least that tells them apart, some two are newly told apart. -/
theorem chain {N : Nat} (hσ : ∀ x c, x < N → c < L → σ x c < N) {m : Nat} : ∀ {x y : Nat}, x < N → y < N → relF L σ φ m x y = true → apF L σ φ m x y = true →
    ∀ j, j ≤ m → ∃ x' y', x' < N ∧ y' < N ∧ relF L σ φ j x' y' = true ∧ apF L σ φ j x' y' = true := by
  induction m with
  | zero =>
    intro x y hx hy h ha j hj
    obtain rfl : j = 0 := by omega
    exact ⟨x, y, hx, hy, h, ha⟩
  | succ m ih =>
    intro x y hx hy h ha j hj
    rcases Nat.lt_or_eq_of_le hj with h1 | rfl
    · have ha' : ((List.range L).any fun c => apF L σ φ m (σ x c) (σ y c)) = true := ha
      obtain ⟨c, hc, hm⟩ := List.any_eq_true.1 ha'
      have hc' := List.mem_range.1 hc
      refine ih (hσ x c hx hc') (hσ y c hy hc') (relF_iff.2 fun i hi => ?_) hm j (by omega)
      rcases e : apF L σ φ i (σ x c) (σ y c) with _ | _
      · rfl
      · have : apF L σ φ (i + 1) x y = true := List.any_eq_true.2 ⟨c, hc, e⟩
        rw [relF_iff.1 h (i + 1) (by omega)] at this; cases this
    · exact ⟨x, y, hx, hy, h, ha⟩
theorem kinds_many {N : Nat} (hN : 0 < N) {m : Nat} (h : ∀ j, j ≤ m → ∃ x' y', x' < N ∧ y' < N ∧ relF L σ φ j x' y' = true ∧ apF L σ φ j x' y' = true) : m + 2 ≤ kinds L σ φ N (m + 1) := by
  induction m with
  | zero =>
    obtain ⟨x, y, hx, hy, h1, h2⟩ := h 0 (by omega)
    have := kinds_step hx hy h1 h2
    have := kinds_zero (L := L) (σ := σ) (φ := φ) hN
    simp only [Nat.zero_add] at *; omega
  | succ m ih =>
    obtain ⟨x, y, hx, hy, h1, h2⟩ := h (m + 1) (by omega)
    have := kinds_step hx hy h1 h2
    have := ih (fun j hj => h j (by omega))
    omega
theorem least_apart {x y k : Nat} (h : apF L σ φ k x y = true) : ∃ m, m ≤ k ∧ relF L σ φ m x y = true ∧ apF L σ φ m x y = true := by
  induction k using Nat.strongRecOn with
  | ind k ih =>
    by_cases hr : relF L σ φ k x y = true
    · exact ⟨k, Nat.le_refl _, hr, h⟩
    · have : ¬ ∀ j, j < k → apF L σ φ j x y = false := fun q => hr (relF_iff.2 q)
      obtain ⟨j, hj⟩ := Classical.not_forall.1 this
      obtain ⟨h1, h2⟩ := Classical.not_imp.1 hj
      obtain ⟨m, hm, h3⟩ := ih j h1 (by rcases e : apF L σ φ j x y with _ | _; exact absurd e h2; rfl)
      exact ⟨m, by omega, h3⟩
/-- Two of N that are told apart at all are told apart by a word of at most N less two letters. -/
theorem apart_short {N : Nat} (hσ : ∀ x c, x < N → c < L → σ x c < N) {x y k : Nat} (hx : x < N) (hy : y < N) (h : apF L σ φ k x y = true) : ∃ m, m ≤ k ∧ m + 2 ≤ N ∧ relF L σ φ m x y = true ∧ apF L σ φ m x y = true := by
  obtain ⟨m, hm, h1, h2⟩ := least_apart h
  have := kinds_many (by omega : 0 < N) (chain hσ hx hy h1 h2)
  have := kinds_le (L := L) (σ := σ) (φ := φ) N (m + 1)
  exact ⟨m, hm, by omega, h1, h2⟩
end
end Go.Proofs.Ytjecphfjkpinlaa.Sm
