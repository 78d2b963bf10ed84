/- Plain mathematics of package small: words that tell states apart; the smallest automaton; the first word at which two differ; levels; what is found with no two alike. -/
import Derived.Test.YtlhhhdgkdbplmaaDoorReachN
namespace Go.Proofs.YtlhhhdgkdbplmaaDoor.Sm
open Go.Proofs.YtlhhhdgkdbplmaaDoor.Df Go.Proofs.YtlhhhdgkdbplmaaDoor.Wo Go.Proofs.YtlhhhdgkdbplmaaDoor.Rc

/-! ### a system of n states: how far two states are alike -/
/-- A word leads on. -/
def runF (σ : Nat → Nat → Nat) (x : Nat) (w : List Nat) : Nat := w.foldl σ x
/-- Told apart by a word of just k letters below L. -/
def apF (L : Nat) (σ : Nat → Nat → Nat) (φ : Nat → Bool) : Nat → Nat → Nat → Bool
  | 0, x, y => φ x != φ y
  | k + 1, x, y => (List.range L).any fun c => apF L σ φ k (σ x c) (σ y c)
theorem apF_iff {L : Nat} {σ : Nat → Nat → Nat} {φ : Nat → Bool} {k x y : Nat} : apF L σ φ k x y = true ↔ ∃ w : List Nat, (∀ a ∈ w, a < L) ∧ w.length = k ∧ φ (runF σ x w) ≠ φ (runF σ y w) := by
  induction k generalizing x y with
  | zero =>
    show (φ x != φ y) = true ↔ _
    rw [bne_iff_ne]
    constructor
    · intro h; exact ⟨[], by simp, rfl, h⟩
    · rintro ⟨w, _, hl, h⟩
      obtain rfl := List.eq_nil_of_length_eq_zero hl
      exact h
  | succ k ih =>
    show ((List.range L).any fun c => apF L σ φ k (σ x c) (σ y c)) = true ↔ _
    rw [List.any_eq_true]
    constructor
    · rintro ⟨c, hc, h⟩
      obtain ⟨w, hw, hl, h2⟩ := ih.1 h
      refine ⟨c :: w, fun a ha => ?_, by simp [hl], h2⟩
      rcases List.mem_cons.1 ha with rfl | ha
      · exact List.mem_range.1 hc
      · exact hw a ha
    · rintro ⟨w, hw, hl, h2⟩
      rcases w with _ | ⟨c, w⟩
      · simp at hl
      · exact ⟨c, List.mem_range.2 (hw c List.mem_cons_self), ih.2 ⟨w, fun a ha => hw a (List.mem_cons_of_mem _ ha), by simpa using hl, h2⟩⟩
section
variable {L : Nat} {σ : Nat → Nat → Nat} {φ : Nat → Bool}
theorem apF_false {k x y : Nat} : apF L σ φ k x y = false ↔ ∀ w : List Nat, (∀ a ∈ w, a < L) → w.length = k → φ (runF σ x w) = φ (runF σ y w) := by
  constructor
  · intro h w hw hl
    rcases Decidable.em (φ (runF σ x w) = φ (runF σ y w)) with e | e
    · exact e
    · rw [apF_iff.2 ⟨w, hw, hl, e⟩] at h; cases h
  · intro h
    rcases e : apF L σ φ k x y with _ | _
    · rfl
    · obtain ⟨w, hw, hl, h2⟩ := apF_iff.1 e
      exact absurd (h w hw hl) h2
/-- Alike as far as all words shorter than k. -/
def relF (L : Nat) (σ : Nat → Nat → Nat) (φ : Nat → Bool) (k x y : Nat) : Bool := (List.range k).all fun j => !apF L σ φ j x y
theorem relF_iff {k x y : Nat} : relF L σ φ k x y = true ↔ ∀ j, j < k → apF L σ φ j x y = false := by
  unfold relF
  rw [List.all_eq_true]
  constructor
  · intro h j hj
    have := h j (List.mem_range.2 hj)
    simpa using this
  · intro h j hj
    rw [h j (List.mem_range.1 hj)]; rfl
theorem relF_refl (k x : Nat) : relF L σ φ k x x = true := relF_iff.2 fun _ _ => apF_false.2 fun _ _ _ => rfl
theorem relF_symm {k x y : Nat} (h : relF L σ φ k x y = true) : relF L σ φ k y x = true := relF_iff.2 fun j hj => apF_false.2 fun w hw hl => ((apF_false.1 (relF_iff.1 h j hj)) w hw hl).symm
theorem relF_trans {k x y z : Nat} (h1 : relF L σ φ k x y = true) (h2 : relF L σ φ k y z = true) : relF L σ φ k x z = true :=
  relF_iff.2 fun j hj => apF_false.2 fun w hw hl => ((apF_false.1 (relF_iff.1 h1 j hj)) w hw hl).trans ((apF_false.1 (relF_iff.1 h2 j hj)) w hw hl)
theorem relF_less {k j x y : Nat} (h : relF L σ φ k x y = true) (hj : j ≤ k) : relF L σ φ j x y = true := relF_iff.2 fun i hi => relF_iff.1 h i (by omega)
/-- The first one of its kind. -/
def repF (L : Nat) (σ : Nat → Nat → Nat) (φ : Nat → Bool) (k x : Nat) : Bool := (List.range x).all fun y => !relF L σ φ k y x
theorem repF_iff {k x : Nat} : repF L σ φ k x = true ↔ ∀ y, y < x → relF L σ φ k y x = false := by
  unfold repF
  rw [List.all_eq_true]
  constructor
  · intro h y hy
    have := h y (List.mem_range.2 hy)
    simpa using this
  · intro h y hy
    rw [h y (List.mem_range.1 hy)]; rfl
/-- Each one has a first one of its kind. -/
theorem rep_of (k : Nat) : ∀ x, ∃ y, y ≤ x ∧ relF L σ φ k y x = true ∧ repF L σ φ k y = true := by
  intro x
  induction x using Nat.strongRecOn with
  | ind x ih =>
    by_cases h : repF L σ φ k x = true
    · exact ⟨x, Nat.le_refl _, relF_refl _ _, h⟩
    · have h' : ¬ ∀ y, y < x → relF L σ φ k y x = false := fun q => h (repF_iff.2 q)
      obtain ⟨y, hy⟩ := Classical.not_forall.1 h'
      obtain ⟨hy1, hy2⟩ := Classical.not_imp.1 hy
      obtain ⟨z, hz1, hz2, hz3⟩ := ih y hy1
      have hyx : relF L σ φ k y x = true := by
        rcases e : relF L σ φ k y x with _ | _
        · exact absurd e hy2
        · rfl
      exact ⟨z, by omega, relF_trans hz2 hyx, hz3⟩
theorem rep_unique {k x y : Nat} (hx : repF L σ φ k x = true) (hy : repF L σ φ k y = true) (h : relF L σ φ k x y = true) : x = y := by
  rcases Nat.lt_trichotomy x y with hlt | e | hlt
  · rw [repF_iff.1 hy x hlt] at h; cases h
  · exact e
  · have h' := relF_symm h
    rw [repF_iff.1 hx y hlt] at h'; cases h'
theorem relF_up {k x y : Nat} (h : relF L σ φ k x y = true) (ha : apF L σ φ k x y = false) : relF L σ φ (k + 1) x y = true := relF_iff.2 fun j hj => by
  rcases Nat.lt_or_eq_of_le (Nat.le_of_lt_succ hj) with h1 | rfl
  · exact relF_iff.1 h j h1
  · exact ha
theorem relF_down {k x y : Nat} (ha : apF L σ φ k x y = true) : relF L σ φ (k + 1) x y = false := by
  rcases e : relF L σ φ (k + 1) x y with _ | _
  · rfl
  · rw [relF_iff.1 e k (by omega)] at ha; cases ha
theorem repF_up {k x : Nat} (h : repF L σ φ k x = true) : repF L σ φ (k + 1) x = true := repF_iff.2 fun y hy => by
  rcases e : relF L σ φ (k + 1) y x with _ | _
  · rfl
  · have := repF_iff.1 h y hy
    rw [relF_less e (by omega)] at this; cases this
theorem filter_lt {α : Type} {l : List α} {p q : α → Bool} (h : ∀ x ∈ l, p x = true → q x = true) {z : α} (hz : z ∈ l) (hq : q z = true) (hp : p z = false) : (l.filter p).length < (l.filter q).length := by
  induction l with
  | nil => cases hz
  | cons a l ih =>
    have hle : (l.filter p).length ≤ (l.filter q).length := by
      clear ih hz
      induction l with
      | nil => simp
      | cons b l ih =>
        have hb := h b (by simp)
        have := ih (fun x hx => h x (by rcases List.mem_cons.1 hx with rfl | hx <;> simp_all))
        rcases e : p b with _ | _ <;> rcases e2 : q b with _ | _ <;> simp_all <;> omega
    rcases List.mem_cons.1 hz with rfl | hz'
    · simp [hp, hq]; omega
    · have := ih (fun x hx => h x (List.mem_cons_of_mem _ hx)) hz'
      have ha := h a List.mem_cons_self
      rcases e : p a with _ | _ <;> rcases e2 : q a with _ | _ <;> simp_all <;> omega
/-- How many kinds there are at level k. -/
def kinds (L : Nat) (σ : Nat → Nat → Nat) (φ : Nat → Bool) (N k : Nat) : Nat := ((List.range N).filter (repF L σ φ k)).length
theorem kinds_step {N k x y : Nat} (hx : x < N) (hy : y < N) (h : relF L σ φ k x y = true) (ha : apF L σ φ k x y = true) : kinds L σ φ N k < kinds L σ φ N (k + 1) := by
  obtain ⟨x', hx1, hx2, hx3⟩ := rep_of (L := L) (σ := σ) (φ := φ) (k + 1) x
  obtain ⟨y', hy1, hy2, hy3⟩ := rep_of (L := L) (σ := σ) (φ := φ) (k + 1) y
  have hne : x' ≠ y' := by
    rintro rfl
    have := relF_trans (relF_symm hx2) hy2
    rw [relF_down ha] at this; cases this
  have hal : relF L σ φ k x' y' = true := relF_trans (relF_trans (relF_less hx2 (by omega)) h) (relF_symm (relF_less hy2 (by omega)))
  unfold kinds
  rcases e : repF L σ φ k x' with _ | _
  · exact filter_lt (fun z _ hz => repF_up hz) (List.mem_range.2 (by omega)) hx3 e
  · rcases e2 : repF L σ φ k y' with _ | _
    · exact filter_lt (fun z _ hz => repF_up hz) (List.mem_range.2 (by omega)) hy3 e2
    · exact absurd (rep_unique e e2 hal) hne
theorem kinds_le (N k : Nat) : kinds L σ φ N k ≤ N := by
  have := List.length_filter_le (repF L σ φ k) (List.range N)
  simpa [kinds] using this
theorem kinds_zero {N : Nat} (h : 0 < N) : 1 ≤ kinds L σ φ N 0 := by
  have h0 : (0 : Nat) ∈ (List.range N).filter (repF L σ φ 0) := List.mem_filter.2 ⟨List.mem_range.2 h, rfl⟩
  exact List.length_pos_of_mem h0
/-- At every level below the least that tells them apart, some two are newly told apart. -/
theorem chain {N : Nat} (hσ : ∀ x c, x < N → c < L → σ x c < N) {m : Nat} : ∀ {x y : Nat}, x < N → y < N → relF L σ φ m x y = true → apF L σ φ m x y = true →
    ∀ j, j ≤ m → ∃ x' y', x' < N ∧ y' < N ∧ relF L σ φ j x' y' = true ∧ apF L σ φ j x' y' = true := by
  induction m with
  | zero =>
    intro x y hx hy h ha j hj
    obtain rfl : j = 0 := by omega
    exact ⟨x, y, hx, hy, h, ha⟩
  | succ m ih =>
    intro x y hx hy h ha j hj
    rcases Nat.lt_or_eq_of_le hj with h1 | rfl
    · have ha' : ((List.range L).any fun c => apF L σ φ m (σ x c) (σ y c)) = true := ha
      obtain ⟨c, hc, hm⟩ := List.any_eq_true.1 ha'
      have hc' := List.mem_range.1 hc
      refine ih (hσ x c hx hc') (hσ y c hy hc') (relF_iff.2 fun i hi => ?_) hm j (by omega)
      rcases e : apF L σ φ i (σ x c) (σ y c) with _ | _
      · rfl
      · have : apF L σ φ (i + 1) x y = true := List.any_eq_true.2 ⟨c, hc, e⟩
        rw [relF_iff.1 h (i + 1) (by omega)] at this; cases this
    · exact ⟨x, y, hx, hy, h, ha⟩
theorem kinds_many {N : Nat} (hN : 0 < N) {m : Nat} (h : ∀ j, j ≤ m → ∃ x' y', x' < N ∧ y' < N ∧ relF L σ φ j x' y' = true ∧ apF L σ φ j x' y' = true) : m + 2 ≤ kinds L σ φ N (m + 1) := by
  induction m with
  | zero =>
    obtain ⟨x, y, hx, hy, h1, h2⟩ := h 0 (by omega)
    have := kinds_step hx hy h1 h2
    have := kinds_zero (L := L) (σ := σ) (φ := φ) hN
    simp only [Nat.zero_add] at *; omega
  | succ m ih =>
    obtain ⟨x, y, hx, hy, h1, h2⟩ := h (m + 1) (by omega)
    have := kinds_step hx hy h1 h2
    have := ih (fun j hj => h j (by omega))
    omega
theorem least_apart {x y k : Nat} (h : apF L σ φ k x y = true) : ∃ m, m ≤ k ∧ relF L σ φ m x y = true ∧ apF L σ φ m x y = true := by
  induction k using Nat.strongRecOn with
  | ind k ih =>
    by_cases hr : relF L σ φ k x y = true
    · exact ⟨k, Nat.le_refl _, hr, h⟩
    · have : ¬ ∀ j, j < k → apF L σ φ j x y = false := fun q => hr (relF_iff.2 q)
      obtain ⟨j, hj⟩ := Classical.not_forall.1 this
      obtain ⟨h1, h2⟩ := Classical.not_imp.1 hj
      obtain ⟨m, hm, h3⟩ := ih j h1 (by rcases e : apF L σ φ j x y with _ | _; exact absurd e h2; rfl)
      exact ⟨m, by omega, h3⟩
/-- Two of N that are told apart at all are told apart by a word of at most N less two letters. -/
theorem apart_short {N : Nat} (hσ : ∀ x c, x < N → c < L → σ x c < N) {x y k : Nat} (hx : x < N) (hy : y < N) (h : apF L σ φ k x y = true) : ∃ m, m ≤ k ∧ m + 2 ≤ N ∧ relF L σ φ m x y = true ∧ apF L σ φ m x y = true := by
  obtain ⟨m, hm, h1, h2⟩ := least_apart h
  have := kinds_many (by omega : 0 < N) (chain hσ hx hy h1 h2)
  have := kinds_le (L := L) (σ := σ) (φ := φ) N (m + 1)
  exact ⟨m, hm, by omega, h1, h2⟩
end
end Go.Proofs.YtlhhhdgkdbplmaaDoor.Sm

namespace Go.Proofs.YtlhhhdgkdbplmaaDoor.Sm
open Go.Proofs.YtlhhhdgkdbplmaaDoor.Df Go.Proofs.YtlhhhdgkdbplmaaDoor.Wo Go.Proofs.YtlhhhdgkdbplmaaDoor.Rc

/-! ### two automata, read side by side -/
/-- Told apart by a word of just k letters. -/
def ap2 (a b : Aut) : Nat → Nat → Nat → Bool
  | 0, x, y => finA a x != finA b y
  | k + 1, x, y => (List.range a.L.toNat).any fun c => ap2 a b k (step a x c) (step b y c)
theorem ap2_iff {a b : Aut} {k x y : Nat} : ap2 a b k x y = true ↔ ∃ w, Word a.L w ∧ w.length = k ∧ finA a (runA a x w) ≠ finA b (runA b y w) := by
  induction k generalizing x y with
  | zero =>
    show (finA a x != finA b y) = true ↔ _
    rw [bne_iff_ne]
    constructor
    · intro h; exact ⟨[], by intro a ha; simp at ha, rfl, h⟩
    · rintro ⟨w, _, hl, hf⟩
      obtain rfl := List.eq_nil_of_length_eq_zero hl
      exact hf
  | succ k ih =>
    show ((List.range a.L.toNat).any fun c => ap2 a b k (step a x c) (step b y c)) = true ↔ _
    rw [List.any_eq_true]
    constructor
    · rintro ⟨c, hc, h⟩
      obtain ⟨w, hw, hl, hf⟩ := ih.1 h
      rw [List.mem_range] at hc
      refine ⟨(c : Int) :: w, fun e he => ?_, by simp [hl], hf⟩
      rcases List.mem_cons.1 he with rfl | he
      · exact ⟨by omega, by omega⟩
      · exact hw e he
    · rintro ⟨w, hw, hl, hf⟩
      rcases w with _ | ⟨c, w⟩
      · simp at hl
      · have hc := hw c List.mem_cons_self
        exact ⟨c.toNat, List.mem_range.2 (by omega), ih.2 ⟨w, fun e he => hw e (List.mem_cons_of_mem _ he), by simpa using hl, hf⟩⟩
theorem ap2_false {a b : Aut} {k x y : Nat} : ap2 a b k x y = false ↔ ∀ w, Word a.L w → w.length = k → finA a (runA a x w) = finA b (runA b y w) := by
  constructor
  · intro h w hw hl
    rcases Decidable.em (finA a (runA a x w) = finA b (runA b y w)) with e | e
    · exact e
    · rw [ap2_iff.2 ⟨w, hw, hl, e⟩] at h; cases h
  · intro h
    rcases e : ap2 a b k x y with _ | _
    · rfl
    · obtain ⟨w, hw, hl, h2⟩ := ap2_iff.1 e
      exact absurd (h w hw hl) h2
/-- Both in one system: those of b come after those of a. -/
def sig (a b : Aut) (x c : Nat) : Nat := if x < a.next.length then step a x c else a.next.length + step b (x - a.next.length) c
def phi (a b : Aut) (x : Nat) : Bool := if x < a.next.length then finA a x else finA b (x - a.next.length)
theorem sig_l {a b : Aut} {x c : Nat} (hx : x < a.next.length) : sig a b x c = step a x c := if_pos hx
theorem sig_r {a b : Aut} {y c : Nat} : sig a b (a.next.length + y) c = a.next.length + step b y c := by
  unfold sig; rw [if_neg (by omega)]; congr 2; omega
theorem phi_l {a b : Aut} {x : Nat} (hx : x < a.next.length) : phi a b x = finA a x := if_pos hx
theorem phi_r {a b : Aut} {y : Nat} : phi a b (a.next.length + y) = finA b y := by
  unfold phi; rw [if_neg (by omega)]; congr 1; omega
theorem any_congr' {α : Type} {l : List α} {p q : α → Bool} (h : ∀ x ∈ l, p x = q x) : l.any p = l.any q := by
  induction l with
  | nil => rfl
  | cons a l ih => simp only [List.any_cons]; rw [h a List.mem_cons_self, ih fun x hx => h x (List.mem_cons_of_mem _ hx)]
theorem ap2_union {a b : Aut} (g : Good2 a b) {k x y : Nat} (hx : x < a.next.length) : ap2 a b k x y = apF a.L.toNat (sig a b) (phi a b) k x (a.next.length + y) := by
  have h1 := g.ga.l1
  induction k generalizing x y with
  | zero =>
    show (finA a x != finA b y) = (phi a b x != phi a b (a.next.length + y))
    rw [phi_l hx, phi_r]
  | succ k ih =>
    show ((List.range a.L.toNat).any fun c => ap2 a b k (step a x c) (step b y c)) = ((List.range a.L.toNat).any fun c => apF a.L.toNat (sig a b) (phi a b) k (sig a b x c) (sig a b (a.next.length + y) c))
    refine any_congr' fun c hc => ?_
    have hc' := List.mem_range.1 hc
    rw [sig_l hx, sig_r]
    exact ih (g.ga.step_lt hx (by omega))
theorem ap2_self {a : Aut} {k x y : Nat} : ap2 a a k x y = apF a.L.toNat (step a) (finA a) k x y := by
  induction k generalizing x y with
  | zero => rfl
  | succ k ih =>
    show ((List.range a.L.toNat).any fun c => ap2 a a k (step a x c) (step a y c)) = ((List.range a.L.toNat).any fun c => apF a.L.toNat (step a) (finA a) k (step a x c) (step a y c))
    exact any_congr' fun c _ => ih
/-- Two states of two automata that are told apart at all are told apart by a short word. -/
theorem short2 {a b : Aut} (g : Good2 a b) {k x y : Nat} (hx : x < a.next.length) (hy : y < b.next.length) (h : ap2 a b k x y = true) :
    ∃ m, m ≤ k ∧ m + 2 ≤ a.next.length + b.next.length ∧ (∀ j, j < m → ap2 a b j x y = false) ∧ ap2 a b m x y = true := by
  rw [ap2_union g hx] at h
  have h1 := g.ga.l1
  have he := g.eL
  obtain ⟨m, h1, h2, h3, h4⟩ := apart_short (N := a.next.length + b.next.length) (fun z c hz hc => by
    unfold sig
    split
    · rename_i h; have := g.ga.step_lt h (a := c) (by omega); omega
    · have := g.gb.step_lt (q := z - a.next.length) (a := c) (by omega) (by omega); omega) (by omega) (by omega) h
  refine ⟨m, h1, h2, fun j hj => ?_, by rw [ap2_union g hx]; exact h4⟩
  rw [ap2_union g hx]
  exact relF_iff.1 h3 j hj
/-- Two states of one automaton. -/
theorem short1 {a : Aut} (g : Df.Good a) {k x y : Nat} (hx : x < a.next.length) (hy : y < a.next.length) (h : ap2 a a k x y = true) :
    ∃ m, m ≤ k ∧ m + 2 ≤ a.next.length ∧ (∀ j, j < m → ap2 a a j x y = false) ∧ ap2 a a m x y = true := by
  rw [ap2_self] at h
  have h1 := g.l1
  obtain ⟨m, h1, h2, h3, h4⟩ := apart_short (N := a.next.length) (fun z c hz hc => g.step_lt hz (by omega)) hx hy h
  refine ⟨m, h1, h2, fun j hj => ?_, by rw [ap2_self]; exact h4⟩
  rw [ap2_self]
  exact relF_iff.1 h3 j hj

/-! ### alike -/
/-- From the one and from the other the same words are accepted. -/
def Alike (a b : Aut) (x y : Nat) : Prop := ∀ w, Word a.L w → finA a (runA a x w) = finA b (runA b y w)
def sameB (a b : Aut) (x y : Nat) : Bool := (List.range (a.next.length + b.next.length)).all fun k => !ap2 a b k x y
theorem same_iff {a b : Aut} (g : Good2 a b) {x y : Nat} (hx : x < a.next.length) (hy : y < b.next.length) : sameB a b x y = true ↔ Alike a b x y := by
  unfold sameB
  rw [List.all_eq_true]
  constructor
  · intro h w hw
    rcases Decidable.em (finA a (runA a x w) = finA b (runA b y w)) with e | e
    · exact e
    · obtain ⟨m, _, h2, _, h4⟩ := short2 g hx hy (ap2_iff.2 ⟨w, hw, rfl, e⟩)
      have := h m (List.mem_range.2 (by omega))
      rw [h4] at this; cases this
  · intro h k _
    rw [ap2_false.2 fun w hw _ => h w hw]; rfl
theorem Alike.refl (a : Aut) (x : Nat) : Alike a a x x := fun _ _ => rfl
theorem Alike.symm {a b : Aut} {x y : Nat} (h : Alike a b x y) (e : a.L = b.L) : Alike b a y x := fun w hw => (h w (by rw [e]; exact hw)).symm
theorem Alike.trans {a b c : Aut} {x y z : Nat} (h : Alike a b x y) (h2 : Alike b c y z) (e : a.L = b.L) : Alike a c x z := fun w hw => (h w hw).trans (h2 w (by rw [← e]; exact hw))
theorem Alike.step {a b : Aut} {x y : Nat} (h : Alike a b x y) {c : Nat} (hc : (c : Int) < a.L) : Alike a b (step a x c) (step b y c) := fun w hw => by
  have := h ((c : Int) :: w) (fun e he => by
    rcases List.mem_cons.1 he with rfl | he
    · exact ⟨by omega, hc⟩
    · exact hw e he)
  exact this
theorem Alike.run {a b : Aut} {x y : Nat} (h : Alike a b x y) {v : List Int} (hv : Word a.L v) : Alike a b (runA a x v) (runA b y v) := fun w hw => by
  have := h (v ++ w) (fun e he => by
    rcases List.mem_append.1 he with he | he
    · exact hv e he
    · exact hw e he)
  rw [runA_append, runA_append] at this
  exact this
/-- The first one of b that is alike. -/
def kin (a b : Aut) (x : Nat) : Nat := (least b.next.length (sameB a b x)).getD 0
theorem kin_spec {a b : Aut} (g : Good2 a b) {x y : Nat} (hx : x < a.next.length) (hy : y < b.next.length) (h : Alike a b x y) :
    kin a b x ≤ y ∧ kin a b x < b.next.length ∧ Alike a b x (kin a b x) ∧ ∀ j, j < kin a b x → ¬ Alike a b x j := by
  rcases e : least b.next.length (sameB a b x) with _ | k
  · have := least_none e hy
    rw [(same_iff g hx hy).2 h] at this; cases this
  · obtain ⟨h1, h2, h3⟩ := least_some e
    have hk : kin a b x = k := by unfold kin; rw [e]; rfl
    rw [hk]
    have h4 : ∀ j, j < k → ¬ Alike a b x j := fun j hj ha => by
      have := h3 j hj
      rw [(same_iff g hx (by omega)).2 ha] at this; cases this
    refine ⟨?_, h1, (same_iff g hx h1).1 h2, h4⟩
    rcases Nat.lt_or_ge y k with hlt | hge
    · exact absurd h (h4 y hlt)
    · exact hge
/-- What is alike has the same kin. -/
theorem kin_congr {a a' b : Aut} (g : Good2 a b) (g' : Good2 a' b) {x x' y : Nat} (hx : x < a.next.length) (hx' : x' < a'.next.length) (hy : y < b.next.length) (h : Alike a b x y) (h' : Alike a a' x x') : kin a b x = kin a' b x' := by
  have e : a.L = a'.L := g.eL.trans g'.eL.symm
  have h2 : Alike a' b x' y := (h'.symm e).trans h e.symm
  obtain ⟨_, p1, p2, p3⟩ := kin_spec g hx hy h
  obtain ⟨_, q1, q2, q3⟩ := kin_spec g' hx' hy h2
  rcases Nat.lt_trichotomy (kin a b x) (kin a' b x') with hlt | e' | hlt
  · exact absurd ((h'.symm e).trans p2 e.symm) (q3 _ hlt)
  · exact e'
  · exact absurd (h'.trans q2 e) (p3 _ hlt)

/-! ### the smallest automaton -/
theorem Good2.self {d : Aut} (g : Df.Good d) : Good2 d d := ⟨g, g, rfl⟩
theorem stand_spec {d : Aut} (g : Df.Good d) {x : Nat} (hx : x < d.next.length) : kin d d x ≤ x ∧ kin d d x < d.next.length ∧ Alike d d x (kin d d x) := by
  obtain ⟨h1, h2, h3, _⟩ := kin_spec (Good2.self g) hx hx (Alike.refl d x)
  exact ⟨h1, h2, h3⟩
theorem stand_stand {d : Aut} (g : Df.Good d) {x : Nat} (hx : x < d.next.length) : kin d d (kin d d x) = kin d d x := by
  obtain ⟨_, h2, h3⟩ := stand_spec g hx
  exact (kin_congr (Good2.self g) (Good2.self g) hx h2 hx (Alike.refl d x) h3).symm
/-- Each way goes to the first one of its kind. -/
def quo (d : Aut) : Aut := ⟨d.L, ((kin d d d.s.toNat : Nat) : Int), (List.range d.next.length).map fun q => (S1 d q).map fun t => ((kin d d t : Nat) : Int), d.fin⟩
theorem quo_len (d : Aut) : (quo d).next.length = d.next.length := by simp [quo]
theorem quo_row {d : Aut} {q : Nat} (hq : q < d.next.length) : (quo d).next[q]? = some ((S1 d q).map fun t => ((kin d d t : Nat) : Int)) := by
  show ((List.range d.next.length).map fun q => (S1 d q).map fun t => ((kin d d t : Nat) : Int))[q]? = _
  rw [List.getElem?_map, List.getElem?_range hq]; rfl
theorem quo_step {d : Aut} {q c : Nat} (hq : q < d.next.length) (hc : (c : Int) < d.L) : step (quo d) q c = kin d d (step d q c) := by
  unfold step
  rw [quo_row hq, Option.getD_some, List.getElem?_map, S1_get d q hc]
  rfl
theorem quo_fin (d : Aut) (q : Nat) : finA (quo d) q = finA d q := rfl
theorem quo_good {d : Aut} (g : Df.Good d) : Df.Good (quo d) := by
  refine ⟨g.l1, g.l6, ?_, ?_, ?_, ?_, ?_, ?_⟩
  · rw [quo_len]; exact g.n1
  · rw [quo_len]; exact g.n40
  · rw [quo_len]; exact g.fin
  · intro r hr
    obtain ⟨q, _, rfl⟩ := List.mem_map.1 hr
    rw [List.length_map]
    exact S1_len g q
  · have := (stand_spec g g.s_lt).2.1
    refine ⟨?_, ?_⟩
    · show (0 : Int) ≤ ((kin d d d.s.toNat : Nat) : Int); omega
    · rw [quo_len]; show ((kin d d d.s.toNat : Nat) : Int) < _; omega
  · intro r hr x hx
    obtain ⟨q, hq, rfl⟩ := List.mem_map.1 hr
    obtain ⟨t, ht, rfl⟩ := List.mem_map.1 hx
    have := (stand_spec g (S1_lt g (List.mem_range.1 hq) ht)).2.1
    refine ⟨by omega, ?_⟩
    rw [quo_len]; omega
theorem quo_alike {d : Aut} (g : Df.Good d) {x : Nat} (hx : x < d.next.length) : Alike (quo d) d x x := by
  intro w
  induction w generalizing x with
  | nil => intro _; rfl
  | cons c w ih =>
    intro hw
    have hc := hw c List.mem_cons_self
    have hc' : ((c.toNat : Nat) : Int) < d.L := by have := hc.2; have : c < d.L := this; omega
    have hw' : Word d.L w := fun e he => hw e (List.mem_cons_of_mem _ he)
    have hs := g.step_lt hx hc'
    obtain ⟨_, h2, h3⟩ := stand_spec g hs
    show finA (quo d) (runA (quo d) (step (quo d) x c.toNat) w) = finA d (runA d (step d x c.toNat) w)
    rw [quo_step hx hc', ih h2 hw', h3 w hw']
theorem quo_acc {d : Aut} (g : Df.Good d) {w : List Int} (hw : Word d.L w) : accA (quo d) w = accA d w := by
  show finA (quo d) (runA (quo d) (kin d d d.s.toNat) w) = finA d (runA d d.s.toNat w)
  obtain ⟨_, h2, h3⟩ := stand_spec g g.s_lt
  rw [quo_alike g h2 w hw, h3 w hw]
def minA (d : Aut) : Aut := trimA (quo d)
theorem min_good {d : Aut} (g : Df.Good d) : Df.Good (minA d) := trim_good (quo_good g)
theorem min_acc {d : Aut} (g : Df.Good d) {w : List Int} (hw : Word d.L w) : accA (minA d) w = accA d w := by
  unfold minA
  rw [trim_acc (quo_good g) hw, quo_acc g hw]
theorem min_L (d : Aut) : (minA d).L = d.L := rfl
theorem trim_states {d : Aut} (g : Df.Good d) : (trimA d).next.length ≤ d.next.length := by
  have hn : (trimA d).next.length = (rset d d.s.toNat).length := by unfold trimA autOf; simp
  rw [hn]
  exact nodup_le _ _ (rset_whole g g.s_lt).nd fun x hx => rset_lt g g.s_lt hx
theorem min_states {d : Aut} (g : Df.Good d) : (minA d).next.length ≤ d.next.length := by
  have := trim_states (quo_good g)
  rw [quo_len] at this
  exact this
end Go.Proofs.YtlhhhdgkdbplmaaDoor.Sm

namespace Go.Proofs.YtlhhhdgkdbplmaaDoor.Sm
open Go.Proofs.YtlhhhdgkdbplmaaDoor.Df Go.Proofs.YtlhhhdgkdbplmaaDoor.Wo Go.Proofs.YtlhhhdgkdbplmaaDoor.Rc

/-! ### what is found is found alike under another name -/
theorem num_map {α β : Type} [DecidableEq α] [DecidableEq β] {l : List α} {φ : α → β} (hi : ∀ x ∈ l, ∀ y ∈ l, φ x = φ y → x = y) {t : α} (ht : t ∈ l) : num (l.map φ) (φ t) = num l t := by
  induction l with
  | nil => cases ht
  | cons a l ih =>
    unfold num at *
    rw [List.map_cons, List.idxOf_cons, List.idxOf_cons]
    by_cases e : a = t
    · subst e; simp
    · have hne : φ a ≠ φ t := fun h => e (hi a List.mem_cons_self t ht h)
      have ht' : t ∈ l := by
        rcases List.mem_cons.1 ht with h | h
        · exact absurd h.symm e
        · exact h
      have := ih (fun x hx y hy => hi x (List.mem_cons_of_mem _ hx) y (List.mem_cons_of_mem _ hy)) ht'
      rw [this, beq_eq_false_iff_ne.2 hne, beq_eq_false_iff_ne.2 e]
theorem expl_as {α β : Type} [DecidableEq α] [DecidableEq β] {S : α → List α} {T : β → List β} {l : List α} {φ : α → β} (hc : ∀ x ∈ l, ∀ t ∈ S x, t ∈ l) (hi : ∀ x ∈ l, ∀ y ∈ l, φ x = φ y → x = y) (hT : ∀ x ∈ l, T (φ x) = (S x).map φ) :
    ∀ (n i : Nat) (k : List α), expl S n i k = some l → (∀ x ∈ k, x ∈ l) → expl T n i (k.map φ) = some (l.map φ) := by
  intro n
  induction n with
  | zero =>
    intro i k e _
    rw [expl] at e ⊢
    obtain rfl := Option.some.inj e
    rfl
  | succ n ih =>
    intro i k e hk
    rcases hx : k[i]? with _ | x
    · rw [expl, hx] at e
      rw [expl, List.getElem?_map, hx]
      obtain rfl := Option.some.inj e
      rfl
    · have hm := hk x (List.mem_of_getElem? hx)
      rw [expl, hx] at e
      rw [expl, List.getElem?_map, hx]
      simp only [Option.map_some] at e ⊢
      rw [hT x hm, addAll_map hi hk (hc x hm), List.length_map]
      by_cases hl : 40 < (addAll k (S x)).length
      · rw [if_pos hl] at e; cases e
      · rw [if_neg hl] at e ⊢
        refine ih _ _ e (fun y hy => ?_)
        rcases mem_addAll.1 hy with hy | hy
        · exact hk y hy
        · exact hc x hm y hy
theorem trim_as {a b : Aut} (ga : Df.Good a) (hL : a.L = b.L) {φ : Nat → Nat} (hs : φ a.s.toNat = b.s.toNat) (hi : ∀ x ∈ rset a a.s.toNat, ∀ y ∈ rset a a.s.toNat, φ x = φ y → x = y)
    (hT : ∀ x ∈ rset a a.s.toNat, S1 b (φ x) = (S1 a x).map φ) (hf : ∀ x ∈ rset a a.s.toNat, finA b (φ x) = finA a x) : trimA b = trimA a := by
  have hw := rset_whole ga ga.s_lt
  obtain ⟨l, hl⟩ := found1 ga ga.s_lt
  have hr : rset a a.s.toNat = l := by unfold rset; rw [hl]; rfl
  rw [hr] at hw hi hT hf
  have hb : rset b b.s.toNat = l.map φ := by
    have h1 := expl_as hw.closed hi hT 41 0 [a.s.toNat] hl (fun x hx => by simp at hx; subst hx; exact List.mem_of_getElem? hw.hd)
    rw [List.map_singleton, hs] at h1
    have h2 : found (S1 b) b.s.toNat = some (l.map φ) := h1
    unfold rset; rw [h2]; rfl
  unfold trimA
  rw [hb, hr]
  unfold autOf
  rw [List.map_map, List.map_map, ← hL]
  congr 1
  · refine List.map_congr_left fun x hx => ?_
    show srow (S1 b) (l.map φ) (φ x) = srow (S1 a) l x
    unfold srow
    rw [hT x hx, List.map_map]
    refine List.map_congr_left fun t ht => ?_
    show ((num (l.map φ) (φ t) : Nat) : Int) = _
    rw [num_map hi (hw.closed x hx t ht)]
  · exact List.map_congr_left fun x hx => hf x hx

/-! ### Myhill, Nerode -/
/-- What is reached in the one by a word is alike to what the same word leads to. -/
theorem quo_reached {d : Aut} (g : Df.Good d) {x : Nat} (h : x ∈ rset (quo d) (quo d).s.toNat) : x < d.next.length ∧ kin d d x = x ∧ ∃ w, Word d.L w ∧ Alike d d x (runA d d.s.toNat w) := by
  have gq := quo_good g
  have hlt : x < d.next.length := by
    have := rset_lt gq gq.s_lt h
    rw [quo_len] at this; exact this
  have hr := (mem_rset gq gq.s_lt).1 h
  refine ⟨hlt, ?_, ?_⟩
  · cases hr with
    | base => exact stand_stand g g.s_lt
    | @next z _ hz ht =>
      obtain ⟨c, hc, e⟩ := mem_S1.1 ht
      have hzl := rch_lt1 gq gq.s_lt hz
      rw [quo_len] at hzl
      have hc' : (c : Int) < d.L := hc
      rw [← e, quo_step hzl hc']
      exact stand_stand g (g.step_lt hzl hc')
  · obtain ⟨w, hw, e⟩ := rch_word.1 hr
    have hw' : Word d.L w := hw
    refine ⟨w, hw', ?_⟩
    have h0 : (quo d).s.toNat < d.next.length := by have := gq.s_lt; rw [quo_len] at this; exact this
    have h1 : Alike (quo d) d (quo d).s.toNat d.s.toNat := by
      obtain ⟨_, h2, h3⟩ := stand_spec g g.s_lt
      exact (quo_alike g h0).trans (h3.symm rfl) rfl
    have h2 := h1.run (v := w) hw
    rw [e] at h2
    exact ((quo_alike g hlt).symm rfl).trans h2 rfl
theorem quo_S1 {d : Aut} (g : Df.Good d) {x : Nat} (hx : x < d.next.length) : S1 (quo d) x = (S1 d x).map (kin d d) := by
  unfold S1
  rw [List.map_map]
  refine List.map_congr_left fun c hc => ?_
  have h1 := g.l1
  have hc' : c < d.L.toNat := List.mem_range.1 hc
  exact quo_step hx (by omega)
/-- Two that accept the same have the same smallest one. -/
theorem min_unique {a b : Aut} (g : Good2 a b) (h : ∀ w, Word a.L w → accA a w = accA b w) : minA b = minA a := by
  have gab := g
  have ga := g.ga
  have gb := g.gb
  have hs : Alike a b a.s.toNat b.s.toNat := h
  have gaa : Good2 a a := Good2.self ga
  have gbb : Good2 b b := Good2.self gb
  have gqa := quo_good ga
  -- each one that is reached has a partner
  have hp : ∀ x, x ∈ rset (quo a) (quo a).s.toNat → x < a.next.length ∧ kin a a x = x ∧ kin a b x < b.next.length ∧ Alike a b x (kin a b x) := fun x hx => by
    obtain ⟨h1, h2, w, hw, h3⟩ := quo_reached ga hx
    have h4 : Alike a b x (runA b b.s.toNat w) := h3.trans (hs.run hw) rfl
    have h5 : runA b b.s.toNat w < b.next.length := gb.run_lt (by rw [← g.eL]; exact hw) gb.s_lt
    obtain ⟨_, p1, p2, _⟩ := kin_spec g h1 h5 h4
    exact ⟨h1, h2, p1, p2⟩
  unfold minA
  refine trim_as (a := quo a) (b := quo b) (φ := kin a b) gqa g.eL ?_ ?_ ?_ ?_
  · show kin a b (kin a a a.s.toNat) = kin b b b.s.toNat
    obtain ⟨_, h2, h3⟩ := stand_spec ga ga.s_lt
    have := kin_congr g gbb h2 gb.s_lt gb.s_lt ((h3.symm rfl).trans hs rfl) ((h3.symm rfl).trans hs rfl)
    exact this
  · intro x hx y hy e
    obtain ⟨x1, x2, x3, x4⟩ := hp x hx
    obtain ⟨y1, y2, y3, y4⟩ := hp y hy
    have hxy : Alike a a x y := x4.trans (by rw [e]; exact y4.symm g.eL) g.eL
    have := kin_congr gaa gaa x1 y1 x1 (Alike.refl a x) hxy
    rw [x2, y2] at this
    exact this
  · intro x hx
    obtain ⟨x1, x2, x3, x4⟩ := hp x hx
    rw [quo_S1 gb x3, quo_S1 ga x1, List.map_map]
    unfold S1
    rw [List.map_map, List.map_map, ← g.eL]
    refine List.map_congr_left fun c hc => ?_
    have h1 := ga.l1
    have hc' : c < a.L.toNat := List.mem_range.1 hc
    have hcL : (c : Int) < a.L := by omega
    have hcb : (c : Int) < b.L := by rw [← g.eL]; exact hcL
    show kin b b (step b (kin a b x) c) = kin a b (kin a a (step a x c))
    have k1 := ga.step_lt x1 hcL
    have k2 := gb.step_lt x3 hcb
    have k3 : Alike a b (step a x c) (step b (kin a b x) c) := x4.step hcL
    obtain ⟨_, p2, p3⟩ := stand_spec ga k1
    have k4 : Alike a b (kin a a (step a x c)) (step b (kin a b x) c) := (p3.symm rfl).trans k3 rfl
    exact (kin_congr g gbb p2 k2 k2 k4 k4).symm
  · intro x hx
    obtain ⟨x1, x2, x3, x4⟩ := hp x hx
    show finA b (kin a b x) = finA a x
    exact (x4 [] (fun e he => by simp at he)).symm
/-- Two accept the same just if they have the same smallest one. -/
theorem min_iff {a b : Aut} (g : Good2 a b) : minA a = minA b ↔ ∀ w, Word a.L w → accA a w = accA b w := by
  constructor
  · intro h w hw
    rw [← min_acc g.ga hw, h, min_acc g.gb (by rw [← g.eL]; exact hw)]
  · intro h
    exact (min_unique g h).symm
theorem min_min {d : Aut} (g : Df.Good d) : minA (minA d) = minA d :=
  min_unique (a := d) (b := minA d) ⟨g, min_good g, rfl⟩ fun _ hw => (min_acc g hw).symm
theorem min_reached {d : Aut} (g : Df.Good d) : (upto (minA d).next.length (isReached (minA d) 0)).length = (minA d).next.length := trim_reached (quo_good g)
/-- No two states of the smallest one are alike. -/
theorem min_apart {d : Aut} (g : Df.Good d) {i j : Nat} (hi : i < (minA d).next.length) (hj : j < (minA d).next.length) (h : Alike (minA d) (minA d) i j) : i = j := by
  have gq := quo_good g
  have hw := rset_whole gq gq.s_lt
  have hn : (minA d).next.length = (rset (quo d) (quo d).s.toNat).length := by unfold minA trimA autOf; simp
  rw [hn] at hi hj
  have key : ∀ i (hi : i < (rset (quo d) (quo d).s.toNat).length), Alike (minA d) d i ((rset (quo d) (quo d).s.toNat)[i]) := by
    intro i hi w hwd
    have hwd' : Word (quo d).L w := hwd
    have hm := List.getElem_mem hi
    have hnum : num (rset (quo d) (quo d).s.toNat) ((rset (quo d) (quo d).s.toNat)[i]) = i := idx_of hw.nd (List.getElem?_eq_getElem hi)
    obtain ⟨p1, p2⟩ := autOf_run (f := finA (quo d)) hw (fun x _ => S1_len gq x) hwd' hm
    rw [hnum, viaAll1 hwd'] at p2
    rw [viaAll1 hwd'] at p1
    have e : runA (minA d) i w = num (rset (quo d) (quo d).s.toNat) (runA (quo d) ((rset (quo d) (quo d).s.toNat)[i]) w) := p2
    obtain ⟨q1, _, _⟩ := quo_reached g hm
    have q2 := quo_alike g q1 w hwd'
    rw [← q2, e]
    show ((rset (quo d) (quo d).s.toNat).map (finA (quo d)))[num (rset (quo d) (quo d).s.toNat) (runA (quo d) ((rset (quo d) (quo d).s.toNat)[i]) w)]?.getD false = _
    rw [List.getElem?_map, idx_get p1]; rfl
  have hk := ((key i hi).symm rfl).trans (h.trans (key j hj) rfl) rfl
  obtain ⟨x1, x2, _⟩ := quo_reached g (List.getElem_mem hi)
  obtain ⟨y1, y2, _⟩ := quo_reached g (List.getElem_mem hj)
  have := kin_congr (Good2.self g) (Good2.self g) x1 y1 x1 (Alike.refl d _) hk
  rw [x2, y2] at this
  exact (List.getElem_inj hw.nd).1 this
end Go.Proofs.YtlhhhdgkdbplmaaDoor.Sm

namespace Go.Proofs.YtlhhhdgkdbplmaaDoor.Sm
open Go.Proofs.YtlhhhdgkdbplmaaDoor.Df Go.Proofs.YtlhhhdgkdbplmaaDoor.Wo Go.Proofs.YtlhhhdgkdbplmaaDoor.Rc

/-- The first of the words of k letters that tell two states apart. -/
def pick2 (a b : Aut) : Nat → Nat → Nat → List Int
  | 0, _, _ => []
  | k + 1, x, y => match least a.L.toNat (fun c => ap2 a b k (step a x c) (step b y c)) with
    | none => []
    | some c => (c : Int) :: pick2 a b k (step a x c) (step b y c)
theorem least_letter2 {a b : Aut} {k x y : Nat} (h : ap2 a b (k + 1) x y = true) : ∃ c, least a.L.toNat (fun c => ap2 a b k (step a x c) (step b y c)) = some c := by
  rcases hl : least a.L.toNat (fun c => ap2 a b k (step a x c) (step b y c)) with _ | c
  · have h' : ((List.range a.L.toNat).any fun c => ap2 a b k (step a x c) (step b y c)) = true := h
    obtain ⟨c, hc, hp⟩ := List.any_eq_true.1 h'
    rw [List.mem_range] at hc
    have hz : ap2 a b k (step a x c) (step b y c) = false := least_none hl hc
    rw [hz] at hp; cases hp
  · exact ⟨c, rfl⟩
theorem pick2_succ {a b : Aut} {k x y c : Nat} (h : least a.L.toNat (fun c => ap2 a b k (step a x c) (step b y c)) = some c) : pick2 a b (k + 1) x y = (c : Int) :: pick2 a b k (step a x c) (step b y c) := by
  rw [pick2, h]
theorem pick2_ok {a b : Aut} {k x y : Nat} (h : ap2 a b k x y = true) : Word a.L (pick2 a b k x y) ∧ (pick2 a b k x y).length = k ∧ finA a (runA a x (pick2 a b k x y)) ≠ finA b (runA b y (pick2 a b k x y)) := by
  induction k generalizing x y with
  | zero => exact ⟨by intro e he; simp [pick2] at he, rfl, bne_iff_ne.1 h⟩
  | succ k ih =>
    obtain ⟨c, hc⟩ := least_letter2 h
    obtain ⟨h1, h2, _⟩ := least_some hc
    obtain ⟨h3, h4, h5⟩ := ih h2
    rw [pick2_succ hc]
    refine ⟨fun e he => ?_, by simp [h4], h5⟩
    rcases List.mem_cons.1 he with rfl | he
    · exact ⟨by omega, by omega⟩
    · exact h3 e he
theorem pick2_least {a b : Aut} {k x y : Nat} (h : ap2 a b k x y = true) {v : List Int} (hv : Word a.L v) (hl : v.length = k) (hf : finA a (runA a x v) ≠ finA b (runA b y v)) : lx v (pick2 a b k x y) = false := by
  induction k generalizing x y v with
  | zero =>
    obtain rfl := List.eq_nil_of_length_eq_zero hl
    rfl
  | succ k ih =>
    obtain ⟨c, hc⟩ := least_letter2 h
    obtain ⟨h1, h2, h3⟩ := least_some hc
    rcases v with _ | ⟨e, v⟩
    · simp at hl
    have he := hv e List.mem_cons_self
    have hv' : Word a.L v := fun z hz => hv z (List.mem_cons_of_mem _ hz)
    have hl' : v.length = k := by simpa using hl
    have hf' : finA a (runA a (step a x e.toNat) v) ≠ finA b (runA b (step b y e.toNat) v) := hf
    have hb2 : ap2 a b k (step a x e.toNat) (step b y e.toNat) = true := ap2_iff.2 ⟨v, hv', hl', hf'⟩
    rw [pick2_succ hc, lx]
    by_cases q : e = (c : Int)
    · rw [if_pos q]
      subst q
      exact ih h2 hv' hl' hf'
    · rw [if_neg q]
      refine decide_eq_false (fun hlt => ?_)
      have := h3 e.toNat (by omega)
      rw [this] at hb2; cases hb2
/-- The first word that tells two states apart. -/
def diffW (a b : Aut) (x y : Nat) : Option (List Int) := (least (a.next.length + b.next.length) (fun k => ap2 a b k x y)).map (fun k => pick2 a b k x y)
theorem diffW_none {a b : Aut} (g : Good2 a b) {x y : Nat} (hx : x < a.next.length) (hy : y < b.next.length) : diffW a b x y = none ↔ Alike a b x y := by
  constructor
  · intro h
    have hn : least (a.next.length + b.next.length) (fun k => ap2 a b k x y) = none := by
      unfold diffW at h
      simpa using h
    refine (same_iff g hx hy).1 ?_
    unfold sameB
    rw [List.all_eq_true]
    intro k hk
    have hz : ap2 a b k x y = false := least_none hn (List.mem_range.1 hk)
    rw [hz]; rfl
  · intro h
    rcases hd : diffW a b x y with _ | w
    · rfl
    · unfold diffW at hd
      obtain ⟨k, hk, _⟩ := Option.map_eq_some_iff.1 hd
      obtain ⟨_, h2, _⟩ := least_some hk
      rw [ap2_false.2 fun w hw _ => h w hw] at h2; cases h2
theorem diffW_some {a b : Aut} (g : Good2 a b) {x y : Nat} (hx : x < a.next.length) (hy : y < b.next.length) {w : List Int} (h : diffW a b x y = some w) :
    Word a.L w ∧ w.length + 2 ≤ a.next.length + b.next.length ∧ finA a (runA a x w) ≠ finA b (runA b y w) ∧ ∀ v, Word a.L v → finA a (runA a x v) ≠ finA b (runA b y v) → lss v w = false := by
  unfold diffW at h
  obtain ⟨k, hk, rfl⟩ := Option.map_eq_some_iff.1 h
  obtain ⟨_, h2, h3⟩ := least_some hk
  obtain ⟨p1, p2, p3⟩ := pick2_ok h2
  obtain ⟨m, q1, q2, _, q4⟩ := short2 g hx hy h2
  have hmk : m = k := by
    rcases Nat.lt_or_eq_of_le q1 with hlt | e
    · have hz : ap2 a b m x y = false := h3 m hlt
      rw [hz] at q4; cases q4
    · exact e
  refine ⟨p1, by omega, p3, fun v hv hf => ?_⟩
  unfold lss
  rw [p2]
  by_cases e : v.length = k
  · rw [if_pos e]; exact pick2_least h2 hv e hf
  · rw [if_neg e]
    refine decide_eq_false (fun hlt => ?_)
    have hz : ap2 a b v.length x y = false := h3 _ hlt
    rw [ap2_iff.2 ⟨v, hv, rfl, hf⟩] at hz; cases hz
/-- Within one automaton it is shorter than there are states. -/
theorem diffW_short {a : Aut} (g : Df.Good a) {x y : Nat} (hx : x < a.next.length) (hy : y < a.next.length) {w : List Int} (h : diffW a a x y = some w) : w.length + 2 ≤ a.next.length := by
  unfold diffW at h
  obtain ⟨k, hk, rfl⟩ := Option.map_eq_some_iff.1 h
  obtain ⟨_, h2, h3⟩ := least_some hk
  obtain ⟨_, p2, _⟩ := pick2_ok h2
  obtain ⟨m, q1, q2, _, q4⟩ := short1 g hx hy h2
  rcases Nat.lt_or_eq_of_le q1 with hlt | e
  · have hz : ap2 a a m x y = false := h3 m hlt
    rw [hz] at q4; cases q4
  · omega
/-- There is one first word only. -/
theorem diffW_unique {a b : Aut} (g : Good2 a b) {x y : Nat} (hx : x < a.next.length) (hy : y < b.next.length) {w : List Int} (hw : Word a.L w) (hf : finA a (runA a x w) ≠ finA b (runA b y w))
    (hmin : ∀ v, Word a.L v → finA a (runA a x v) ≠ finA b (runA b y v) → lss v w = false) : diffW a b x y = some w := by
  rcases h : diffW a b x y with _ | u
  · exact absurd ((diffW_none g hx hy).1 h w hw) hf
  · obtain ⟨h1, _, h3, h4⟩ := diffW_some g hx hy h
    rw [lss_total (h4 w hw hf) (hmin u h1 h3)]
/-- Turned, it is the same word. -/
theorem diffW_turn {a b : Aut} (g : Good2 a b) {x y : Nat} (hx : x < a.next.length) (hy : y < b.next.length) : diffW b a y x = diffW a b x y := by
  have g' : Good2 b a := ⟨g.gb, g.ga, g.eL.symm⟩
  have hL : ∀ {v}, Word b.L v → Word a.L v := fun h => by rw [g.eL]; exact h
  rcases h : diffW b a y x with _ | w
  · exact ((diffW_none g hx hy).2 (((diffW_none g' hy hx).1 h).symm g.eL.symm)).symm
  · obtain ⟨h1, _, h3, h4⟩ := diffW_some g' hy hx h
    exact (diffW_unique g hx hy (hL h1) (fun e => h3 e.symm) fun v hv hf => h4 v (by rw [← g.eL]; exact hv) fun e => hf e.symm).symm
/-- Of two states of two clones of one automaton, alike is what it is within the one. -/
theorem diff_apart {d : Aut} (g : Df.Good d) {i j : Nat} (hi : i < (minA d).next.length) (hj : j < (minA d).next.length) (h : i ≠ j) : ∃ w, diffW (minA d) (minA d) i j = some w ∧ w.length < (minA d).next.length := by
  have gm := min_good g
  rcases e : diffW (minA d) (minA d) i j with _ | w
  · exact absurd (min_apart g hi hj ((diffW_none (Good2.self gm) hi hj).1 e)) h
  · have := diffW_short gm hi hj e
    exact ⟨w, rfl, by omega⟩
end Go.Proofs.YtlhhhdgkdbplmaaDoor.Sm

namespace Go.Proofs.YtlhhhdgkdbplmaaDoor.Sm
open Go.Proofs.YtlhhhdgkdbplmaaDoor.Df Go.Proofs.YtlhhhdgkdbplmaaDoor.Wo Go.Proofs.YtlhhhdgkdbplmaaDoor.Rc

/-- In how many steps two states are told apart; -1: never. -/
def lev (a b : Aut) (x y : Nat) : Int := match least (a.next.length + b.next.length) (fun k => ap2 a b k x y) with
  | none => -1
  | some k => ((k : Nat) : Int)
theorem lev_cases (a b : Aut) (x y : Nat) : lev a b x y = -1 ∨ ∃ k : Nat, lev a b x y = (k : Int) := by
  unfold lev
  rcases least (a.next.length + b.next.length) (fun k => ap2 a b k x y) with _ | k
  · exact .inl rfl
  · exact .inr ⟨k, rfl⟩
theorem lev_eq {a b : Aut} (g : Good2 a b) {x y k : Nat} (hx : x < a.next.length) (hy : y < b.next.length) : lev a b x y = (k : Int) ↔ ap2 a b k x y = true ∧ ∀ j, j < k → ap2 a b j x y = false := by
  constructor
  · intro h
    unfold lev at h
    rcases e : least (a.next.length + b.next.length) (fun k => ap2 a b k x y) with _ | m
    · rw [e] at h; have h : (-1 : Int) = (k : Int) := h; omega
    · rw [e] at h
      have h : ((m : Nat) : Int) = (k : Int) := h
      obtain rfl : m = k := by omega
      obtain ⟨_, h2, h3⟩ := least_some e
      exact ⟨h2, h3⟩
  · rintro ⟨h1, h2⟩
    obtain ⟨m, q1, q2, _, q4⟩ := short2 g hx hy h1
    have hmk : m = k := by
      rcases Nat.lt_or_eq_of_le q1 with hlt | e
      · rw [h2 m hlt] at q4; cases q4
      · exact e
    subst hmk
    have e : least (a.next.length + b.next.length) (fun k => ap2 a b k x y) = some m := least_is (by omega) h1 h2
    unfold lev; rw [e]
theorem lev_lt {a b : Aut} (g : Good2 a b) {x y k : Nat} (hx : x < a.next.length) (hy : y < b.next.length) (h : lev a b x y = (k : Int)) : k + 2 ≤ a.next.length + b.next.length := by
  obtain ⟨h1, h2⟩ := (lev_eq g hx hy).1 h
  obtain ⟨m, q1, q2, _, q4⟩ := short2 g hx hy h1
  rcases Nat.lt_or_eq_of_le q1 with hlt | e
  · rw [h2 m hlt] at q4; cases q4
  · omega
theorem lev_never {a b : Aut} (g : Good2 a b) {x y : Nat} (hx : x < a.next.length) (hy : y < b.next.length) : lev a b x y = -1 ↔ Alike a b x y := by
  rw [← diffW_none g hx hy]
  unfold lev diffW
  rcases least (a.next.length + b.next.length) (fun k => ap2 a b k x y) with _ | k
  · exact ⟨fun _ => rfl, fun _ => rfl⟩
  · constructor
    · intro h; have h : ((k : Nat) : Int) = -1 := h; omega
    · intro h; cases h
theorem lev_zero {a b : Aut} (g : Good2 a b) {x y : Nat} (hx : x < a.next.length) (hy : y < b.next.length) : lev a b x y = 0 ↔ finA a x ≠ finA b y := by
  have := lev_eq g hx hy (k := 0)
  constructor
  · intro h; exact bne_iff_ne.1 ((this.1 h).1)
  · intro h; exact this.2 ⟨bne_iff_ne.2 h, fun j hj => by omega⟩
/-- One level higher: some letter leads to a pair of the level below, and the pair is of no lower level. -/
theorem lev_down {a b : Aut} (g : Good2 a b) {x y k : Nat} (hx : x < a.next.length) (hy : y < b.next.length) (h : lev a b x y = ((k + 1 : Nat) : Int)) : ∃ c : Nat, (c : Int) < a.L ∧ lev a b (step a x c) (step b y c) = (k : Int) := by
  obtain ⟨h1, h2⟩ := (lev_eq g hx hy).1 h
  have h1' : ((List.range a.L.toNat).any fun c => ap2 a b k (step a x c) (step b y c)) = true := h1
  obtain ⟨c, hc, hp⟩ := List.any_eq_true.1 h1'
  have hc' := List.mem_range.1 hc
  have hcL : (c : Int) < a.L := by omega
  refine ⟨c, hcL, (lev_eq g (g.ga.step_lt hx hcL) (g.gb.step_lt hy (by rw [← g.eL]; exact hcL))).2 ⟨hp, fun j hj => ?_⟩⟩
  rcases e : ap2 a b j (step a x c) (step b y c) with _ | _
  · rfl
  · have : ap2 a b (j + 1) x y = true := List.any_eq_true.2 ⟨c, hc, e⟩
    rw [h2 (j + 1) (by omega)] at this; cases this
theorem lev_up {a b : Aut} (g : Good2 a b) {x y k c : Nat} (hx : x < a.next.length) (hy : y < b.next.length) (hc : (c : Int) < a.L) (h : lev a b (step a x c) (step b y c) = (k : Int)) (hn : ∀ j : Nat, j ≤ k → lev a b x y ≠ (j : Int)) : lev a b x y = ((k + 1 : Nat) : Int) := by
  obtain ⟨h1, _⟩ := (lev_eq g (g.ga.step_lt hx hc) (g.gb.step_lt hy (by rw [← g.eL]; exact hc))).1 h
  have hup : ap2 a b (k + 1) x y = true := List.any_eq_true.2 ⟨c, List.mem_range.2 (by omega), h1⟩
  obtain ⟨m, q1, _, q3, q4⟩ := short2 g hx hy hup
  have hm := (lev_eq g hx hy).2 ⟨q4, q3⟩
  rcases Nat.lt_or_eq_of_le q1 with hlt | e
  · exact absurd hm (hn m (by omega))
  · rw [← e]; exact hm
/-- If none is of a level, none is of a higher one. -/
theorem lev_gap {a b : Aut} (g : Good2 a b) {k : Nat} (h : ∀ x y, x < a.next.length → y < b.next.length → lev a b x y ≠ (k : Int)) :
    ∀ j, k ≤ j → ∀ x y, x < a.next.length → y < b.next.length → lev a b x y ≠ (j : Int) := by
  intro j
  induction j with
  | zero => intro hk x y hx hy; obtain rfl : k = 0 := by omega
            exact h x y hx hy
  | succ j ih =>
    intro hk x y hx hy e
    rcases Nat.lt_or_eq_of_le hk with hlt | rfl
    · obtain ⟨c, hc, hl⟩ := lev_down g hx hy e
      exact ih (by omega) _ _ (g.ga.step_lt hx hc) (g.gb.step_lt hy (by rw [← g.eL]; exact hc)) hl
    · exact h x y hx hy e

/-! ### the table -/
/-- What the table holds of a pair in round k: before, and after the pair's turn. -/
def val (a b : Aut) (k : Nat) (done : Bool) (x y : Nat) : Int := if lev a b x y < (k : Int) ∨ (lev a b x y = (k : Int) ∧ done = true) then lev a b x y else -1
theorem val_known {a b : Aut} {k : Nat} {e : Bool} {x y : Nat} (h : 0 ≤ val a b k e x y) : val a b k e x y = lev a b x y := by
  unfold val at h ⊢
  split
  · rfl
  · rename_i hn; rw [if_neg hn] at h; omega
theorem val_neg {a b : Aut} {k : Nat} {x y : Nat} (h : val a b k false x y < 0) {j : Nat} (hj : j < k) : lev a b x y ≠ (j : Int) := by
  intro e
  unfold val at h
  rw [if_pos (.inl (by omega))] at h
  omega
theorem val_hit {a b : Aut} {k : Nat} {e : Bool} {x y : Nat} : val a b (k + 1) e x y = (k : Int) ↔ lev a b x y = (k : Int) := by
  unfold val
  constructor
  · intro h
    split at h
    · exact h
    · omega
  · intro h
    rw [if_pos (.inl (by omega))]; exact h
theorem val_old {a b : Aut} {k : Nat} {x y : Nat} (h : 0 ≤ val a b k false x y) : val a b k true x y = val a b k false x y := by
  have h1 : lev a b x y < (k : Int) := by
    unfold val at h
    split at h
    · rename_i q
      rcases q with q | q
      · exact q
      · exact absurd q.2 (by decide)
    · omega
  unfold val
  rw [if_pos (.inl h1), if_pos (.inl h1)]
/-- A pair whose turn it is, and a letter that leads to the level below. -/
theorem val_set {a b : Aut} (g : Good2 a b) {k x y c : Nat} (hx : x < a.next.length) (hy : y < b.next.length) (h : val a b (k + 1) false x y < 0) (hc : (c : Int) < a.L) (hl : lev a b (step a x c) (step b y c) = (k : Int)) : val a b (k + 1) true x y = ((k + 1 : Nat) : Int) := by
  have e := lev_up g hx hy hc hl fun j hj => val_neg h (by omega)
  unfold val
  rw [if_pos (.inr ⟨e, rfl⟩)]; exact e
/-- A pair whose turn it is, and no such letter. -/
theorem val_keep {a b : Aut} (g : Good2 a b) {k x y : Nat} (hx : x < a.next.length) (hy : y < b.next.length) (h : ∀ c : Nat, (c : Int) < a.L → lev a b (step a x c) (step b y c) ≠ (k : Int)) : val a b (k + 1) true x y = val a b (k + 1) false x y ∧ lev a b x y ≠ ((k + 1 : Nat) : Int) := by
  have hn : lev a b x y ≠ ((k + 1 : Nat) : Int) := fun e => by
    obtain ⟨c, hc, hl⟩ := lev_down g hx hy e
    exact h c hc hl
  refine ⟨?_, hn⟩
  unfold val
  by_cases q : lev a b x y < ((k + 1 : Nat) : Int)
  · rw [if_pos (.inl q), if_pos (.inl q)]
  · rw [if_neg (fun z => z.elim q fun z => hn z.1), if_neg (fun z => z.elim q fun z => hn z.1)]
theorem val_next (a b : Aut) (k x y : Nat) : val a b k true x y = val a b (k + 1) false x y := by
  unfold val
  by_cases q : lev a b x y < (k : Int) ∨ (lev a b x y = (k : Int) ∧ true = true)
  · rw [if_pos q, if_pos (.inl (by rcases q with q | q <;> omega))]
  · rw [if_neg q, if_neg (fun z => by
      rcases z with z | z
      · rcases Int.lt_or_eq_of_le (by omega : lev a b x y ≤ (k : Int)) with q1 | q1
        · exact q (.inl q1)
        · exact q (.inr ⟨q1, rfl⟩)
      · exact absurd z.2 (by decide))]
theorem val_start {a b : Aut} (g : Good2 a b) {x y : Nat} (hx : x < a.next.length) (hy : y < b.next.length) : val a b 1 false x y = if finA a x ≠ finA b y then 0 else -1 := by
  by_cases h : finA a x ≠ finA b y
  · have e := (lev_zero g hx hy).2 h
    rw [if_pos h]
    unfold val
    rw [if_pos (.inl (by omega)), e]
  · rw [if_neg h]
    have e : lev a b x y ≠ 0 := fun e => h ((lev_zero g hx hy).1 e)
    unfold val
    split
    · rename_i q
      rcases lev_cases a b x y with q1 | ⟨k, q1⟩
      · exact q1
      · rcases q with q | q
        · omega
        · exact absurd q.2 (by decide)
    · rfl
/-- When a round finds nothing, the table is whole. -/
theorem val_end {a b : Aut} (g : Good2 a b) {k : Nat} (h : ∀ x y, x < a.next.length → y < b.next.length → lev a b x y ≠ (k : Int)) {x y : Nat} (hx : x < a.next.length) (hy : y < b.next.length) (e : Bool) : val a b k e x y = lev a b x y := by
  unfold val
  split
  · rfl
  · rename_i q
    rcases lev_cases a b x y with q1 | ⟨j, q1⟩
    · exact q1.symm
    · have hj : ¬ j < k := fun hlt => q (.inl (by omega))
      exact absurd q1 (lev_gap g h j (by omega) x y hx hy)
/-- The word is read off the table: at each step the first letter that leads to the level below. -/
theorem pick2_lev {a b : Aut} (g : Good2 a b) {k x y : Nat} (hx : x < a.next.length) (hy : y < b.next.length) (h : lev a b x y = ((k + 1 : Nat) : Int)) {c : Nat} (hc : (c : Int) < a.L) (hl : lev a b (step a x c) (step b y c) = (k : Int))
    (hmin : ∀ e, e < c → lev a b (step a x e) (step b y e) ≠ (k : Int)) : pick2 a b (k + 1) x y = (c : Int) :: pick2 a b k (step a x c) (step b y c) := by
  have hL := g.ga.l1
  obtain ⟨_, h2⟩ := (lev_eq g hx hy).1 h
  refine pick2_succ (least_is (by omega) ((lev_eq g (g.ga.step_lt hx hc) (g.gb.step_lt hy (by rw [← g.eL]; exact hc))).1 hl).1 fun e he => ?_)
  have heL : (e : Int) < a.L := by omega
  rcases q : ap2 a b k (step a x e) (step b y e) with _ | _
  · rfl
  · refine absurd ((lev_eq g (g.ga.step_lt hx heL) (g.gb.step_lt hy (by rw [← g.eL]; exact heL))).2 ⟨q, fun j hj => ?_⟩) (hmin e he)
    rcases q2 : ap2 a b j (step a x e) (step b y e) with _ | _
    · rfl
    · have : ap2 a b (j + 1) x y = true := List.any_eq_true.2 ⟨e, List.mem_range.2 (by omega), q2⟩
      rw [h2 (j + 1) (by omega)] at this; cases this
theorem diffW_lev {a b : Aut} {x y k : Nat} (h : lev a b x y = (k : Int)) : diffW a b x y = some (pick2 a b k x y) := by
  unfold lev at h
  unfold diffW
  rcases e : least (a.next.length + b.next.length) (fun k => ap2 a b k x y) with _ | m
  · rw [e] at h; have h : (-1 : Int) = (k : Int) := h; omega
  · rw [e] at h
    have h : ((m : Nat) : Int) = (k : Int) := h
    obtain rfl : m = k := by omega
    rfl
end Go.Proofs.YtlhhhdgkdbplmaaDoor.Sm

namespace Go.Proofs.YtlhhhdgkdbplmaaDoor.Sm
open Go.Proofs.YtlhhhdgkdbplmaaDoor.Df Go.Proofs.YtlhhhdgkdbplmaaDoor.Wo Go.Proofs.YtlhhhdgkdbplmaaDoor.Rc

theorem autOf_trim {α : Type} [DecidableEq α] {L : Int} {S : α → List α} {a : α} {l : List α} {f : α → Bool} (hl : found S a = some l) (h1 : 1 ≤ L) (h6 : L ≤ 6) (hS : ∀ x ∈ l, ((S x).length : Int) = L) : trimA (autOf L S l f) = autOf L S l f := by
  have hw := found_whole hl
  have gm := autOf_good (f := f) hw h1 h6 hS
  have hn : (autOf L S l f).next.length = l.length := by unfold autOf; simp
  have hr : rset (autOf L S l f) 0 = List.range (autOf L S l f).next.length := by
    have h1 := expl_map (f := f) hw hS 41 0 [a] hl (fun x hx => by simp at hx; subst hx; exact List.mem_of_getElem? hw.hd)
    rw [List.map_singleton, idx_of hw.nd hw.hd, map_num hw.nd] at h1
    have h2 : found (S1 (autOf L S l f)) 0 = some (List.range l.length) := h1
    unfold rset
    rw [h2, hn]; rfl
  have h0 : (autOf L S l f).s = 0 := rfl
  generalize autOf L S l f = m at *
  have hs : m.s = 0 → trimA m = m := fun hs => by
    obtain ⟨h1, h2⟩ := good_form gm
    have hs' : m.s.toNat = 0 := by rw [hs]; rfl
    have e : trimA m = ⟨m.L, 0, (rset m 0).map (srow (S1 m) (rset m 0)), (rset m 0).map (finA m)⟩ := by
      show autOf m.L (S1 m) (rset m m.s.toNat) (finA m) = _
      rw [hs']; rfl
    have hsr : ∀ q, q < m.next.length → srow (S1 m) (List.range m.next.length) q = (S1 m q).map fun (t : Nat) => (t : Int) := fun q hq => by
      unfold srow
      exact List.map_congr_left fun t ht => by rw [num_range (S1_lt gm hq ht)]
    rw [e, hr]
    have e3 : (List.range m.next.length).map (srow (S1 m) (List.range m.next.length)) = m.next := by
      conv => rhs; rw [h1]
      exact List.map_congr_left fun q hq => hsr q (List.mem_range.1 hq)
    rw [e3, ← h2, ← hs]
  exact hs h0
/-- What is numbered as found and has no two alike is the smallest of its own. -/
theorem min_self {m : Aut} (g : Df.Good m) (ht : trimA m = m) (hd : ∀ i j, i < m.next.length → j < m.next.length → Alike m m i j → i = j) : minA m = m := by
  have hk : ∀ x, x < m.next.length → kin m m x = x := fun x hx => by
    obtain ⟨_, h2, h3⟩ := stand_spec g hx
    exact (hd x _ hx h2 h3).symm
  have hq : quo m = m := by
    obtain ⟨h1, _⟩ := good_form g
    have e1 : ((kin m m m.s.toNat : Nat) : Int) = m.s := by rw [hk _ g.s_lt]; exact g.s_eq
    have e2 : ((List.range m.next.length).map fun q => (S1 m q).map fun t => ((kin m m t : Nat) : Int)) = m.next := by
      conv => rhs; rw [h1]
      refine List.map_congr_left fun q hq => List.map_congr_left fun t ht => ?_
      rw [hk t (S1_lt g (List.mem_range.1 hq) ht)]
    unfold quo
    rw [e1, e2]
  unfold minA
  rw [hq, ht]
theorem min_of {d m : Aut} (g : Good2 d m) (ht : trimA m = m) (hd : ∀ i j, i < m.next.length → j < m.next.length → Alike m m i j → i = j) (h : ∀ w, Word d.L w → accA d w = accA m w) : m = minA d := by
  rw [← min_self g.gb ht hd]
  exact min_unique g h
/-- What is found, with no two alike, is the smallest. -/
theorem autOf_min {α : Type} [DecidableEq α] {L : Int} {S : α → List α} {a : α} {l : List α} {f : α → Bool} (hl : found S a = some l) (hS : ∀ x ∈ l, ((S x).length : Int) = L)
    (hd : ∀ x ∈ l, ∀ y ∈ l, (∀ w, Word L w → f (viaAll S x w) = f (viaAll S y w)) → x = y) {d : Aut} (g : Df.Good d) (e : d.L = L) (h : ∀ w, Word L w → accA d w = f (viaAll S a w)) : autOf L S l f = minA d := by
  have hw := found_whole hl
  have h1 : 1 ≤ L := by rw [← e]; exact g.l1
  have h6 : L ≤ 6 := by rw [← e]; exact g.l6
  have gm := autOf_good (f := f) hw h1 h6 hS
  have hn : (autOf L S l f).next.length = l.length := by unfold autOf; simp
  refine min_of ⟨g, gm, e⟩ (autOf_trim hl h1 h6 hS) (fun i j hi hj ha => ?_) fun w hwd => ?_
  · rw [hn] at hi hj
    have key : ∀ i (hi : i < l.length) w, Word L w → finA (autOf L S l f) (runA (autOf L S l f) i w) = f (viaAll S l[i] w) := fun i hi w hwd => by
      have hm := List.getElem_mem hi
      have hnum : num l l[i] = i := idx_of hw.nd (List.getElem?_eq_getElem hi)
      obtain ⟨p1, p2⟩ := autOf_run (f := f) hw hS hwd hm
      rw [hnum] at p2
      rw [p2]
      show ((l.map f)[num l (viaAll S l[i] w)]?).getD false = _
      rw [List.getElem?_map, idx_get p1]; rfl
    have := hd l[i] (List.getElem_mem hi) l[j] (List.getElem_mem hj) fun w hwd => by
      rw [← key i hi w hwd, ← key j hj w hwd]
      exact ha w hwd
    exact (List.getElem_inj hw.nd).1 this
  · rw [h w (by rw [← e]; exact hwd), autOf_acc hw hS (by rw [← e]; exact hwd)]
end Go.Proofs.YtlhhhdgkdbplmaaDoor.Sm
