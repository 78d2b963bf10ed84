/- Plain mathematics of package duel: arenas, within how many moves a goal is forced, moves, traps. -/
import Derived.Test.YtkphdegelhlpeaaDfaM
namespace Go.Proofs.Ytkphdegelhlpeaa.Du
open Go.Proofs.Ytkphdegelhlpeaa.Rc

structure Ar where
  own : List Int
  next : List (List Int)
  goal : List Bool
def ownA (a : Ar) (p : Nat) : Int := a.own[p]?.getD 0
def goalA (a : Ar) (p : Nat) : Bool := a.goal[p]?.getD false
def rowA (a : Ar) (p : Nat) : List Int := a.next[p]?.getD []
def succs (a : Ar) (p : Nat) : List Nat := (rowA a p).map Int.toNat
/-- What is wrong with a place. -/
def rowChk (n : Nat) (o : Int) (r : List Int) : Nat :=
  if o ≠ 0 ∧ o ≠ 1 then 1 else if r.length = 0 then 3 else if 40 < r.length then 4 else if r.all (fun x => decide (0 ≤ x) && decide (x < n)) = true then 0 else 1
/-- What is wrong with the first places. -/
def toChk (a : Ar) : Nat → Nat
  | 0 => 0
  | k + 1 => if toChk a k ≠ 0 then toChk a k else rowChk a.next.length (ownA a k) (rowA a k)
def achk (a : Ar) : Nat := if a.next.length = 0 ∨ a.own.length ≠ a.next.length ∨ a.goal.length ≠ a.next.length then 3 else if 40 < a.next.length then 4 else toChk a a.next.length
structure Fit (n : Nat) (o : Int) (r : List Int) : Prop where
  own : o = 0 ∨ o = 1
  r1 : 1 ≤ r.length
  r40 : r.length ≤ 40
  go : ∀ x ∈ r, 0 ≤ x ∧ x < n
structure Good (a : Ar) : Prop where
  n1 : 1 ≤ a.next.length
  n40 : a.next.length ≤ 40
  own : a.own.length = a.next.length
  goal : a.goal.length = a.next.length
  fit : ∀ p, p < a.next.length → Fit a.next.length (ownA a p) (rowA a p)
theorem rowChk_iff {n : Nat} {o : Int} {r : List Int} : rowChk n o r = 0 ↔ Fit n o r := by
  unfold rowChk
  constructor
  · intro h
    split at h
    · omega
    split at h
    · omega
    split at h
    · omega
    split at h
    · rename_i h1 h2 h3 h4
      refine ⟨by omega, by omega, by omega, fun x hx => ?_⟩
      have := List.all_eq_true.1 h4 x hx
      simpa using this
    · omega
  · rintro ⟨h1, h2, h3, h4⟩
    rw [if_neg (by omega), if_neg (by omega), if_neg (by omega), if_pos]
    exact List.all_eq_true.2 fun x hx => by simpa using h4 x hx
theorem toChk_iff {a : Ar} : ∀ {k : Nat}, toChk a k = 0 ↔ ∀ p, p < k → Fit a.next.length (ownA a p) (rowA a p)
  | 0 => ⟨fun _ p h => by omega, fun _ => rfl⟩
  | k + 1 => by
    rw [toChk]
    constructor
    · intro h
      split at h
      · omega
      · rename_i h1
        intro p hp
        by_cases e : p = k
        · subst e; exact rowChk_iff.1 h
        · exact (toChk_iff (k := k)).1 (by omega) p (by omega)
    · intro h
      rw [if_neg (fun q => q ((toChk_iff (k := k)).2 fun p hp => h p (by omega)))]
      exact rowChk_iff.2 (h k (by omega))
theorem achk_iff {a : Ar} : achk a = 0 ↔ Good a := by
  unfold achk
  constructor
  · intro h
    split at h
    · omega
    split at h
    · omega
    · rename_i h1 h2
      exact ⟨by omega, by omega, by omega, by omega, toChk_iff.1 h⟩
  · rintro ⟨h1, h2, h3, h4, h5⟩
    rw [if_neg (by omega), if_neg (by omega)]
    exact toChk_iff.2 h5
theorem mem_succs {a : Ar} (g : Good a) {p : Nat} (hp : p < a.next.length) {q : Nat} : q ∈ succs a p ↔ (q : Int) ∈ rowA a p := by
  unfold succs
  rw [List.mem_map]
  constructor
  · rintro ⟨x, hx, rfl⟩
    have := (g.fit p hp).go x hx
    rwa [Int.toNat_of_nonneg this.1]
  · intro h
    exact ⟨(q : Int), h, by simp⟩
theorem succ_lt {a : Ar} (g : Good a) {p q : Nat} (hp : p < a.next.length) (h : q ∈ succs a p) : q < a.next.length := by
  have := (g.fit p hp).go _ ((mem_succs g hp).1 h)
  omega
theorem succ_some {a : Ar} (g : Good a) {p : Nat} (hp : p < a.next.length) : ∃ q, q ∈ succs a p := by
  have := (g.fit p hp).r1
  rcases h : rowA a p with _ | ⟨x, r⟩
  · rw [h] at this; simp at this
  · exact ⟨x.toNat, by unfold succs; rw [h]; simp⟩

/-! ### what is forced within so many moves -/
def win (a : Ar) : Nat → Nat → Bool
  | 0, p => goalA a p
  | k + 1, p => goalA a p || (ownA a p == 0 && (succs a p).any (win a k)) || (ownA a p == 1 && (succs a p).all (win a k))
theorem win_succ (a : Ar) (k p : Nat) : win a (k + 1) p = (goalA a p || (ownA a p == 0 && (succs a p).any (win a k)) || (ownA a p == 1 && (succs a p).all (win a k))) := rfl
theorem win_goal {a : Ar} {p : Nat} (h : goalA a p = true) (k : Nat) : win a k p = true := by
  rcases k with _ | k
  · exact h
  · rw [win_succ, h]; simp
theorem win_own0 {a : Ar} {p : Nat} (h : goalA a p = false) (ho : ownA a p = 0) (k : Nat) : win a (k + 1) p = (succs a p).any (win a k) := by rw [win_succ, h, ho]; simp
theorem win_own1 {a : Ar} {p : Nat} (h : goalA a p = false) (ho : ownA a p = 1) (k : Nat) : win a (k + 1) p = (succs a p).all (win a k) := by rw [win_succ, h, ho]; simp
theorem win_step {a b : Ar} {k m : Nat} (h : ∀ q, win a k q = true → win b m q = true) {p : Nat} (hn : succs a p = succs b p) (hg : goalA a p = true → goalA b p = true) (ho : ownA b p = ownA a p) (hw : win a (k + 1) p = true) : win b (m + 1) p = true := by
  rw [win_succ] at hw ⊢
  rw [Bool.or_eq_true, Bool.or_eq_true, Bool.and_eq_true, Bool.and_eq_true] at hw ⊢
  rw [← hn, ho]
  rcases hw with (hw | ⟨h1, h2⟩) | ⟨h1, h2⟩
  · exact .inl (.inl (hg hw))
  · obtain ⟨q, hq, hqw⟩ := List.any_eq_true.1 h2
    exact .inl (.inr ⟨h1, List.any_eq_true.2 ⟨q, hq, h q hqw⟩⟩)
  · exact .inr ⟨h1, List.all_eq_true.2 fun q hq => h q (List.all_eq_true.1 h2 q hq)⟩
theorem win_more {a : Ar} : ∀ {k p : Nat}, win a k p = true → win a (k + 1) p = true
  | 0, _, h => win_goal h _
  | _ + 1, _, h => win_step (fun _ hq => win_more hq) rfl (fun h => h) rfl h
theorem win_le {a : Ar} {k m p : Nat} (hk : k ≤ m) (h : win a k p = true) : win a m p = true := by
  induction m with
  | zero => obtain rfl : k = 0 := by omega
            exact h
  | succ m ih =>
    by_cases e : k = m + 1
    · subst e; exact h
    · exact win_more (ih (by omega))
/-- Of how many of all places. -/
def cnt (a : Ar) (k : Nat) : Nat := ((List.range a.next.length).filter (win a k)).length
theorem filter_sub {l : List Nat} {P Q : Nat → Bool} (h : ∀ s ∈ l, Q s = true → P s = true) : (l.filter Q).length ≤ (l.filter P).length ∧ ((l.filter Q).length = (l.filter P).length → ∀ s ∈ l, P s = true → Q s = true) := by
  induction l with
  | nil => exact ⟨by simp, fun _ s hs => by simp at hs⟩
  | cons a l ih =>
    obtain ⟨i1, i2⟩ := ih fun s hs => h s (List.mem_cons_of_mem _ hs)
    have ha := h a List.mem_cons_self
    rcases hp : P a with _ | _ <;> rcases hq : Q a with _ | _
    · rw [List.filter_cons_of_neg (by rw [hq]; decide), List.filter_cons_of_neg (by rw [hp]; decide)]
      refine ⟨i1, fun e s hs hps => ?_⟩
      rcases List.mem_cons.1 hs with rfl | hs
      · rw [hp] at hps; cases hps
      · exact i2 e s hs hps
    · rw [ha hq] at hp; cases hp
    · rw [List.filter_cons_of_pos hp, List.filter_cons_of_neg (by rw [hq]; decide)]
      simp only [List.length_cons]
      exact ⟨by omega, fun e => by omega⟩
    · rw [List.filter_cons_of_pos hp, List.filter_cons_of_pos hq]
      simp only [List.length_cons]
      refine ⟨by omega, fun e s hs hps => ?_⟩
      rcases List.mem_cons.1 hs with rfl | hs
      · exact hq
      · exact i2 (by omega) s hs hps
/-- From some number on nothing is added. -/
def Still (a : Ar) (k : Nat) : Prop := ∀ p, p < a.next.length → win a (k + 1) p = true → win a k p = true
theorem still_next {a : Ar} (g : Good a) {k : Nat} (h : Still a k) : Still a (k + 1) := fun p hp hw => by
  rw [win_succ] at hw ⊢
  rw [Bool.or_eq_true, Bool.or_eq_true, Bool.and_eq_true, Bool.and_eq_true] at hw ⊢
  rcases hw with (hw | ⟨h1, h2⟩) | ⟨h1, h2⟩
  · exact .inl (.inl hw)
  · obtain ⟨q, hq, hqw⟩ := List.any_eq_true.1 h2
    exact .inl (.inr ⟨h1, List.any_eq_true.2 ⟨q, hq, h q (succ_lt g hp hq) hqw⟩⟩)
  · exact .inr ⟨h1, List.all_eq_true.2 fun q hq => h q (succ_lt g hp hq) (List.all_eq_true.1 h2 q hq)⟩
theorem still_all {a : Ar} (g : Good a) {k : Nat} (h : Still a k) : ∀ {m p : Nat}, p < a.next.length → win a m p = true → win a k p = true := by
  have hs : ∀ j, Still a (k + j) := fun j => by
    induction j with
    | zero => exact h
    | succ j ih => exact still_next g ih
  have key : ∀ (j : Nat) {p : Nat}, p < a.next.length → win a (k + j) p = true → win a k p = true := by
    intro j
    induction j with
    | zero => exact fun _ hw => hw
    | succ j ih => exact fun hp hw => ih hp (hs j _ hp hw)
  intro m p hp hw
  by_cases e : m ≤ k
  · exact win_le e hw
  · obtain ⟨j, rfl⟩ : ∃ j, m = k + j := ⟨m - k, by omega⟩
    exact key j hp hw
theorem still_ex {a : Ar} (g : Good a) : ∃ j, j + 1 ≤ a.next.length ∧ Still a j := by
  rcases Classical.em (∃ j, j + 1 ≤ a.next.length ∧ Still a j) with h | h
  · exact h
  · exfalso
    have hno : ∀ j, j + 1 ≤ a.next.length → ¬ Still a j := fun j hj hs => h ⟨j, hj, hs⟩
    have hstep : ∀ j, j + 1 ≤ a.next.length → cnt a j < cnt a (j + 1) := fun j hj => by
      obtain ⟨h1, h2⟩ := filter_sub (l := List.range a.next.length) (P := win a (j + 1)) (Q := win a j) (fun s _ hs => win_more hs)
      by_cases e : cnt a j = cnt a (j + 1)
      · exact absurd (fun p hp hw => h2 e p (List.mem_range.2 hp) hw) (hno j hj)
      · unfold cnt at e ⊢; omega
    have h0 : 1 ≤ cnt a 0 := by
      by_cases e : cnt a 0 = 0
      · refine absurd (fun p hp hw => ?_) (hno 0 g.n1)
        have hz : ∀ q, q < a.next.length → win a 0 q = false := fun q hq => by
          rcases hw0 : win a 0 q with _ | _
          · rfl
          · have : q ∈ (List.range a.next.length).filter (win a 0) := List.mem_filter.2 ⟨List.mem_range.2 hq, hw0⟩
            rw [List.length_eq_zero_iff.1 e] at this; simp at this
        rw [win_succ] at hw
        rw [Bool.or_eq_true, Bool.or_eq_true, Bool.and_eq_true, Bool.and_eq_true] at hw
        rcases hw with (hw | ⟨_, h2⟩) | ⟨_, h2⟩
        · exact hw
        · obtain ⟨q, hq, hqw⟩ := List.any_eq_true.1 h2
          rw [hz q (succ_lt g hp hq)] at hqw; cases hqw
        · obtain ⟨q, hq⟩ := succ_some g hp
          have := List.all_eq_true.1 h2 q hq
          rw [hz q (succ_lt g hp hq)] at this; cases this
      · omega
    have hk : ∀ k, k ≤ a.next.length → k + 1 ≤ cnt a k := fun k hk => by
      induction k with
      | zero => exact h0
      | succ k ih => have := ih (by omega); have := hstep k hk; omega
    have h1 := hk _ (Nat.le_refl _)
    have h2 : cnt a a.next.length ≤ a.next.length := by
      unfold cnt
      have := List.length_filter_le (win a a.next.length) (List.range a.next.length)
      rwa [List.length_range] at this
    omega
theorem win_end {a : Ar} (g : Good a) {k p : Nat} (hp : p < a.next.length) (h : win a k p = true) : win a (a.next.length - 1) p = true := by
  obtain ⟨j, hj, hs⟩ := still_ex g
  exact win_le (by omega) (still_all g hs hp h)

/-! ### ranks -/
/-- Within the first moves up to k. -/
def rankTo (a : Ar) (k p : Nat) : Int := match least (k + 1) (fun j => win a j p) with
  | some j => (j : Int)
  | none => -1
theorem rankTo_iff {a : Ar} {k p j : Nat} : rankTo a k p = (j : Int) ↔ j ≤ k ∧ win a j p = true ∧ ∀ i, i < j → win a i p = false := by
  unfold rankTo
  rcases e : least (k + 1) (fun j => win a j p) with _ | m
  · constructor
    · intro h
      have h : (-1 : Int) = (j : Int) := h
      omega
    · rintro ⟨h1, h2, _⟩
      have := least_none e (j := j) (by omega)
      rw [h2] at this; cases this
  · obtain ⟨h1, h2, h3⟩ := least_some e
    constructor
    · intro h
      have h : (m : Int) = (j : Int) := h
      obtain rfl : m = j := by omega
      exact ⟨by omega, h2, h3⟩
    · rintro ⟨_, k2, k3⟩
      show (m : Int) = (j : Int)
      rcases Nat.lt_trichotomy m j with h | h | h
      · have := k3 m h
        rw [h2] at this; cases this
      · omega
      · have := h3 j h
        rw [k2] at this; cases this
theorem rankTo_no {a : Ar} {k p : Nat} : rankTo a k p < 0 ↔ win a k p = false := by
  unfold rankTo
  rcases e : least (k + 1) (fun j => win a j p) with _ | m
  · exact ⟨fun _ => least_none e (by omega), fun _ => by show (-1 : Int) < 0; omega⟩
  · obtain ⟨h1, h2, _⟩ := least_some e
    constructor
    · intro h
      have h : (m : Int) < 0 := h
      omega
    · intro h
      rw [win_le (by omega) h2] at h; cases h
theorem rankTo_neg {a : Ar} {k p : Nat} (h : rankTo a k p < 0) : rankTo a k p = -1 := by
  unfold rankTo at h ⊢
  generalize least (k + 1) (fun j => win a j p) = o at *
  rcases o with _ | m
  · rfl
  · have h : (m : Int) < 0 := h
    omega
theorem rankTo_zero (a : Ar) (p : Nat) : rankTo a 0 p = if goalA a p = true then 0 else -1 := by
  rcases h : goalA a p with _ | _
  · rw [if_neg (by decide)]
    exact rankTo_neg (rankTo_no.2 h)
  · rw [if_pos rfl]
    exact (rankTo_iff (j := 0)).2 ⟨by omega, h, fun i hi => by omega⟩
theorem rankTo_succ (a : Ar) (k p : Nat) : rankTo a (k + 1) p = if rankTo a k p < 0 then (if win a (k + 1) p = true then ((k + 1 : Nat) : Int) else -1) else rankTo a k p := by
  by_cases h : rankTo a k p < 0
  · rw [if_pos h]
    have hn := rankTo_no.1 h
    rcases hw : win a (k + 1) p with _ | _
    · rw [if_neg (by decide)]
      exact rankTo_neg (rankTo_no.2 hw)
    · rw [if_pos rfl]
      refine rankTo_iff.2 ⟨Nat.le_refl _, hw, fun i hi => ?_⟩
      rcases hi2 : win a i p with _ | _
      · rfl
      · rw [win_le (by omega) hi2] at hn; cases hn
  · rw [if_neg h]
    obtain ⟨j, hj⟩ := Int.eq_ofNat_of_zero_le (show 0 ≤ rankTo a k p by omega)
    obtain ⟨h1, h2, h3⟩ := rankTo_iff.1 hj
    rw [hj]
    exact rankTo_iff.2 ⟨by omega, h2, h3⟩
def rank (a : Ar) (p : Nat) : Int := rankTo a a.next.length p
theorem rank_iff {a : Ar} (g : Good a) {p j : Nat} (hp : p < a.next.length) : rank a p = (j : Int) ↔ win a j p = true ∧ ∀ i, i < j → win a i p = false := by
  unfold rank
  rw [rankTo_iff]
  constructor
  · exact fun h => h.2
  · rintro ⟨h1, h2⟩
    refine ⟨?_, h1, h2⟩
    by_cases e : j ≤ a.next.length
    · exact e
    · have := h2 (a.next.length - 1) (by omega)
      rw [win_end g hp h1] at this; cases this
theorem rank_no {a : Ar} (g : Good a) {p : Nat} (hp : p < a.next.length) : rank a p < 0 ↔ ∀ k, win a k p = false := by
  unfold rank
  rw [rankTo_no]
  constructor
  · intro h k
    rcases hw : win a k p with _ | _
    · rfl
    · rw [win_le (by omega) (win_end g hp hw)] at h; cases h
  · exact fun h => h _
theorem rank_neg {a : Ar} {p : Nat} (h : rank a p < 0) : rank a p = -1 := rankTo_neg h
theorem rank_lt {a : Ar} (g : Good a) {p : Nat} (hp : p < a.next.length) : rank a p < a.next.length := by
  by_cases h : rank a p < 0
  · omega
  · obtain ⟨j, hj⟩ := Int.eq_ofNat_of_zero_le (show 0 ≤ rank a p by omega)
    obtain ⟨h1, h2⟩ := (rank_iff g hp).1 hj
    have h3 := win_end g hp h1
    have : ¬ a.next.length - 1 < j := fun h => by
      rw [h2 _ h] at h3; cases h3
    have := g.n1
    omega
theorem rank_ge (a : Ar) (p : Nat) : -1 ≤ rank a p := by
  by_cases h : rank a p < 0
  · rw [rank_neg h]; omega
  · omega
theorem rank_win {a : Ar} (g : Good a) {p k : Nat} (hp : p < a.next.length) (h : win a k p = true) : 0 ≤ rank a p ∧ rank a p ≤ k := by
  have h0 : ¬ rank a p < 0 := fun q => by
    rw [(rank_no g hp).1 q k] at h; cases h
  obtain ⟨j, hj⟩ := Int.eq_ofNat_of_zero_le (show 0 ≤ rank a p by omega)
  obtain ⟨_, h2⟩ := (rank_iff g hp).1 hj
  have : ¬ k < j := fun q => by
    rw [h2 k q] at h; cases h
  omega
theorem win_rank {a : Ar} (g : Good a) {p k : Nat} (hp : p < a.next.length) (h0 : 0 ≤ rank a p) (hk : rank a p ≤ k) : win a k p = true := by
  obtain ⟨j, hj⟩ := Int.eq_ofNat_of_zero_le h0
  exact win_le (by omega) ((rank_iff g hp).1 hj).1
theorem rank_goal {a : Ar} (g : Good a) {p : Nat} (hp : p < a.next.length) : rank a p = 0 ↔ goalA a p = true := by
  constructor
  · intro h
    exact ((rank_iff (j := 0) g hp).1 h).1
  · intro h
    exact (rank_iff (j := 0) g hp).2 ⟨h, fun i hi => by omega⟩
/-- One more than the least one behind it. -/
theorem rank_own0 {a : Ar} (g : Good a) {p : Nat} (hp : p < a.next.length) (hg : goalA a p = false) (ho : ownA a p = 0) {q : Nat} (hq : q ∈ succs a p) (h0 : 0 ≤ rank a q) (hmin : ∀ r ∈ succs a p, 0 ≤ rank a r → rank a q ≤ rank a r) : rank a p = rank a q + 1 := by
  obtain ⟨j, hj⟩ := Int.eq_ofNat_of_zero_le h0
  have hql := succ_lt g hp hq
  have h1 : rank a p = ((j + 1 : Nat) : Int) := by
    rw [rank_iff g hp]
    refine ⟨?_, fun i hi => ?_⟩
    · rw [win_own0 hg ho]
      exact List.any_eq_true.2 ⟨q, hq, win_rank g hql h0 (by omega)⟩
    · rcases i with _ | i
      · exact hg
      · rw [win_own0 hg ho]
        rcases hw : (succs a p).any (win a i) with _ | _
        · rfl
        · obtain ⟨r, hr, hrw⟩ := List.any_eq_true.1 hw
          obtain ⟨r1, r2⟩ := rank_win g (succ_lt g hp hr) hrw
          have := hmin r hr r1
          omega
  omega
theorem rank_own0_no {a : Ar} (g : Good a) {p : Nat} (hp : p < a.next.length) (hg : goalA a p = false) (ho : ownA a p = 0) (h : ∀ q ∈ succs a p, rank a q < 0) : rank a p = -1 := by
  refine rank_neg ((rank_no g hp).2 fun k => ?_)
  rcases k with _ | k
  · exact hg
  · rw [win_own0 hg ho]
    rcases hw : (succs a p).any (win a k) with _ | _
    · rfl
    · obtain ⟨r, hr, hrw⟩ := List.any_eq_true.1 hw
      have := (rank_win g (succ_lt g hp hr) hrw).1
      have := h r hr
      omega
/-- One more than the greatest one behind it. -/
theorem rank_own1 {a : Ar} (g : Good a) {p : Nat} (hp : p < a.next.length) (hg : goalA a p = false) (ho : ownA a p = 1) {q : Nat} (hq : q ∈ succs a p) (hall : ∀ r ∈ succs a p, 0 ≤ rank a r ∧ rank a r ≤ rank a q) : rank a p = rank a q + 1 := by
  have h0 := (hall q hq).1
  obtain ⟨j, hj⟩ := Int.eq_ofNat_of_zero_le h0
  have hql := succ_lt g hp hq
  have h1 : rank a p = ((j + 1 : Nat) : Int) := by
    rw [rank_iff g hp]
    refine ⟨?_, fun i hi => ?_⟩
    · rw [win_own1 hg ho]
      refine List.all_eq_true.2 fun r hr => ?_
      obtain ⟨r1, r2⟩ := hall r hr
      exact win_rank g (succ_lt g hp hr) r1 (by omega)
    · rcases i with _ | i
      · exact hg
      · rw [win_own1 hg ho]
        rcases hw : (succs a p).all (win a i) with _ | _
        · rfl
        · have := (rank_win g hql (List.all_eq_true.1 hw q hq)).2
          omega
  omega
theorem rank_own1_no {a : Ar} (g : Good a) {p : Nat} (hp : p < a.next.length) (hg : goalA a p = false) (ho : ownA a p = 1) {q : Nat} (hq : q ∈ succs a p) (h : rank a q < 0) : rank a p = -1 := by
  refine rank_neg ((rank_no g hp).2 fun k => ?_)
  rcases k with _ | k
  · exact hg
  · rw [win_own1 hg ho]
    rcases hw : (succs a p).all (win a k) with _ | _
    · rfl
    · have := (rank_win g (succ_lt g hp hq) (List.all_eq_true.1 hw q hq)).1
      omega
/-- Behind a place of 0 that has a rank: one whose rank is less by one. -/
theorem force0 {a : Ar} (g : Good a) {p : Nat} (hp : p < a.next.length) (ho : ownA a p = 0) (h : 0 < rank a p) : ∃ q, q ∈ succs a p ∧ rank a q = rank a p - 1 := by
  obtain ⟨j, hj⟩ := Int.eq_ofNat_of_zero_le (show 0 ≤ rank a p by omega)
  obtain ⟨h1, h2⟩ := (rank_iff g hp).1 hj
  rcases j with _ | j
  · omega
  have hg : goalA a p = false := h2 0 (by omega)
  rw [win_own0 hg ho] at h1
  obtain ⟨q, hq, hqw⟩ := List.any_eq_true.1 h1
  have hql := succ_lt g hp hq
  obtain ⟨q1, q2⟩ := rank_win g hql hqw
  refine ⟨q, hq, ?_⟩
  by_cases e : rank a q = (j : Int)
  · omega
  · obtain ⟨m, hm⟩ := Int.eq_ofNat_of_zero_le q1
    have h3 := h2 (m + 1) (by omega)
    rw [win_own0 hg ho] at h3
    have : (succs a p).any (win a m) = true := List.any_eq_true.2 ⟨q, hq, win_rank g hql q1 (by omega)⟩
    rw [h3] at this; cases this
/-- Behind a place of 1 that has a rank: only such of lesser rank. -/
theorem force1 {a : Ar} (g : Good a) {p : Nat} (hp : p < a.next.length) (ho : ownA a p = 1) (h : 0 < rank a p) {q : Nat} (hq : q ∈ succs a p) : 0 ≤ rank a q ∧ rank a q ≤ rank a p - 1 := by
  obtain ⟨j, hj⟩ := Int.eq_ofNat_of_zero_le (show 0 ≤ rank a p by omega)
  obtain ⟨h1, h2⟩ := (rank_iff g hp).1 hj
  rcases j with _ | j
  · omega
  have hg : goalA a p = false := h2 0 (by omega)
  rw [win_own1 hg ho] at h1
  obtain ⟨q1, q2⟩ := rank_win g (succ_lt g hp hq) (List.all_eq_true.1 h1 q hq)
  exact ⟨q1, by omega⟩
theorem hide_goal {a : Ar} (g : Good a) {p : Nat} (hp : p < a.next.length) (h : rank a p < 0) : goalA a p = false := (rank_no g hp).1 h 0
theorem hide0 {a : Ar} (g : Good a) {p : Nat} (hp : p < a.next.length) (ho : ownA a p = 0) (h : rank a p < 0) {q : Nat} (hq : q ∈ succs a p) : rank a q < 0 := by
  refine (rank_no g (succ_lt g hp hq)).2 fun k => ?_
  have := (rank_no g hp).1 h (k + 1)
  rw [win_own0 (hide_goal g hp h) ho] at this
  rcases hw : win a k q with _ | _
  · rfl
  · rw [List.any_eq_true.2 ⟨q, hq, hw⟩] at this; cases this
theorem hide1 {a : Ar} (g : Good a) {p : Nat} (hp : p < a.next.length) (ho : ownA a p = 1) (h : rank a p < 0) : ∃ q, q ∈ succs a p ∧ rank a q < 0 := by
  rcases Classical.em (∃ q, q ∈ succs a p ∧ rank a q < 0) with q | q
  · exact q
  · exfalso
    have := (rank_no g hp).1 h a.next.length.succ
    rw [win_own1 (hide_goal g hp h) ho] at this
    have hall : (succs a p).all (win a a.next.length) = true := List.all_eq_true.2 fun r hr => by
      have hr0 : ¬ rank a r < 0 := fun k => q ⟨r, hr, k⟩
      have hrl := succ_lt g hp hr
      have := rank_lt g hrl
      exact win_rank g hrl (by omega) (by omega)
    rw [hall] at this; cases this

/-! ### moves -/
/-- The first place behind that is right. -/
def pickM (a : Ar) (p : Nat) : Nat → Bool := fun q => (ownA a p == 0 && decide (0 < rank a p) && rank a q == rank a p - 1) || (ownA a p == 1 && decide (rank a p < 0) && decide (rank a q < 0))
def moveTo (a : Ar) (p : Nat) (l : List Nat) : Int := match l.find? (pickM a p) with
  | some q => (q : Int)
  | none => -1
def moveA (a : Ar) (p : Nat) : Int := moveTo a p (succs a p)
theorem moveTo_snoc (a : Ar) (p : Nat) (l : List Nat) (q : Nat) : moveTo a p (l ++ [q]) = if moveTo a p l < 0 then (if pickM a p q = true then (q : Int) else -1) else moveTo a p l := by
  unfold moveTo
  rw [List.find?_append]
  rcases l.find? (pickM a p) with _ | r
  · rcases h : pickM a p q with _ | _
    · simp [h]
    · simp [h]
  · show (r : Int) = if (r : Int) < 0 then _ else (r : Int)
    rw [if_neg (by omega)]
theorem move_force {a : Ar} (g : Good a) {p : Nat} (hp : p < a.next.length) (ho : ownA a p = 0) (h : 0 < rank a p) : ∃ q : Nat, moveA a p = (q : Int) ∧ q ∈ succs a p ∧ rank a q = rank a p - 1 := by
  unfold moveA moveTo
  rcases e : (succs a p).find? (pickM a p) with _ | q
  · obtain ⟨q, hq, hr⟩ := force0 g hp ho h
    have := List.find?_eq_none.1 e q hq
    unfold pickM at this
    rw [ho, hr] at this
    simp [h] at this
  · have h1 := List.find?_some e
    have h2 := List.mem_of_find?_eq_some e
    refine ⟨q, rfl, h2, ?_⟩
    unfold pickM at h1
    rw [ho] at h1
    simp at h1
    exact h1.2
theorem move_hide {a : Ar} (g : Good a) {p : Nat} (hp : p < a.next.length) (ho : ownA a p = 1) (h : rank a p < 0) : ∃ q : Nat, moveA a p = (q : Int) ∧ q ∈ succs a p ∧ rank a q < 0 := by
  unfold moveA moveTo
  rcases e : (succs a p).find? (pickM a p) with _ | q
  · obtain ⟨q, hq, hr⟩ := hide1 g hp ho h
    have := List.find?_eq_none.1 e q hq
    unfold pickM at this
    rw [ho] at this
    simp [h, hr] at this
  · have h1 := List.find?_some e
    have h2 := List.mem_of_find?_eq_some e
    refine ⟨q, rfl, h2, ?_⟩
    unfold pickM at h1
    rw [ho] at h1
    simp at h1
    exact h1.2

/-! ### traps, and arenas with more -/
theorem traps {a : Ar} (g : Good a) {S : Nat → Bool} (h : ∀ p, p < a.next.length → S p = true → goalA a p = false ∧ (ownA a p = 0 → ∀ q ∈ succs a p, S q = true) ∧ (ownA a p = 1 → ∃ q, q ∈ succs a p ∧ S q = true)) : ∀ (k p : Nat), p < a.next.length → S p = true → win a k p = false
  | 0, p, hp, hs => (h p hp hs).1
  | k + 1, p, hp, hs => by
    obtain ⟨h1, h2, h3⟩ := h p hp hs
    rcases (g.fit p hp).own with ho | ho
    · rw [win_own0 h1 ho]
      rcases hw : (succs a p).any (win a k) with _ | _
      · rfl
      · obtain ⟨r, hr, hrw⟩ := List.any_eq_true.1 hw
        rw [traps g h k r (succ_lt g hp hr) (h2 ho r hr)] at hrw; cases hrw
    · obtain ⟨q, hq, hqs⟩ := h3 ho
      rw [win_own1 h1 ho]
      rcases hw : (succs a p).all (win a k) with _ | _
      · rfl
      · have := List.all_eq_true.1 hw q hq
        rw [traps g h k q (succ_lt g hp hq) hqs] at this; cases this
theorem trap_rank {a : Ar} (g : Good a) {S : Nat → Bool} (h : ∀ p, p < a.next.length → S p = true → goalA a p = false ∧ (ownA a p = 0 → ∀ q ∈ succs a p, S q = true) ∧ (ownA a p = 1 → ∃ q, q ∈ succs a p ∧ S q = true)) {p : Nat} (hp : p < a.next.length) (hs : S p = true) : rank a p < 0 :=
  (rank_no g hp).2 fun k => traps g h k p hp hs
/-- More goals, more places of 0: no harder. -/
theorem win_grows {a b : Ar} (g : Good a) (hn : a.next = b.next) (hg : ∀ p, goalA a p = true → goalA b p = true) (ho : ∀ p, p < a.next.length → ownA b p = ownA a p ∨ ownA b p = 0) : ∀ (k p : Nat), p < a.next.length → win a k p = true → win b k p = true
  | 0, p, _, h => hg p h
  | k + 1, p, hp, h => by
    have hs : succs b p = succs a p := by unfold succs rowA; rw [hn]
    have ih := fun q (hq : q ∈ succs a p) => win_grows g hn hg ho k q (succ_lt g hp hq)
    rcases hgp : goalA a p with _ | _
    · have hanyb : ∀ q, q ∈ succs a p → win a k q = true → (succs b p).any (win b k) = true := fun q hq hw => by
        rw [hs]; exact List.any_eq_true.2 ⟨q, hq, ih q hq hw⟩
      rcases (g.fit p hp).own with o | o
      · have ob : ownA b p = 0 := by rcases ho p hp with q | q <;> omega
        rw [win_own0 hgp o] at h
        obtain ⟨q, hq, hqw⟩ := List.any_eq_true.1 h
        rw [win_succ, ob, hanyb q hq hqw]; simp
      · rw [win_own1 hgp o] at h
        rcases ho p hp with ob | ob
        · rw [win_succ, ob, o, hs, show (succs a p).all (win b k) = true from List.all_eq_true.2 fun q hq => ih q hq (List.all_eq_true.1 h q hq)]; simp
        · obtain ⟨q, hq⟩ := succ_some g hp
          rw [win_succ, ob, hanyb q hq (List.all_eq_true.1 h q hq)]; simp
    · exact win_goal (hg p hgp) _
theorem rank_grows {a b : Ar} (g : Good a) (gb : Good b) (hn : a.next = b.next) (hg : ∀ p, goalA a p = true → goalA b p = true) (ho : ∀ p, p < a.next.length → ownA b p = ownA a p ∨ ownA b p = 0) {p : Nat} (hp : p < a.next.length) (h : 0 ≤ rank a p) : 0 ≤ rank b p ∧ rank b p ≤ rank a p := by
  obtain ⟨j, hj⟩ := Int.eq_ofNat_of_zero_le h
  have := rank_win gb (by rw [← hn]; exact hp) (win_grows g hn hg ho j p hp (win_rank g hp h (by omega)))
  rw [hj]; exact this
end Go.Proofs.Ytkphdegelhlpeaa.Du
