/- Plain mathematics of the table that says by how many letters a pair of states is led out: its levels, its rounds, the word that is read off it. -/
import Derived.Test.YtbciefeipiphiaaSuperM
namespace Go.Proofs.Ytbciefeipiphiaa.Su
open Go.Proofs.Ytbciefeipiphiaa.Df Go.Proofs.Ytbciefeipiphiaa.Wo Go.Proofs.Ytbciefeipiphiaa.Rc Go.Proofs.Ytbciefeipiphiaa.Sm Go.Proofs.Ytbciefeipiphiaa.Sa Go.Proofs.Ytbciefeipiphiaa.Me

/-! ### levels -/
theorem lenB_live {P D : Aut} {free : Int} : ∀ {k p q : Nat}, lenB P D free k p q = true → live2 P D p q = true
  | 0, _, _, h => by rw [lenB, Bool.and_eq_true] at h; exact h.1
  | _ + 1, _, _, h => by rw [lenB, Bool.and_eq_true] at h; exact h.1
theorem lenB_step {P D : Aut} (g : Good2 P D) {free : Int} {k p q c : Nat} (hp : p < P.next.length) (hq : q < D.next.length) (hc : (c : Int) < P.L) (h : lenB P D free k (step P p c) (step D q c) = true) : lenB P D free (k + 1) p q = true := by
  have hl := lenB_live h
  unfold live2 at hl
  rw [Bool.and_eq_true] at hl
  rw [lenB, Bool.and_eq_true]
  refine ⟨?_, List.any_eq_true.2 ⟨c, List.mem_range.2 (by omega), h⟩⟩
  unfold live2
  rw [alive_step g.ga hp hc hl.1, alive_step g.gb hq (by rw [← g.eL]; exact hc) hl.2]; rfl
/-- Just so many letters lead out, not less. -/
structure Lv (P D : Aut) (free : Int) (k p q : Nat) : Prop where
  yes : lenB P D free k p q = true
  no : ∀ j, j < k → lenB P D free j p q = false
theorem lv_least {P D : Aut} {free : Int} {p q : Nat} : ∀ {k : Nat}, lenB P D free k p q = true → ∃ m, m ≤ k ∧ Lv P D free m p q := by
  intro k
  induction k using Nat.strongRecOn with
  | ind k ih =>
    intro h
    by_cases hn : ∀ j, j < k → lenB P D free j p q = false
    · exact ⟨k, Nat.le_refl _, h, hn⟩
    · obtain ⟨j, hj⟩ := Classical.not_forall.1 hn
      obtain ⟨h1, h2⟩ := Classical.not_imp.1 hj
      obtain ⟨m, hm, h3⟩ := ih j h1 (by rcases e : lenB P D free j p q with _ | _; exact absurd e h2; rfl)
      exact ⟨m, by omega, h3⟩
theorem lv_down {P D : Aut} (g : Good2 P D) {free : Int} {k p q : Nat} (hp : p < P.next.length) (hq : q < D.next.length) (h : Lv P D free (k + 1) p q) : ∃ c : Nat, (c : Int) < P.L ∧ Lv P D free k (step P p c) (step D q c) := by
  have h1 := h.yes
  rw [lenB, Bool.and_eq_true] at h1
  obtain ⟨c, hc, hb⟩ := List.any_eq_true.1 h1.2
  have hc' := List.mem_range.1 hc
  have hcL : (c : Int) < P.L := by omega
  refine ⟨c, hcL, hb, fun j hj => ?_⟩
  rcases e : lenB P D free j (step P p c) (step D q c) with _ | _
  · rfl
  · have := lenB_step g hp hq hcL e
    rw [h.no (j + 1) (by omega)] at this; cases this
theorem lv_all {P D : Aut} (g : Good2 P D) {free : Int} : ∀ (k : Nat) {p q : Nat}, p < P.next.length → q < D.next.length → Lv P D free k p q → ∀ j, j ≤ k → ∃ x y, x < P.next.length ∧ y < D.next.length ∧ Lv P D free j x y
  | 0, p, q, hp, hq, h, j, hj => by obtain rfl : j = 0 := by omega
                                    exact ⟨p, q, hp, hq, h⟩
  | k + 1, p, q, hp, hq, h, j, hj => by
    by_cases e : j = k + 1
    · subst e; exact ⟨p, q, hp, hq, h⟩
    · obtain ⟨c, hc, h1⟩ := lv_down g hp hq h
      exact lv_all g k (g.ga.step_lt hp hc) (g.gb.step_lt hq (by rw [← g.eL]; exact hc)) h1 j (by omega)
/-- A pair as a number. -/
theorem code_pair {N p q : Nat} (hq : q < N) : (q + p * N) / N = p ∧ (q + p * N) % N = q := by
  have hN : 0 < N := by omega
  rw [Nat.add_mul_div_right _ _ hN, Nat.div_eq_of_lt hq, Nat.zero_add, Nat.add_mul_mod_self_right, Nat.mod_eq_of_lt hq]
  exact ⟨rfl, rfl⟩
theorem code_lt {M N p q : Nat} (hp : p < M) (hq : q < N) : q + p * N < M * N := by
  have h1 : (p + 1) * N ≤ M * N := Nat.mul_le_mul_right N hp
  rw [Nat.add_mul, Nat.one_mul] at h1
  omega
def upB (P D : Aut) (free : Int) (k e : Nat) : Bool := (List.range (k + 1)).any fun j => lenB P D free j (e / D.next.length) (e % D.next.length)
def cntB (P D : Aut) (free : Int) (k : Nat) : Nat := ((List.range (P.next.length * D.next.length)).filter (upB P D free k)).length
theorem upB_more {P D : Aut} {free : Int} {k e : Nat} (h : upB P D free k e = true) : upB P D free (k + 1) e = true := by
  unfold upB at h ⊢
  obtain ⟨j, hj, hb⟩ := List.any_eq_true.1 h
  exact List.any_eq_true.2 ⟨j, List.mem_range.2 (by have := List.mem_range.1 hj; omega), hb⟩
theorem filter_less {l : List Nat} {A B : Nat → Bool} (h : ∀ s ∈ l, B s = true → A s = true) : (l.filter B).length ≤ (l.filter A).length ∧ ((l.filter B).length = (l.filter A).length → ∀ s ∈ l, A s = true → B s = true) := by
  induction l with
  | nil => exact ⟨by simp, fun _ s hs => by simp at hs⟩
  | cons a l ih =>
    obtain ⟨i1, i2⟩ := ih fun s hs => h s (List.mem_cons_of_mem _ hs)
    have ha := h a List.mem_cons_self
    rcases hp : A a with _ | _ <;> rcases hq : B a with _ | _
    · rw [List.filter_cons_of_neg (by rw [hq]; decide), List.filter_cons_of_neg (by rw [hp]; decide)]
      refine ⟨i1, fun e s hs hps => ?_⟩
      rcases List.mem_cons.1 hs with rfl | hs
      · rw [hp] at hps; cases hps
      · exact i2 e s hs hps
    · rw [ha hq] at hp; cases hp
    · rw [List.filter_cons_of_pos hp, List.filter_cons_of_neg (by rw [hq]; decide)]
      simp only [List.length_cons]
      exact ⟨by omega, fun e => by omega⟩
    · rw [List.filter_cons_of_pos hp, List.filter_cons_of_pos hq]
      simp only [List.length_cons]
      refine ⟨by omega, fun e s hs hps => ?_⟩
      rcases List.mem_cons.1 hs with rfl | hs
      · exact hq
      · exact i2 (by omega) s hs hps
theorem cntB_ge {P D : Aut} {free : Int} : ∀ (k : Nat), (∀ j, j ≤ k → ∃ x y, x < P.next.length ∧ y < D.next.length ∧ Lv P D free j x y) → k + 1 ≤ cntB P D free k
  | 0, h => by
    obtain ⟨x, y, hx, hy, hl⟩ := h 0 (Nat.le_refl _)
    obtain ⟨e1, e2⟩ := code_pair (p := x) hy
    have hm : (y + x * D.next.length) ∈ (List.range (P.next.length * D.next.length)).filter (upB P D free 0) := by
      refine List.mem_filter.2 ⟨List.mem_range.2 (code_lt hx hy), ?_⟩
      unfold upB
      rw [e1, e2]
      exact List.any_eq_true.2 ⟨0, by simp, hl.yes⟩
    exact List.length_pos_of_mem hm
  | k + 1, h => by
    have ih := cntB_ge k fun j hj => h j (by omega)
    obtain ⟨x, y, hx, hy, hl⟩ := h (k + 1) (Nat.le_refl _)
    obtain ⟨e1, e2⟩ := code_pair (p := x) hy
    obtain ⟨h1, h2⟩ := filter_less (l := List.range (P.next.length * D.next.length)) (A := upB P D free (k + 1)) (B := upB P D free k) fun s _ hs => upB_more hs
    by_cases e : cntB P D free k = cntB P D free (k + 1)
    · have hu : upB P D free (k + 1) (y + x * D.next.length) = true := by
        unfold upB
        rw [e1, e2]
        exact List.any_eq_true.2 ⟨k + 1, List.mem_range.2 (by omega), hl.yes⟩
      have := h2 e _ (List.mem_range.2 (code_lt hx hy)) hu
      unfold upB at this
      rw [e1, e2] at this
      obtain ⟨j, hj, hb⟩ := List.any_eq_true.1 this
      rw [hl.no j (by have := List.mem_range.1 hj; omega)] at hb; cases hb
    · unfold cntB at e ih ⊢; omega
theorem lv_lt {P D : Aut} (g : Good2 P D) {free : Int} {k p q : Nat} (hp : p < P.next.length) (hq : q < D.next.length) (h : Lv P D free k p q) : k + 1 ≤ P.next.length * D.next.length := by
  have h1 := cntB_ge k (lv_all g k hp hq h)
  have h2 : cntB P D free k ≤ P.next.length * D.next.length := by
    unfold cntB
    have := List.length_filter_le (upB P D free k) (List.range (P.next.length * D.next.length))
    rwa [List.length_range] at this
  omega
/-- By how many letters but one a pair is led out; -1: by none. -/
def lk (P D : Aut) (free : Int) (p q : Nat) : Int := match least (P.next.length * D.next.length) (fun k => lenB P D free k p q) with
  | none => -1
  | some k => ((k : Nat) : Int)
theorem lk_cases (P D : Aut) (free : Int) (p q : Nat) : lk P D free p q = -1 ∨ ∃ k : Nat, lk P D free p q = (k : Int) := by
  unfold lk
  rcases least (P.next.length * D.next.length) (fun k => lenB P D free k p q) with _ | k
  · exact .inl rfl
  · exact .inr ⟨k, rfl⟩
theorem lk_eq {P D : Aut} (g : Good2 P D) {free : Int} {p q k : Nat} (hp : p < P.next.length) (hq : q < D.next.length) : lk P D free p q = (k : Int) ↔ Lv P D free k p q := by
  constructor
  · intro h
    unfold lk at h
    rcases e : least (P.next.length * D.next.length) (fun k => lenB P D free k p q) with _ | m
    · rw [e] at h; have h : (-1 : Int) = (k : Int) := h; omega
    · rw [e] at h
      have h : ((m : Nat) : Int) = (k : Int) := h
      obtain rfl : m = k := by omega
      obtain ⟨_, h2, h3⟩ := least_some e
      exact ⟨h2, h3⟩
  · intro h
    have := lv_lt g hp hq h
    have e : least (P.next.length * D.next.length) (fun k => lenB P D free k p q) = some k := least_is (by omega) h.yes h.no
    unfold lk; rw [e]
theorem lk_lt {P D : Aut} (g : Good2 P D) {free : Int} {p q k : Nat} (hp : p < P.next.length) (hq : q < D.next.length) (h : lk P D free p q = (k : Int)) : k + 1 ≤ P.next.length * D.next.length := lv_lt g hp hq ((lk_eq g hp hq).1 h)
theorem lk_small {P D : Aut} (g : Good2 P D) {free : Int} {p q : Nat} (hp : p < P.next.length) (hq : q < D.next.length) : -1 ≤ lk P D free p q ∧ lk P D free p q < 1600 := by
  rcases lk_cases P D free p q with e | ⟨k, e⟩
  · omega
  · have h1 := lk_lt g hp hq e
    have h2 : P.next.length * D.next.length ≤ 40 * 40 := Nat.mul_le_mul g.ga.n40 g.gb.n40
    omega
theorem lk_never {P D : Aut} (g : Good2 P D) {free : Int} {p q : Nat} (hp : p < P.next.length) (hq : q < D.next.length) (h : lk P D free p q = -1) (k : Nat) : lenB P D free k p q = false := by
  rcases e : lenB P D free k p q with _ | _
  · rfl
  · obtain ⟨m, _, hm⟩ := lv_least e
    have := (lk_eq g hp hq).2 hm
    omega
theorem lk_zero {P D : Aut} (g : Good2 P D) {free : Int} {p q : Nat} (hp : p < P.next.length) (hq : q < D.next.length) : lk P D free p q = 0 ↔ lenB P D free 0 p q = true := by
  have := lk_eq g (free := free) hp hq (k := 0)
  exact ⟨fun h => (this.1 h).yes, fun h => this.2 ⟨h, fun j hj => by omega⟩⟩
theorem lk_live {P D : Aut} (g : Good2 P D) {free : Int} {p q : Nat} (hp : p < P.next.length) (hq : q < D.next.length) (h : live2 P D p q = false) : lk P D free p q = -1 := by
  rcases lk_cases P D free p q with e | ⟨k, e⟩
  · exact e
  · have := lenB_live ((lk_eq g hp hq).1 e).yes
    rw [h] at this; cases this
theorem lk_down {P D : Aut} (g : Good2 P D) {free : Int} {p q k : Nat} (hp : p < P.next.length) (hq : q < D.next.length) (h : lk P D free p q = ((k + 1 : Nat) : Int)) : ∃ c : Nat, (c : Int) < P.L ∧ lk P D free (step P p c) (step D q c) = (k : Int) := by
  obtain ⟨c, hc, h1⟩ := lv_down g hp hq ((lk_eq g hp hq).1 h)
  exact ⟨c, hc, (lk_eq g (g.ga.step_lt hp hc) (g.gb.step_lt hq (by rw [← g.eL]; exact hc))).2 h1⟩
theorem lk_up {P D : Aut} (g : Good2 P D) {free : Int} {p q k c : Nat} (hp : p < P.next.length) (hq : q < D.next.length) (hc : (c : Int) < P.L) (h : lk P D free (step P p c) (step D q c) = (k : Int)) (hn : ∀ j : Nat, j ≤ k → lk P D free p q ≠ (j : Int)) : lk P D free p q = ((k + 1 : Nat) : Int) := by
  have h1 := ((lk_eq g (g.ga.step_lt hp hc) (g.gb.step_lt hq (by rw [← g.eL]; exact hc))).1 h).yes
  obtain ⟨m, q1, q2⟩ := lv_least (lenB_step g hp hq hc h1)
  have hm := (lk_eq g hp hq).2 q2
  rcases Nat.lt_or_eq_of_le q1 with hlt | e
  · exact absurd hm (hn m (by omega))
  · rw [← e]; exact hm
theorem lk_gap {P D : Aut} (g : Good2 P D) {free : Int} {k : Nat} (h : ∀ x y, x < P.next.length → y < D.next.length → lk P D free x y ≠ (k : Int)) :
    ∀ j, k ≤ j → ∀ x y, x < P.next.length → y < D.next.length → lk P D free x y ≠ (j : Int) := by
  intro j
  induction j with
  | zero => intro hk x y hx hy; obtain rfl : k = 0 := by omega
            exact h x y hx hy
  | succ j ih =>
    intro hk x y hx hy e
    rcases Nat.lt_or_eq_of_le hk with hlt | rfl
    · obtain ⟨c, hc, hl⟩ := lk_down g hx hy e
      exact ih (by omega) _ _ (g.ga.step_lt hx hc) (g.gb.step_lt hy (by rw [← g.eL]; exact hc)) hl
    · exact h x y hx hy e

/-! ### the table -/
/-- What the table holds of a pair in round k: before, and behind the pair's turn. -/
def kv (P D : Aut) (free : Int) (k : Nat) (done : Bool) (x y : Nat) : Int := if lk P D free x y < (k : Int) ∨ (lk P D free x y = (k : Int) ∧ done = true) then (if lk P D free x y < 0 then -1 else lk P D free x y + 1) else -1
/-- The whole table. -/
def kvAll (P D : Aut) (free : Int) (x y : Nat) : Int := if lk P D free x y < 0 then -1 else lk P D free x y + 1
theorem kvAll_neg {P D : Aut} {free : Int} {x y : Nat} (h : lk P D free x y < 0) : kvAll P D free x y = -1 := if_pos h
theorem kvAll_pos {P D : Aut} {free : Int} {x y : Nat} (h : ¬ lk P D free x y < 0) : kvAll P D free x y = lk P D free x y + 1 := if_neg h
theorem kv_in {P D : Aut} {free : Int} {k : Nat} {e : Bool} {x y : Nat} (h : lk P D free x y < (k : Int) ∨ (lk P D free x y = (k : Int) ∧ e = true)) : kv P D free k e x y = kvAll P D free x y := if_pos h
theorem kv_out {P D : Aut} {free : Int} {k : Nat} {e : Bool} {x y : Nat} (h : ¬ (lk P D free x y < (k : Int) ∨ (lk P D free x y = (k : Int) ∧ e = true))) : kv P D free k e x y = -1 := if_neg h
theorem kv_known {P D : Aut} {free : Int} {k : Nat} {e : Bool} {x y : Nat} (h : 0 ≤ kv P D free k e x y) : kv P D free k e x y = lk P D free x y + 1 ∧ 0 ≤ lk P D free x y ∧ (lk P D free x y < (k : Int) ∨ (lk P D free x y = (k : Int) ∧ e = true)) := by
  by_cases q : lk P D free x y < (k : Int) ∨ (lk P D free x y = (k : Int) ∧ e = true)
  · rw [kv_in q] at h ⊢
    by_cases hn : lk P D free x y < 0
    · rw [kvAll_neg hn] at h; omega
    · rw [kvAll_pos hn]
      exact ⟨rfl, by omega, q⟩
  · rw [kv_out q] at h; omega
theorem kv_neg {P D : Aut} {free : Int} {k : Nat} {x y : Nat} (h : kv P D free k false x y < 0) {j : Nat} (hj : j < k) : lk P D free x y ≠ (j : Int) := by
  intro e
  have q : lk P D free x y < (k : Int) ∨ (lk P D free x y = (k : Int) ∧ false = true) := .inl (by omega)
  rw [kv_in q, kvAll_pos (by omega)] at h
  omega
theorem kv_hit {P D : Aut} {free : Int} {k : Nat} {e : Bool} {x y : Nat} : kv P D free (k + 1) e x y = (k : Int) + 1 ↔ lk P D free x y = (k : Int) := by
  constructor
  · intro h
    have := (kv_known (k := k + 1) (e := e) (x := x) (y := y) (P := P) (D := D) (free := free) (by omega)).1
    omega
  · intro h
    have q : lk P D free x y < ((k + 1 : Nat) : Int) ∨ (lk P D free x y = ((k + 1 : Nat) : Int) ∧ e = true) := .inl (by omega)
    rw [kv_in q, kvAll_pos (by omega), h]
theorem kv_old {P D : Aut} {free : Int} {k : Nat} {x y : Nat} (h : 0 ≤ kv P D free k false x y) : kv P D free k true x y = kv P D free k false x y := by
  have h1 : lk P D free x y < (k : Int) := by
    rcases (kv_known h).2.2 with q | q
    · exact q
    · exact absurd q.2 (by decide)
  have q1 : lk P D free x y < (k : Int) ∨ (lk P D free x y = (k : Int) ∧ true = true) := .inl h1
  have q2 : lk P D free x y < (k : Int) ∨ (lk P D free x y = (k : Int) ∧ false = true) := .inl h1
  rw [kv_in q1, kv_in q2]
theorem kv_set {P D : Aut} (g : Good2 P D) {free : Int} {k x y c : Nat} (hx : x < P.next.length) (hy : y < D.next.length) (h : kv P D free (k + 1) false x y < 0) (hc : (c : Int) < P.L) (hl : lk P D free (step P x c) (step D y c) = (k : Int)) : lk P D free x y = ((k + 1 : Nat) : Int) ∧ kv P D free (k + 1) true x y = ((k + 1 : Nat) : Int) + 1 := by
  have e := lk_up g hx hy hc hl fun j hj => kv_neg h (by omega)
  have q : lk P D free x y < ((k + 1 : Nat) : Int) ∨ (lk P D free x y = ((k + 1 : Nat) : Int) ∧ true = true) := .inr ⟨e, rfl⟩
  refine ⟨e, ?_⟩
  rw [kv_in q, kvAll_pos (by omega), e]
theorem kv_keep {P D : Aut} (g : Good2 P D) {free : Int} {k x y : Nat} (hx : x < P.next.length) (hy : y < D.next.length) (h : ∀ c : Nat, (c : Int) < P.L → lk P D free (step P x c) (step D y c) ≠ (k : Int)) : kv P D free (k + 1) true x y = kv P D free (k + 1) false x y ∧ lk P D free x y ≠ ((k + 1 : Nat) : Int) := by
  have hn : lk P D free x y ≠ ((k + 1 : Nat) : Int) := fun e => by
    obtain ⟨c, hc, hl⟩ := lk_down g hx hy e
    exact h c hc hl
  refine ⟨?_, hn⟩
  by_cases q : lk P D free x y < ((k + 1 : Nat) : Int)
  · have q1 : lk P D free x y < ((k + 1 : Nat) : Int) ∨ (lk P D free x y = ((k + 1 : Nat) : Int) ∧ true = true) := .inl q
    have q2 : lk P D free x y < ((k + 1 : Nat) : Int) ∨ (lk P D free x y = ((k + 1 : Nat) : Int) ∧ false = true) := .inl q
    rw [kv_in q1, kv_in q2]
  · have q1 : ¬ (lk P D free x y < ((k + 1 : Nat) : Int) ∨ (lk P D free x y = ((k + 1 : Nat) : Int) ∧ true = true)) := fun z => z.elim q fun z => hn z.1
    have q2 : ¬ (lk P D free x y < ((k + 1 : Nat) : Int) ∨ (lk P D free x y = ((k + 1 : Nat) : Int) ∧ false = true)) := fun z => z.elim q fun z => hn z.1
    rw [kv_out q1, kv_out q2]
theorem kv_dead {P D : Aut} (g : Good2 P D) {free : Int} {k x y : Nat} (hx : x < P.next.length) (hy : y < D.next.length) (h : live2 P D x y = false) (e : Bool) : kv P D free k e x y = -1 := by
  by_cases q : lk P D free x y < (k : Int) ∨ (lk P D free x y = (k : Int) ∧ e = true)
  · rw [kv_in q, kvAll_neg (by rw [lk_live g hx hy h]; omega)]
  · exact kv_out q
theorem kv_next (P D : Aut) (free : Int) (k x y : Nat) : kv P D free k true x y = kv P D free (k + 1) false x y := by
  by_cases q : lk P D free x y < (k : Int) ∨ (lk P D free x y = (k : Int) ∧ true = true)
  · have q2 : lk P D free x y < ((k + 1 : Nat) : Int) ∨ (lk P D free x y = ((k + 1 : Nat) : Int) ∧ false = true) := .inl (by rcases q with q | q <;> omega)
    rw [kv_in q, kv_in q2]
  · have q2 : ¬ (lk P D free x y < ((k + 1 : Nat) : Int) ∨ (lk P D free x y = ((k + 1 : Nat) : Int) ∧ false = true)) := fun z => by
      rcases z with z | z
      · rcases Int.lt_or_eq_of_le (by omega : lk P D free x y ≤ (k : Int)) with q1 | q1
        · exact q (.inl q1)
        · exact q (.inr ⟨q1, rfl⟩)
      · exact absurd z.2 (by decide)
    rw [kv_out q, kv_out q2]
theorem kv_start {P D : Aut} (g : Good2 P D) {free : Int} {x y : Nat} (hx : x < P.next.length) (hy : y < D.next.length) : kv P D free 1 false x y = if lenB P D free 0 x y = true then 1 else -1 := by
  by_cases h : lenB P D free 0 x y = true
  · have e := (lk_zero g hx hy).2 h
    have q : lk P D free x y < ((1 : Nat) : Int) ∨ (lk P D free x y = ((1 : Nat) : Int) ∧ false = true) := .inl (by omega)
    rw [if_pos h, kv_in q, kvAll_pos (by omega), e]; rfl
  · have e : lk P D free x y ≠ 0 := fun e => h ((lk_zero g hx hy).1 e)
    rw [if_neg h]
    by_cases q : lk P D free x y < ((1 : Nat) : Int) ∨ (lk P D free x y = ((1 : Nat) : Int) ∧ false = true)
    · rw [kv_in q, kvAll_neg]
      rcases lk_cases P D free x y with e1 | ⟨k, e1⟩
      · omega
      · rcases q with q | q
        · omega
        · exact absurd q.2 (by decide)
    · exact kv_out q
theorem kv_end {P D : Aut} (g : Good2 P D) {free : Int} {k : Nat} (h : ∀ x y, x < P.next.length → y < D.next.length → lk P D free x y ≠ (k : Int)) {x y : Nat} (hx : x < P.next.length) (hy : y < D.next.length) (e : Bool) : kv P D free k e x y = kvAll P D free x y := by
  by_cases q : lk P D free x y < (k : Int) ∨ (lk P D free x y = (k : Int) ∧ e = true)
  · exact kv_in q
  · rw [kv_out q]
    rcases lk_cases P D free x y with q1 | ⟨j, q1⟩
    · rw [kvAll_neg (by omega)]
    · have hj : ¬ j < k := fun hlt => q (.inl (by omega))
      exact absurd q1 (lk_gap g h j (by omega) x y hx hy)
theorem kvAll_eq {P D : Aut} {free : Int} {x y k : Nat} : kvAll P D free x y = (k : Int) + 1 ↔ lk P D free x y = (k : Int) := by
  constructor
  · intro h
    by_cases q : lk P D free x y < 0
    · rw [kvAll_neg q] at h; omega
    · rw [kvAll_pos q] at h; omega
  · intro h; rw [kvAll_pos (by omega), h]
theorem kvAll_small {P D : Aut} (g : Good2 P D) {free : Int} {x y : Nat} (hx : x < P.next.length) (hy : y < D.next.length) : -1 ≤ kvAll P D free x y ∧ kvAll P D free x y ≤ 1600 := by
  have := lk_small g (free := free) hx hy
  by_cases q : lk P D free x y < 0
  · rw [kvAll_neg q]; omega
  · rw [kvAll_pos q]; omega
/-- The word is read off the table: at each step the first letter that leads to the level below. -/
theorem pickB_next {P D : Aut} (g : Good2 P D) {free : Int} {k x y : Nat} (hx : x < P.next.length) (hy : y < D.next.length) (h : lk P D free x y = ((k + 1 : Nat) : Int)) {c : Nat} (hc : (c : Int) < P.L) (hl : lk P D free (step P x c) (step D y c) = (k : Int))
    (hmin : ∀ e, e < c → lk P D free (step P x e) (step D y e) ≠ (k : Int)) : pickB P D free (k + 1) x y = (c : Int) :: pickB P D free k (step P x c) (step D y c) := by
  have hL := g.ga.l1
  have h0 := (lk_eq g hx hy).1 h
  have e1 : least P.L.toNat (fun c => lenB P D free k (step P x c) (step D y c)) = some c := by
    refine least_is (by omega) ((lk_eq g (g.ga.step_lt hx hc) (g.gb.step_lt hy (by rw [← g.eL]; exact hc))).1 hl).yes fun e he => ?_
    have heL : (e : Int) < P.L := by omega
    rcases q : lenB P D free k (step P x e) (step D y e) with _ | _
    · rfl
    · refine absurd ((lk_eq g (g.ga.step_lt hx heL) (g.gb.step_lt hy (by rw [← g.eL]; exact heL))).2 ⟨q, fun j hj => ?_⟩) (hmin e he)
      rcases q2 : lenB P D free j (step P x e) (step D y e) with _ | _
      · rfl
      · have := lenB_step g hx hy heL q2
        rw [h0.no (j + 1) (by omega)] at this; cases this
  rw [pickB, e1]
theorem pickB_last {P D : Aut} {free : Int} {x y c : Nat} (hc : c < P.L.toNat) (hb : badC P D free x y c = true) (hmin : ∀ e, e < c → badC P D free x y e = false) : pickB P D free 0 x y = [(c : Int)] := by
  rw [pickB, least_is hc hb hmin]
theorem keptW_lk {P D : Aut} (g : Good2 P D) {free : Int} {k : Nat} (h : lk P D free P.s.toNat D.s.toNat = (k : Int)) : keptW P D free = some (pickB P D free k P.s.toNat D.s.toNat) := by
  have hl := (lk_eq g g.ga.s_lt g.gb.s_lt).1 h
  exact keptW_pick g hl.yes hl.no
theorem keptW_no {P D : Aut} (g : Good2 P D) {free : Int} (h : lk P D free P.s.toNat D.s.toNat = -1) : keptW P D free = none :=
  keptW_never g fun k => lk_never g g.ga.s_lt g.gb.s_lt h k
end Go.Proofs.Ytbciefeipiphiaa.Su
