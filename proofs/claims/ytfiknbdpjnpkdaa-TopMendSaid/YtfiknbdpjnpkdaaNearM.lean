/- Plain mathematics of nearness: edit distance by alignments, and the best common subsequence. -/
import Derived.Test.YtfiknbdpjnpkdaaDfaM
namespace Go.Proofs.Ytfiknbdpjnpkdaa.Ne
open Go.Proofs.Ytfiknbdpjnpkdaa.Wo

/-! ### edit distance -/
def neq (a b : Int) : Nat := if a = b then 0 else 1
theorem neq_self (a : Int) : neq a a = 0 := if_pos rfl
theorem neq_symm (a b : Int) : neq a b = neq b a := by
  unfold neq
  by_cases h : a = b
  · rw [if_pos h, if_pos h.symm]
  · rw [if_neg h, if_neg (fun e => h e.symm)]
theorem neq_tri (a b c : Int) : neq a c ≤ neq a b + neq b c := by
  unfold neq
  by_cases h : a = b
  · subst h; rw [if_pos rfl]; omega
  · rw [if_neg h]; split <;> omega
/-- The smallest number of edits, by the words' first letters. -/
def lev : List Int → List Int → Nat
  | [], w => w.length
  | a :: v, [] => v.length + 1
  | a :: v, b :: w => min (lev v w + neq a b) (min (lev v (b :: w) + 1) (lev (a :: v) w + 1))
termination_by v w => v.length + w.length
theorem lev_nil (w : List Int) : lev [] w = w.length := by rw [lev]
theorem lev_nil2 (v : List Int) : lev v [] = v.length := by
  cases v
  · rw [lev]
  · rw [lev]; rfl
theorem lev_cons (a : Int) (v : List Int) (b : Int) (w : List Int) : lev (a :: v) (b :: w) = min (lev v w + neq a b) (min (lev v (b :: w) + 1) (lev (a :: v) w + 1)) := by rw [lev]
/-- v becomes w by n edits. -/
inductive Al : List Int → List Int → Nat → Prop
  | nil : Al [] [] 0
  | ins (b : Int) {v w : List Int} {n : Nat} : Al v w n → Al v (b :: w) (n + 1)
  | del (a : Int) {v w : List Int} {n : Nat} : Al v w n → Al (a :: v) w (n + 1)
  | sub (a b : Int) {v w : List Int} {n : Nat} : Al v w n → Al (a :: v) (b :: w) (n + neq a b)
theorem al_ins : ∀ w : List Int, Al [] w w.length
  | [] => .nil
  | b :: w => .ins b (al_ins w)
theorem al_del : ∀ v : List Int, Al v [] v.length
  | [] => .nil
  | a :: v => .del a (al_del v)
theorem al_lev : ∀ v w : List Int, Al v w (lev v w)
  | [], w => by rw [lev_nil]; exact al_ins w
  | a :: v, [] => by rw [lev_nil2]; exact al_del _
  | a :: v, b :: w => by
    rw [lev_cons]
    have h1 := Al.sub a b (al_lev v w)
    have h2 := Al.del a (al_lev v (b :: w))
    have h3 := Al.ins b (al_lev (a :: v) w)
    rcases Nat.le_total (lev v w + neq a b) (min (lev v (b :: w) + 1) (lev (a :: v) w + 1)) with h | h
    · rw [Nat.min_eq_left h]; exact h1
    · rw [Nat.min_eq_right h]
      rcases Nat.le_total (lev v (b :: w) + 1) (lev (a :: v) w + 1) with h | h
      · rw [Nat.min_eq_left h]; exact h2
      · rw [Nat.min_eq_right h]; exact h3
termination_by v w => v.length + w.length
theorem lev_le {v w : List Int} {n : Nat} (h : Al v w n) : lev v w ≤ n := by
  induction h with
  | nil => rw [lev_nil]; exact Nat.le_refl _
  | @ins b v w n _ ih =>
    cases v with
    | nil => rw [lev_nil] at *; simp; omega
    | cons a v => rw [lev_cons]; omega
  | @del a v w n _ ih =>
    cases w with
    | nil => rw [lev_nil2] at *; simp; omega
    | cons b w => rw [lev_cons]; omega
  | sub a b _ ih => rw [lev_cons]; omega
theorem al_app {v w v' w' : List Int} {n m : Nat} (h : Al v w n) (h' : Al v' w' m) : Al (v ++ v') (w ++ w') (n + m) := by
  induction h with
  | nil => simpa using h'
  | @ins b v w n _ ih => rw [Nat.add_right_comm]; exact .ins b ih
  | @del a v w n _ ih => rw [Nat.add_right_comm]; exact .del a ih
  | @sub a b v w n _ ih => rw [Nat.add_right_comm]; exact .sub a b ih
theorem al_rev {v w : List Int} {n : Nat} (h : Al v w n) : Al v.reverse w.reverse n := by
  induction h with
  | nil => exact .nil
  | @ins b v w n _ ih => simpa using al_app ih (.ins b .nil)
  | @del a v w n _ ih => simpa using al_app ih (.del a .nil)
  | @sub a b v w n _ ih => simpa using al_app ih (.sub a b .nil)
theorem lev_rev (v w : List Int) : lev v.reverse w.reverse = lev v w := by
  have h1 := lev_le (al_rev (al_lev v w))
  have h2 := lev_le (al_rev (al_lev v.reverse w.reverse))
  simp only [List.reverse_reverse] at h2
  omega
theorem lev_snoc (v : List Int) (a : Int) (w : List Int) (b : Int) : lev (v ++ [a]) (w ++ [b]) = min (lev v w + neq a b) (min (lev v (w ++ [b]) + 1) (lev (v ++ [a]) w + 1)) := by
  rw [← lev_rev (v ++ [a]) (w ++ [b]), ← lev_rev v w, ← lev_rev v (w ++ [b]), ← lev_rev (v ++ [a]) w]
  simp only [List.reverse_append, List.reverse_cons, List.reverse_nil, List.nil_append, List.singleton_append]
  rw [lev_cons]
theorem al_symm {v w : List Int} {n : Nat} (h : Al v w n) : Al w v n := by
  induction h with
  | nil => exact .nil
  | ins b _ ih => exact .del b ih
  | del a _ ih => exact .ins a ih
  | sub a b _ ih => rw [neq_symm]; exact .sub b a ih
theorem lev_symm (v w : List Int) : lev v w = lev w v := by
  have h1 := lev_le (al_symm (al_lev v w))
  have h2 := lev_le (al_symm (al_lev w v))
  omega
theorem al_tri {u v : List Int} {n : Nat} (h : Al u v n) : ∀ {w : List Int} {m : Nat}, Al v w m → ∃ k, k ≤ n + m ∧ Al u w k := by
  induction h with
  | nil => intro w m h2; exact ⟨m, by omega, h2⟩
  | del a _ ih =>
    intro w m h2
    obtain ⟨k, h1, h3⟩ := ih h2
    exact ⟨k + 1, by omega, .del a h3⟩
  | @ins b u v n _ ih =>
    intro w m h2
    generalize hx : b :: v = x at h2
    induction h2 with
    | nil => cases hx
    | ins c _ ih2 =>
      obtain ⟨k, h1, h3⟩ := ih2 hx
      exact ⟨k + 1, by omega, .ins c h3⟩
    | del c h4 _ =>
      cases hx
      obtain ⟨k, h1, h3⟩ := ih h4
      exact ⟨k, by omega, h3⟩
    | sub c d h4 _ =>
      cases hx
      obtain ⟨k, h1, h3⟩ := ih h4
      exact ⟨k + 1, by omega, .ins d h3⟩
  | @sub a b u v n _ ih =>
    intro w m h2
    generalize hx : b :: v = x at h2
    induction h2 with
    | nil => cases hx
    | ins c _ ih2 =>
      obtain ⟨k, h1, h3⟩ := ih2 hx
      exact ⟨k + 1, by omega, .ins c h3⟩
    | del c h4 _ =>
      cases hx
      obtain ⟨k, h1, h3⟩ := ih h4
      exact ⟨k + 1, by omega, .del a h3⟩
    | sub c d h4 _ =>
      cases hx
      obtain ⟨k, h1, h3⟩ := ih h4
      have := neq_tri a b d
      exact ⟨k + neq a d, by omega, .sub a d h3⟩
theorem lev_tri (u v w : List Int) : lev u w ≤ lev u v + lev v w := by
  obtain ⟨k, h1, h2⟩ := al_tri (al_lev u v) (al_lev v w)
  exact Nat.le_trans (lev_le h2) h1
theorem al_same : ∀ v : List Int, Al v v 0
  | [] => .nil
  | a :: v => by have := Al.sub a a (al_same v); rwa [neq_self] at this
theorem al_zero {v w : List Int} {n : Nat} (h : Al v w n) : n = 0 → v = w := by
  induction h with
  | nil => intro _; rfl
  | ins b _ ih => intro e; omega
  | del a _ ih => intro e; omega
  | sub a b _ ih =>
    intro e
    have h1 : neq a b = 0 := by omega
    unfold neq at h1
    split at h1
    · rw [ih (by omega)]; congr
    · omega
theorem lev_zero {v w : List Int} : lev v w = 0 ↔ v = w := by
  refine ⟨fun h => al_zero (al_lev v w) h, fun h => ?_⟩
  subst h
  have := lev_le (al_same v)
  omega
theorem al_len {v w : List Int} {n : Nat} (h : Al v w n) : v.length ≤ w.length + n ∧ w.length ≤ v.length + n := by
  induction h with
  | nil => simp
  | ins b _ ih => simp; omega
  | del a _ ih => simp; omega
  | sub a b _ ih => simp; omega
theorem lev_len (v w : List Int) : v.length ≤ w.length + lev v w ∧ w.length ≤ v.length + lev v w := al_len (al_lev v w)
theorem lev_max : ∀ v w : List Int, lev v w ≤ max v.length w.length
  | [], w => by rw [lev_nil]; omega
  | a :: v, [] => by rw [lev_nil2]; omega
  | a :: v, b :: w => by
    rw [lev_cons]
    have h1 := lev_max v w
    have h2 : neq a b ≤ 1 := by unfold neq; split <;> omega
    simp only [List.length_cons]
    omega
theorem lev_sub {c v : List Int} (h : c.Sublist v) : Al v c (v.length - c.length) := by
  induction h with
  | slnil => exact .nil
  | @cons l1 l2 a hs ih =>
    have := hs.length_le
    have e : (a :: l2).length - l1.length = l2.length - l1.length + 1 := by simp; omega
    rw [e]; exact .del a ih
  | @cons_cons l1 l2 a hs ih =>
    have := Al.sub a a ih
    rw [neq_self] at this
    simpa using this
theorem lev_com {c v w : List Int} (h : c.Sublist v) (h' : c.Sublist w) : lev v w ≤ (v.length - c.length) + (w.length - c.length) := by
  obtain ⟨k, h1, h2⟩ := al_tri (lev_sub h) (al_symm (lev_sub h'))
  exact Nat.le_trans (lev_le h2) h1
theorem al_com {v w : List Int} {n : Nat} (h : Al v w n) : ∃ c : List Int, c.Sublist v ∧ c.Sublist w ∧ v.length ≤ c.length + n ∧ w.length ≤ c.length + n := by
  induction h with
  | nil => exact ⟨[], by simp, by simp, by simp, by simp⟩
  | ins b _ ih =>
    obtain ⟨c, h1, h2, h3, h4⟩ := ih
    exact ⟨c, h1, h2.cons _, by omega, by simp; omega⟩
  | del b _ ih =>
    obtain ⟨c, h1, h2, h3, h4⟩ := ih
    exact ⟨c, h1.cons _, h2, by simp; omega, by omega⟩
  | sub a b _ ih =>
    obtain ⟨c, h1, h2, h3, h4⟩ := ih
    unfold neq
    split
    · rename_i e
      subst e
      exact ⟨a :: c, h1.cons_cons _, h2.cons_cons _, by simp; omega, by simp; omega⟩
    · exact ⟨c, h1.cons _, h2.cons _, by simp; omega, by simp; omega⟩
theorem al_filter (p : Int → Bool) {v w : List Int} {n : Nat} (h : Al v w n) : ∃ k, k ≤ n ∧ Al (v.filter p) (w.filter p) k := by
  induction h with
  | nil => exact ⟨0, by omega, .nil⟩
  | ins b _ ih =>
    obtain ⟨k, h1, h2⟩ := ih
    rw [List.filter_cons]
    split
    · exact ⟨k + 1, by omega, .ins b h2⟩
    · exact ⟨k, by omega, h2⟩
  | del b _ ih =>
    obtain ⟨k, h1, h2⟩ := ih
    rw [List.filter_cons]
    split
    · exact ⟨k + 1, by omega, .del b h2⟩
    · exact ⟨k, by omega, h2⟩
  | @sub a b v w n _ ih =>
    obtain ⟨k, h1, h2⟩ := ih
    by_cases e : a = b
    · subst e
      have hn := neq_self a
      rw [List.filter_cons, List.filter_cons]
      split
      · exact ⟨k + neq a a, by omega, .sub a a h2⟩
      · exact ⟨k, by omega, h2⟩
    · have hn : neq a b = 1 := if_neg e
      rw [List.filter_cons, List.filter_cons]
      split <;> split
      · exact ⟨k + neq a b, by omega, .sub a b h2⟩
      · exact ⟨k + 1, by omega, .del a h2⟩
      · exact ⟨k + 1, by omega, .ins b h2⟩
      · exact ⟨k, by omega, h2⟩
theorem lev_filter (p : Int → Bool) (v w : List Int) : lev (v.filter p) (w.filter p) ≤ lev v w := by
  obtain ⟨k, h1, h2⟩ := al_filter p (al_lev v w)
  exact Nat.le_trans (lev_le h2) h1

/-! ### common subsequences -/
/-- c is longer than u, or as long and u is not ahead. -/
def bet (c u : List Int) : Prop := u.length < c.length ∨ (u.length = c.length ∧ lx u c = false)
theorem bet_refl (c : List Int) : bet c c := .inr ⟨rfl, lx_irr c⟩
theorem bet_total (c u : List Int) : bet c u ∨ bet u c := by
  unfold bet
  rcases Nat.lt_trichotomy u.length c.length with h | h | h
  · exact .inl (.inl h)
  · cases h1 : lx u c
    · exact .inl (.inr ⟨h, rfl⟩)
    · exact .inr (.inr ⟨h.symm, lx_asym _ _ h1⟩)
  · exact .inr (.inl h)
theorem bet_trans {c u x : List Int} (h : bet c u) (h' : bet u x) : bet c x := by
  unfold bet at *
  rcases h with h | ⟨h1, h2⟩
  · rcases h' with h' | ⟨h1', _⟩
    · exact .inl (by omega)
    · exact .inl (by omega)
  · rcases h' with h' | ⟨h1', h2'⟩
    · exact .inl (by omega)
    · refine .inr ⟨by omega, ?_⟩
      cases h3 : lx x c
      · rfl
      · cases h4 : lx u x
        · cases h5 : lx x u
          · rw [lx_total _ _ (by omega) h4 h5] at h2; rw [h2] at h3; cases h3
          · rw [h5] at h2'; cases h2'
        · rw [lx_trans _ _ _ h4 h3] at h2; cases h2
theorem bet_anti {c u : List Int} (h : bet c u) (h' : bet u c) : c = u := by
  unfold bet at *
  rcases h with h | ⟨h1, h2⟩
  · rcases h' with h' | ⟨h1', _⟩ <;> omega
  · rcases h' with h' | ⟨_, h2'⟩
    · omega
    · exact lx_total _ _ h1.symm h2' h2
theorem bet_cons {a : Int} {c u : List Int} : bet (a :: c) (a :: u) ↔ bet c u := by
  unfold bet
  rw [lx, if_pos rfl]
  simp
def firstOf (v w : List Int) : List Int := if w.length < v.length then v else if v.length = w.length ∧ lss v w = true then v else w
theorem lss_lx {v w : List Int} (h : v.length = w.length) : lss v w = lx v w := by unfold lss; rw [if_pos h]
theorem firstOf_or (v w : List Int) : firstOf v w = v ∨ firstOf v w = w := by
  unfold firstOf; split
  · exact .inl rfl
  · split
    · exact .inl rfl
    · exact .inr rfl
theorem firstOf_bet (v w : List Int) : bet (firstOf v w) v ∧ bet (firstOf v w) w := by
  unfold firstOf
  split
  · exact ⟨bet_refl _, .inl (by assumption)⟩
  · split
    · rename_i h
      rw [lss_lx h.1] at h
      exact ⟨bet_refl _, .inr ⟨h.1.symm, lx_asym _ _ h.2⟩⟩
    · rename_i h1 h
      refine ⟨?_, bet_refl _⟩
      by_cases e : v.length = w.length
      · rw [lss_lx e] at h
        exact .inr ⟨e, by simpa using fun q => h ⟨e, q⟩⟩
      · exact .inl (by omega)
/-- The best common subsequence, as the reference tells it. -/
def com : List Int → List Int → List Int
  | [], _ => []
  | _ :: _, [] => []
  | a :: v, b :: w => if a = b then firstOf (a :: com v w) (firstOf (com v (b :: w)) (com (a :: v) w)) else firstOf (com v (b :: w)) (com (a :: v) w)
termination_by v w => v.length + w.length
theorem com_nil (w : List Int) : com [] w = [] := by rw [com]
theorem com_nil2 (v : List Int) : com v [] = [] := by cases v <;> rw [com]
theorem com_cons (a : Int) (v : List Int) (b : Int) (w : List Int) : com (a :: v) (b :: w) = if a = b then firstOf (a :: com v w) (firstOf (com v (b :: w)) (com (a :: v) w)) else firstOf (com v (b :: w)) (com (a :: v) w) := by rw [com]
structure Best (c v w : List Int) : Prop where
  left : c.Sublist v
  right : c.Sublist w
  best : ∀ u : List Int, u.Sublist v → u.Sublist w → bet c u
theorem best_unique {c d v w : List Int} (h : Best c v w) (h' : Best d v w) : c = d :=
  bet_anti (h.best _ h'.left h'.right) (h'.best _ h.left h.right)
theorem sub_cons {u : List Int} {a : Int} {v : List Int} (h : u.Sublist (a :: v)) : u.Sublist v ∨ ∃ u', u = a :: u' ∧ u'.Sublist v := by
  cases h with
  | cons _ h => exact .inl h
  | cons_cons _ h => exact .inr ⟨_, rfl, h⟩
theorem com_best : ∀ v w : List Int, Best (com v w) v w
  | [], w => by
    rw [com_nil]
    exact ⟨by simp, by simp, fun u h _ => by rw [List.sublist_nil.1 h]; exact bet_refl _⟩
  | a :: v, [] => by
    rw [com_nil2]
    exact ⟨by simp, by simp, fun u _ h => by rw [List.sublist_nil.1 h]; exact bet_refl _⟩
  | a :: v, b :: w => by
    have h1 := com_best v w
    have h2 := com_best v (b :: w)
    have h3 := com_best (a :: v) w
    have hf := firstOf_bet (com v (b :: w)) (com (a :: v) w)
    have ho := firstOf_or (com v (b :: w)) (com (a :: v) w)
    rw [com_cons]
    generalize firstOf (com v (b :: w)) (com (a :: v) w) = F at *
    have f1 : F.Sublist (a :: v) := by
      rcases ho with e | e <;> subst e
      · exact h2.left.cons _
      · exact h3.left
    have f2 : F.Sublist (b :: w) := by
      rcases ho with e | e <;> subst e
      · exact h2.right
      · exact h3.right.cons _
    by_cases e : a = b
    · subst e
      rw [if_pos rfl]
      have hf' := firstOf_bet (a :: com v w) F
      have ho' := firstOf_or (a :: com v w) F
      generalize firstOf (a :: com v w) F = G at *
      refine ⟨?_, ?_, fun u k1 k2 => ?_⟩
      · rcases ho' with e | e <;> subst e
        · exact h1.left.cons_cons _
        · exact f1
      · rcases ho' with e | e <;> subst e
        · exact h1.right.cons_cons _
        · exact f2
      · rcases sub_cons k1 with k3 | ⟨u1, rfl, k3⟩
        · exact bet_trans hf'.2 (bet_trans hf.1 (h2.best _ k3 k2))
        · rcases sub_cons k2 with k4 | ⟨u2, k5, k4⟩
          · exact bet_trans hf'.2 (bet_trans hf.2 (h3.best _ k1 k4))
          · cases k5
            exact bet_trans hf'.1 (bet_cons.2 (h1.best _ k3 k4))
    · rw [if_neg e]
      refine ⟨f1, f2, fun u k1 k2 => ?_⟩
      rcases sub_cons k1 with k3 | ⟨u1, rfl, k3⟩
      · exact bet_trans hf.1 (h2.best _ k3 k2)
      · rcases sub_cons k2 with k4 | ⟨u2, k5, k4⟩
        · exact bet_trans hf.2 (h3.best _ k1 k4)
        · cases k5; exact absurd rfl e
termination_by v w => v.length + w.length
/-- How long it is, by the words' first letters. -/
def ll : List Int → List Int → Nat
  | [], _ => 0
  | _ :: _, [] => 0
  | a :: v, b :: w => if a = b then ll v w + 1 else max (ll v (b :: w)) (ll (a :: v) w)
termination_by v w => v.length + w.length
theorem ll_nil (w : List Int) : ll [] w = 0 := by rw [ll]
theorem ll_nil2 (v : List Int) : ll v [] = 0 := by cases v <;> rw [ll]
theorem ll_cons (a : Int) (v : List Int) (b : Int) (w : List Int) : ll (a :: v) (b :: w) = if a = b then ll v w + 1 else max (ll v (b :: w)) (ll (a :: v) w) := by rw [ll]
theorem sub_tail {u : List Int} {x a : Int} {v : List Int} (h : (x :: u).Sublist (a :: v)) : u.Sublist v := by
  rcases sub_cons h with h | ⟨u', e, h⟩
  · exact (List.sublist_cons_self x u).trans h
  · cases e; exact h
theorem ll_ge : ∀ v w u : List Int, u.Sublist v → u.Sublist w → u.length ≤ ll v w
  | [], w, u, h, _ => by rw [List.sublist_nil.1 h]; simp
  | a :: v, [], u, _, h => by rw [List.sublist_nil.1 h]; simp
  | a :: v, b :: w, u, h1, h2 => by
    rw [ll_cons]
    by_cases e : a = b
    · rw [if_pos e]
      cases u with
      | nil => simp
      | cons x u =>
        have := ll_ge v w u (sub_tail h1) (sub_tail h2)
        simp; omega
    · rw [if_neg e]
      rcases sub_cons h1 with k3 | ⟨u1, rfl, k3⟩
      · have := ll_ge v (b :: w) u k3 h2
        omega
      · rcases sub_cons h2 with k4 | ⟨u2, k5, k4⟩
        · have := ll_ge (a :: v) w _ h1 k4
          omega
        · cases k5; exact absurd rfl e
termination_by v w => v.length + w.length
theorem ll_is : ∀ v w : List Int, ∃ u : List Int, u.Sublist v ∧ u.Sublist w ∧ u.length = ll v w
  | [], w => ⟨[], by simp, by simp, by rw [ll_nil]; rfl⟩
  | a :: v, [] => ⟨[], by simp, by simp, by rw [ll_nil2]; rfl⟩
  | a :: v, b :: w => by
    rw [ll_cons]
    by_cases e : a = b
    · rw [if_pos e]
      obtain ⟨u, h1, h2, h3⟩ := ll_is v w
      subst e
      exact ⟨a :: u, h1.cons_cons _, h2.cons_cons _, by simp [h3]⟩
    · rw [if_neg e]
      rcases Nat.le_total (ll v (b :: w)) (ll (a :: v) w) with h | h
      · rw [Nat.max_eq_right h]
        obtain ⟨u, h1, h2, h3⟩ := ll_is (a :: v) w
        exact ⟨u, h1, h2.cons _, h3⟩
      · rw [Nat.max_eq_left h]
        obtain ⟨u, h1, h2, h3⟩ := ll_is v (b :: w)
        exact ⟨u, h1.cons _, h2, h3⟩
termination_by v w => v.length + w.length
theorem com_len (v w : List Int) : (com v w).length = ll v w := by
  have h := com_best v w
  have h1 := ll_ge v w _ h.left h.right
  obtain ⟨u, k1, k2, k3⟩ := ll_is v w
  rcases h.best u k1 k2 with h4 | ⟨h4, _⟩ <;> omega
theorem ll_le (v w : List Int) : ll v w ≤ v.length ∧ ll v w ≤ w.length := by
  have h := com_best v w
  rw [← com_len]
  exact ⟨h.left.length_le, h.right.length_le⟩

/-! ### behind the first of a letter -/
def cut (a : Int) : List Int → Option (List Int)
  | [] => none
  | b :: z => if b = a then some z else cut a z
theorem cut_sub {a : Int} {u : List Int} : ∀ {z : List Int}, (a :: u).Sublist z → ∃ z', cut a z = some z' ∧ u.Sublist z'
  | [], h => by cases h
  | b :: z, h => by
    rw [cut]
    by_cases e : b = a
    · rw [if_pos e]; exact ⟨z, rfl, sub_tail h⟩
    · rw [if_neg e]
      rcases sub_cons h with h | ⟨u', e', h⟩
      · exact cut_sub h
      · cases e'; exact absurd rfl e
theorem sub_cut {a : Int} {u : List Int} : ∀ {z z' : List Int}, cut a z = some z' → u.Sublist z' → (a :: u).Sublist z
  | [], z', h, _ => by cases h
  | b :: z, z', h, hs => by
    rw [cut] at h
    by_cases e : b = a
    · rw [if_pos e] at h; cases h; subst e; exact hs.cons_cons _
    · rw [if_neg e] at h; exact (sub_cut h hs).cons _
/-- May the letter be the next one of a longest? -/
def Next (a : Int) (v w : List Int) : Prop := ∃ v' w', cut a v = some v' ∧ cut a w = some w' ∧ ll v' w' + 1 = ll v w
theorem next_first {a : Int} {r v w : List Int} (h : com v w = a :: r) : ∃ v' w', cut a v = some v' ∧ cut a w = some w' ∧ ll v' w' + 1 = ll v w ∧ com v' w' = r := by
  have hb := com_best v w
  have hl := com_len v w
  rw [h] at hb hl
  obtain ⟨v', c1, s1⟩ := cut_sub hb.left
  obtain ⟨w', c2, s2⟩ := cut_sub hb.right
  have hr : Best r v' w' := ⟨s1, s2, fun u k1 k2 => bet_cons.1 (hb.best _ (sub_cut c1 k1) (sub_cut c2 k2))⟩
  have e := best_unique (com_best v' w') hr
  refine ⟨v', w', c1, c2, ?_, e⟩
  rw [← com_len v' w', e, ← hl]; rfl
theorem next_not {a x : Int} {r v w : List Int} (h : com v w = a :: r) (hx : x < a) {v' w' : List Int} (c1 : cut x v = some v') (c2 : cut x w = some w') : ¬ ll v' w' + 1 = ll v w := by
  intro hn
  have hb := com_best v w
  have hl := com_len v w
  rw [h] at hb hl
  have hb' := com_best v' w'
  have hl' := com_len v' w'
  rcases hb.best _ (sub_cut c1 hb'.left) (sub_cut c2 hb'.right) with h1 | ⟨_, h2⟩
  · simp at h1 hl; omega
  · rw [lx, if_neg (by omega)] at h2
    simp at h2; omega
end Go.Proofs.Ytfiknbdpjnpkdaa.Ne
