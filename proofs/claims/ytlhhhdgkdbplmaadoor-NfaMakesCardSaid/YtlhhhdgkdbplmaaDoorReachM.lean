/- Plain mathematics of reach: what is reached and alive, the table of all pairs, words by their length, the first word, what is counted, what is trimmed. -/
import Derived.Test.YtlhhhdgkdbplmaaDoorDfaN
import Derived.Test.YtlhhhdgkdbplmaaDoorWordM
namespace Go.Proofs.YtlhhhdgkdbplmaaDoor.Rc
open Go.Proofs.YtlhhhdgkdbplmaaDoor.Df Go.Proofs.YtlhhhdgkdbplmaaDoor.Wo

/-- The states that follow a state. -/
def S1 (d : Aut) (q : Nat) : List Nat := (List.range d.L.toNat).map (step d q)
theorem S1_length (d : Aut) (q : Nat) : (S1 d q).length = d.L.toNat := by simp [S1]
theorem S1_get (d : Aut) (q : Nat) {c : Nat} (hc : (c : Int) < d.L) : (S1 d q)[c]? = some (step d q c) := by
  unfold S1; rw [List.getElem?_map, List.getElem?_range (by omega)]; rfl
theorem mem_S1 {d : Aut} {q t : Nat} : t ∈ S1 d q ↔ ∃ c : Nat, (c : Int) < d.L ∧ step d q c = t := by
  unfold S1
  rw [List.mem_map]
  constructor
  · rintro ⟨c, hc, rfl⟩
    rw [List.mem_range] at hc
    exact ⟨c, by omega, rfl⟩
  · rintro ⟨c, hc, rfl⟩
    exact ⟨c, List.mem_range.2 (by omega), rfl⟩
theorem S1_lt {d : Aut} (g : Df.Good d) {q t : Nat} (hq : q < d.next.length) (h : t ∈ S1 d q) : t < d.next.length := by
  obtain ⟨c, hc, rfl⟩ := mem_S1.1 h
  exact g.step_lt hq hc
theorem rch_lt1 {d : Aut} (g : Df.Good d) {s t : Nat} (hs : s < d.next.length) (h : Rch (S1 d) s t) : t < d.next.length := by
  induction h with
  | base => exact hs
  | next _ ht ih => exact S1_lt g ih ht
theorem rch_trans {α : Type} {S : α → List α} {a b c : α} (h : Rch S a b) (h2 : Rch S b c) : Rch S a c := by
  induction h2 with
  | base => exact h
  | next _ ht ih => exact .next ih ht
/-- What is reached is what some word leads to. -/
theorem rch_word {d : Aut} {s t : Nat} : Rch (S1 d) s t ↔ ∃ w, Word d.L w ∧ runA d s w = t := by
  constructor
  · intro h
    induction h with
    | base => exact ⟨[], by intro a ha; simp at ha, rfl⟩
    | next _ ht ih =>
      obtain ⟨w, hw, rfl⟩ := ih
      obtain ⟨c, hc, rfl⟩ := mem_S1.1 ht
      refine ⟨w ++ [(c : Int)], fun a ha => ?_, by rw [runA_append]; rfl⟩
      rcases List.mem_append.1 ha with ha | ha
      · exact hw a ha
      · simp at ha; subst ha; exact ⟨by omega, hc⟩
  · rintro ⟨w, hw, rfl⟩
    have h : ∀ (w : List Int) (q : Nat), Word d.L w → Rch (S1 d) s q → Rch (S1 d) s (runA d q w) := by
      intro w
      induction w with
      | nil => intro q _ h; exact h
      | cons a w ih =>
        intro q hw h
        have ha := hw a List.mem_cons_self
        exact ih _ (fun b hb => hw b (List.mem_cons_of_mem _ hb)) (.next h (mem_S1.2 ⟨a.toNat, by omega, rfl⟩))
    exact h w s hw .base
theorem found1 {d : Aut} (g : Df.Good d) {s : Nat} (hs : s < d.next.length) : ∃ l, found (S1 d) s = some l := by
  rcases found_cases (S1 d) s with ⟨m, h, _⟩ | ⟨_, m, h1, h2, h3⟩
  · exact ⟨m, h⟩
  · have := nodup_le_of h1 id (fun x _ y _ e => e) (fun x hx => rch_lt1 g hs (h3 x hx))
    have := g.n40
    omega
/-- All that is reached from a state, in the order in which it is found. -/
def rset (d : Aut) (s : Nat) : List Nat := (found (S1 d) s).getD []
theorem rset_whole {d : Aut} (g : Df.Good d) {s : Nat} (hs : s < d.next.length) : Whole (S1 d) s (rset d s) := by
  obtain ⟨l, hl⟩ := found1 g hs
  unfold rset; rw [hl]; exact found_whole hl
theorem mem_rset {d : Aut} (g : Df.Good d) {s t : Nat} (hs : s < d.next.length) : t ∈ rset d s ↔ Rch (S1 d) s t := (rset_whole g hs).mem_iff
theorem rset_lt {d : Aut} (g : Df.Good d) {s t : Nat} (hs : s < d.next.length) (h : t ∈ rset d s) : t < d.next.length := rch_lt1 g hs ((mem_rset g hs).1 h)
/-- Reached and Alive: the lists. -/
def upto (n : Nat) (p : Nat → Bool) : List Int := ((List.range n).filter p).map fun (s : Nat) => (s : Int)
theorem upto_zero (p : Nat → Bool) : upto 0 p = [] := rfl
theorem upto_succ (n : Nat) (p : Nat → Bool) : upto (n + 1) p = upto n p ++ (if p n = true then [(n : Int)] else []) := by
  unfold upto
  rw [List.range_succ, List.filter_append, List.map_append]
  congr 1
  by_cases h : p n = true
  · simp [h]
  · simp [h]
theorem upto_length (n : Nat) (p : Nat → Bool) : (upto n p).length ≤ n := by
  unfold upto
  rw [List.length_map]
  exact Nat.le_trans (List.length_filter_le _ _) (by simp)
def isReached (d : Aut) (s t : Nat) : Bool := decide (t ∈ rset d s)
def isAlive (d : Aut) (s : Nat) : Bool := (rset d s).any (finA d)
theorem isAlive_iff {d : Aut} (g : Df.Good d) {s : Nat} (hs : s < d.next.length) : isAlive d s = true ↔ ∃ w, Word d.L w ∧ finA d (runA d s w) = true := by
  unfold isAlive
  rw [List.any_eq_true]
  constructor
  · rintro ⟨t, ht, hf⟩
    obtain ⟨w, hw, rfl⟩ := rch_word.1 ((mem_rset g hs).1 ht)
    exact ⟨w, hw, hf⟩
  · rintro ⟨w, hw, hf⟩
    exact ⟨_, (mem_rset g hs).2 (rch_word.2 ⟨w, hw, rfl⟩), hf⟩
def reachedOut (d : Aut) : List Int := if dchk d = 0 then upto d.next.length (isReached d d.s.toNat) else []
def aliveOut (d : Aut) : List Int := if dchk d = 0 then upto d.next.length (isAlive d) else []

/-! ### the table of all pairs -/
/-- By ways through states below k. -/
inductive Via (d : Aut) (k : Nat) : Nat → Nat → Prop
  | refl (i : Nat) : Via d k i i
  | edge {i t : Nat} : t ∈ S1 d i → Via d k i t
  | comp {i m j : Nat} : Via d k i m → m < k → Via d k m j → Via d k i j
theorem via_sound {d : Aut} {k i j : Nat} (h : Via d k i j) : Rch (S1 d) i j := by
  induction h with
  | refl i => exact .base
  | edge h => exact .next .base h
  | comp _ _ _ h1 h2 => exact rch_trans h1 h2
theorem via_full {d : Aut} (g : Df.Good d) {i j : Nat} (hi : i < d.next.length) (h : Rch (S1 d) i j) : Via d d.next.length i j := by
  induction h with
  | base => exact .refl i
  | next hr ht ih => exact .comp ih (rch_lt1 g hi hr) (.edge ht)
theorem via_succ {d : Aut} {k i j : Nat} (h : Via d (k + 1) i j) : Via d k i j ∨ (Via d k i k ∧ Via d k k j) := by
  induction h with
  | refl i => exact .inl (.refl i)
  | edge h => exact .inl (.edge h)
  | comp _ hm _ h1 h2 =>
    rename_i i m j _ _
    by_cases e : m = k
    · subst e
      refine .inr ⟨?_, ?_⟩
      · rcases h1 with h1 | h1
        · exact h1
        · exact h1.1
      · rcases h2 with h2 | h2
        · exact h2
        · exact h2.2
    · have hm' : m < k := by omega
      rcases h1 with h1 | ⟨h1, h3⟩
      · rcases h2 with h2 | ⟨h2, h4⟩
        · exact .inl (.comp h1 hm' h2)
        · exact .inr ⟨.comp h1 hm' h2, h4⟩
      · rcases h2 with h2 | ⟨h2, h4⟩
        · exact .inr ⟨h1, .comp h3 hm' h2⟩
        · exact .inr ⟨h1, h4⟩
theorem via_zero {d : Aut} {i j : Nat} (h : Via d 0 i j) : j = i ∨ j ∈ S1 d i := by
  induction h with
  | refl i => exact .inl rfl
  | edge h => exact .inr h
  | comp _ hm _ _ _ => omega
/-- The table, midway: what it has is reached; phase k, all rows below i and of row i all below j have the ways through k too. -/
structure Tabl (d : Aut) (m : Nat → Nat → Bool) (k i j : Nat) : Prop where
  sound : ∀ x y, x < d.next.length → m x y = true → Rch (S1 d) x y
  all : ∀ x y, x < d.next.length → y < d.next.length → Via d k x y → m x y = true
  done : ∀ x y, x < d.next.length → y < d.next.length → (x < i ∨ x = i ∧ y < j) → Via d (k + 1) x y → m x y = true
theorem tabl_step {d : Aut} {m m' : Nat → Nat → Bool} {k i j : Nat} (h : Tabl d m k i j) (hk : k < d.next.length) (hi : i < d.next.length) (hj : j < d.next.length)
    (hm : ∀ x y, m' x y = (m x y || (decide (x = i) && decide (y = j) && m i k && m k j))) : Tabl d m' k i (j + 1) := by
  have up : ∀ x y, m x y = true → m' x y = true := fun x y e => by rw [hm, e]; rfl
  refine ⟨fun x y hx e => ?_, fun x y hx hy e => up _ _ (h.all x y hx hy e), fun x y hx hy hp e => ?_⟩
  · rw [hm] at e
    rcases Bool.or_eq_true _ _ ▸ e with e | e
    · exact h.sound x y hx e
    · simp only [Bool.and_eq_true, decide_eq_true_eq] at e
      obtain ⟨⟨⟨rfl, rfl⟩, e1⟩, e2⟩ := e
      exact rch_trans (h.sound _ _ hi e1) (h.sound _ _ hk e2)
  · by_cases hq : x < i ∨ x = i ∧ y < j
    · exact up _ _ (h.done x y hx hy hq e)
    · have hx' : x = i := by omega
      have hy' : y = j := by omega
      subst hx' hy'
      rcases via_succ e with e | ⟨e1, e2⟩
      · exact up _ _ (h.all x y hx hy e)
      · rw [hm, h.all x k hx hk e1, h.all k y hk hy e2]; simp
theorem tabl_row {d : Aut} {m : Nat → Nat → Bool} {k i : Nat} (h : Tabl d m k i d.next.length) : Tabl d m k (i + 1) 0 :=
  ⟨h.sound, h.all, fun x y hx hy hp e => h.done x y hx hy (by omega) e⟩
theorem tabl_phase {d : Aut} {m : Nat → Nat → Bool} {k : Nat} (h : Tabl d m k d.next.length 0) : Tabl d m (k + 1) 0 0 :=
  ⟨h.sound, fun x y hx hy e => h.done x y hx hy (.inl hx) e, fun x y _ _ hp => by omega⟩
theorem tabl_end {d : Aut} (g : Df.Good d) {m : Nat → Nat → Bool} (h : Tabl d m d.next.length 0 0) {x y : Nat} (hx : x < d.next.length) (hy : y < d.next.length) : m x y = isReached d x y := by
  rw [Bool.eq_iff_iff]
  unfold isReached
  rw [decide_eq_true_eq, mem_rset g hx]
  exact ⟨h.sound x y hx, fun e => h.all x y hx hy (via_full g hx e)⟩
theorem tabl_start {d : Aut} {m : Nat → Nat → Bool} (h : ∀ x y, x < d.next.length → (m x y = true ↔ y = x ∨ y ∈ S1 d x)) : Tabl d m 0 0 0 :=
  ⟨fun x y hx e => by
    rcases (h x y hx).1 e with rfl | e
    · exact .base
    · exact .next .base e, fun x y hx _ e => (h x y hx).2 (via_zero e), fun x y _ _ hp => by omega⟩

/-! ### words by their length -/
/-- Is a final state come to in just k steps? -/
def inK (d : Aut) : Nat → Nat → Bool
  | 0, s => finA d s
  | k + 1, s => (List.range d.L.toNat).any fun a => inK d k (step d s a)
theorem inK_iff {d : Aut} {k s : Nat} : inK d k s = true ↔ ∃ w, Word d.L w ∧ w.length = k ∧ finA d (runA d s w) = true := by
  induction k generalizing s with
  | zero =>
    constructor
    · intro h; exact ⟨[], by intro a ha; simp at ha, rfl, h⟩
    · rintro ⟨w, _, hl, hf⟩
      obtain rfl := List.eq_nil_of_length_eq_zero hl
      exact hf
  | succ k ih =>
    show ((List.range d.L.toNat).any fun a => inK d k (step d s a)) = true ↔ _
    rw [List.any_eq_true]
    constructor
    · rintro ⟨a, ha, h⟩
      obtain ⟨w, hw, hl, hf⟩ := ih.1 h
      rw [List.mem_range] at ha
      refine ⟨(a : Int) :: w, fun b hb => ?_, by simp [hl], hf⟩
      rcases List.mem_cons.1 hb with rfl | hb
      · exact ⟨by omega, by omega⟩
      · exact hw b hb
    · rintro ⟨w, hw, hl, hf⟩
      rcases w with _ | ⟨a, w⟩
      · simp at hl
      · have ha := hw a List.mem_cons_self
        exact ⟨a.toNat, List.mem_range.2 (by omega), ih.2 ⟨w, fun b hb => hw b (List.mem_cons_of_mem _ hb), by simpa using hl, hf⟩⟩
/-- The shortest one is shorter than there are states. -/
theorem short {d : Aut} (g : Df.Good d) {s k : Nat} (hs : s < d.next.length) (h : inK d k s = true) (hmin : ∀ j, j < k → inK d j s = false) : k < d.next.length := by
  obtain ⟨w, hw, hl, hf⟩ := inK_iff.1 h
  have hn : ((List.range (k + 1)).map fun i => runA d s (w.take i)).Nodup := by
    refine nodup_map List.nodup_range _ (fun i hi j hj e => ?_)
    rw [List.mem_range] at hi hj
    have key : ∀ i j : Nat, i < j → j < k + 1 → runA d s (w.take i) = runA d s (w.take j) → False := by
      intro i j hij hj e
      have hf2 : finA d (runA d s (w.take i ++ w.drop j)) = true := by
        rw [runA_append, e, ← runA_append, List.take_append_drop]; exact hf
      have h1 := hmin (w.take i ++ w.drop j).length (by rw [List.length_append, List.length_take, List.length_drop]; omega)
      rw [inK_iff.2 ⟨_, fun a ha => ?_, rfl, hf2⟩] at h1
      · cases h1
      · rcases List.mem_append.1 ha with ha | ha
        · exact hw a (List.mem_of_mem_take ha)
        · exact hw a (List.mem_of_mem_drop ha)
    rcases Nat.lt_trichotomy i j with hlt | he | hlt
    · exact (key i j hlt hj e).elim
    · exact he
    · exact (key j i hlt hi e.symm).elim
  have := nodup_le _ _ hn (fun x hx => by
    obtain ⟨i, _, rfl⟩ := List.mem_map.1 hx
    exact g.run_lt (fun a ha => hw a (List.mem_of_mem_take ha)) hs)
  rw [List.length_map, List.length_range] at this
  omega
/-- How many words of n letters are accepted from a state. -/
def cnt (d : Aut) : Nat → Nat → Nat
  | 0, s => if finA d s = true then 1 else 0
  | k + 1, s => ((List.range d.L.toNat).map fun a => cnt d k (step d s a)).sum
theorem sum_le {α : Type} (l : List α) (f : α → Nat) (b : Nat) (h : ∀ x ∈ l, f x ≤ b) : (l.map f).sum ≤ l.length * b := by
  induction l with
  | nil => simp
  | cons x l ih =>
    have h1 := h x List.mem_cons_self
    have h2 := ih (fun y hy => h y (List.mem_cons_of_mem _ hy))
    rw [List.map_cons, List.sum_cons, List.length_cons, Nat.succ_mul]
    omega
theorem cnt_le {d : Aut} (g : Df.Good d) (k s : Nat) : cnt d k s ≤ 6 ^ k := by
  induction k generalizing s with
  | zero => unfold cnt; split <;> simp
  | succ k ih =>
    have h := sum_le (List.range d.L.toNat) (fun a => cnt d k (step d s a)) (6 ^ k) (fun a _ => ih _)
    rw [List.length_range] at h
    have h6 : d.L.toNat ≤ 6 := by have := g.l6; omega
    calc cnt d (k + 1) s ≤ d.L.toNat * 6 ^ k := h
      _ ≤ 6 * 6 ^ k := Nat.mul_le_mul_right _ h6
      _ = 6 ^ (k + 1) := by rw [Nat.pow_succ, Nat.mul_comm]
end Go.Proofs.YtlhhhdgkdbplmaaDoor.Rc
