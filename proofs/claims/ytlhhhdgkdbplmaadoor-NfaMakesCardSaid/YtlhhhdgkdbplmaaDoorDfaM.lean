/- Plain mathematics of automata: what is wrong with one, its runs, what is found from a start in order, and the automata that are numbered so. -/
namespace Go.Proofs.YtlhhhdgkdbplmaaDoor.Df

structure Aut where
  L : Int
  s : Int
  next : List (List Int)
  fin : List Bool
def zeroA : Aut := ⟨0, 0, [], []⟩
def isSt (d : Aut) (x : Int) : Prop := 0 ≤ x ∧ x < d.next.length
instance (d : Aut) (x : Int) : Decidable (isSt d x) := inferInstanceAs (Decidable (_ ∧ _))
def shaped (d : Aut) : Prop := d.next.length ≠ 0 ∧ d.fin.length = d.next.length ∧ ∀ r ∈ d.next, (r.length : Int) = d.L
instance (d : Aut) : Decidable (shaped d) := inferInstanceAs (Decidable (_ ∧ _ ∧ _))
/-- What is wrong with an automaton. -/
def dchk (d : Aut) : Nat :=
  if d.L < 1 ∨ 6 < d.L then 1 else if 40 < d.next.length then 4 else if ¬ shaped d then 3 else if ¬ isSt d d.s then 1 else if ∀ r ∈ d.next, ∀ x ∈ r, isSt d x then 0 else 1
structure Good (d : Aut) : Prop where
  l1 : 1 ≤ d.L
  l6 : d.L ≤ 6
  n1 : 1 ≤ d.next.length
  n40 : d.next.length ≤ 40
  fin : d.fin.length = d.next.length
  row : ∀ r ∈ d.next, (r.length : Int) = d.L
  st : isSt d d.s
  go : ∀ r ∈ d.next, ∀ x ∈ r, isSt d x
theorem dchk_iff {d : Aut} : dchk d = 0 ↔ Good d := by
  unfold dchk
  constructor
  · intro h
    split at h
    · omega
    split at h
    · omega
    split at h
    · omega
    split at h
    · omega
    split at h
    · rename_i h1 h2 h3 h4 h5
      have h3 : shaped d := Decidable.not_not.1 h3
      exact ⟨by omega, by omega, by have := h3.1; omega, by omega, h3.2.1, h3.2.2, Decidable.not_not.1 h4, h5⟩
    · omega
  · intro g
    have h1 := g.l1; have h2 := g.l6; have h3 := g.n40; have h4 := g.n1
    rw [if_neg (by omega), if_neg (by omega), if_neg (fun h => h ⟨by omega, g.fin, g.row⟩), if_neg (fun h => h g.st), if_pos g.go]
theorem dchk_bad_L {d : Aut} (h : d.L < 1 ∨ 6 < d.L) : dchk d = 1 := by unfold dchk; rw [if_pos h]
theorem dchk_bad_n {d : Aut} (h : ¬ (d.L < 1 ∨ 6 < d.L)) (h2 : 40 < d.next.length) : dchk d = 4 := by unfold dchk; rw [if_neg h, if_pos h2]
theorem dchk_bad_shape {d : Aut} (h : ¬ (d.L < 1 ∨ 6 < d.L)) (h2 : ¬ 40 < d.next.length) (h3 : ¬ shaped d) : dchk d = 3 := by unfold dchk; rw [if_neg h, if_neg h2, if_pos h3]
theorem dchk_bad_s {d : Aut} (h : ¬ (d.L < 1 ∨ 6 < d.L)) (h2 : ¬ 40 < d.next.length) (h3 : shaped d) (h4 : ¬ isSt d d.s) : dchk d = 1 := by
  unfold dchk; rw [if_neg h, if_neg h2, if_neg (fun k => k h3), if_pos h4]
theorem dchk_bad_go {d : Aut} (h : ¬ (d.L < 1 ∨ 6 < d.L)) (h2 : ¬ 40 < d.next.length) (h3 : shaped d) (h4 : isSt d d.s) {r : List Int} (hr : r ∈ d.next) {x : Int} (hx : x ∈ r) (h5 : ¬ isSt d x) : dchk d = 1 := by
  unfold dchk; rw [if_neg h, if_neg h2, if_neg (fun k => k h3), if_neg (fun k => k h4), if_neg (fun k => h5 (k r hr x hx))]
theorem dchk_ok {d : Aut} (h : ¬ (d.L < 1 ∨ 6 < d.L)) (h2 : ¬ 40 < d.next.length) (h3 : shaped d) (h4 : isSt d d.s) (h5 : ∀ r ∈ d.next, ∀ x ∈ r, isSt d x) : dchk d = 0 := by
  unfold dchk; rw [if_neg h, if_neg h2, if_neg (fun k => k h3), if_neg (fun k => k h4), if_pos h5]
theorem dchk_le (d : Aut) : dchk d ≤ 4 := by
  unfold dchk; repeat' split
  all_goals omega

/-! ### runs -/
def step (d : Aut) (q a : Nat) : Nat := (((d.next[q]?.getD [])[a]?.getD 0)).toNat
def runA (d : Aut) (q : Nat) (w : List Int) : Nat := w.foldl (fun q a => step d q a.toNat) q
def finA (d : Aut) (q : Nat) : Bool := d.fin[q]?.getD false
def accA (d : Aut) (w : List Int) : Bool := finA d (runA d d.s.toNat w)
/-- The row of a state, and what it says of a letter. -/
theorem Good.at_ {d : Aut} (g : Good d) {q a : Nat} (hq : q < d.next.length) (ha : (a : Int) < d.L) :
    ∃ r, d.next[q]? = some r ∧ r ∈ d.next ∧ (r.length : Int) = d.L ∧ r[a]? = some ((step d q a : Nat) : Int) ∧ step d q a < d.next.length := by
  have hm := List.getElem_mem (l := d.next) hq
  have hl := g.row _ hm
  have ha' : a < (d.next[q]).length := by omega
  have hx := g.go _ hm _ (List.getElem_mem ha')
  have e : step d q a = ((d.next[q])[a]).toNat := by
    unfold step
    rw [List.getElem?_eq_getElem hq, Option.getD_some, List.getElem?_eq_getElem ha', Option.getD_some]
  refine ⟨d.next[q], List.getElem?_eq_getElem hq, hm, hl, ?_, ?_⟩
  · rw [List.getElem?_eq_getElem ha', e]
    have := hx.1
    congr 1
    omega
  · rw [e]; have := hx.1; have := hx.2; omega
theorem Good.step_lt {d : Aut} (g : Good d) {q a : Nat} (hq : q < d.next.length) (ha : (a : Int) < d.L) : step d q a < d.next.length := by
  obtain ⟨_, _, _, _, _, h⟩ := g.at_ hq ha; exact h
theorem Good.s_lt {d : Aut} (g : Good d) : d.s.toNat < d.next.length := by have := g.st.1; have := g.st.2; omega
theorem Good.s_eq {d : Aut} (g : Good d) : ((d.s.toNat : Nat) : Int) = d.s := by have := g.st.1; omega
theorem Good.fin_at {d : Aut} (g : Good d) {q : Nat} (hq : q < d.next.length) : d.fin[q]? = some (finA d q) := by
  unfold finA
  rw [List.getElem?_eq_getElem (by rw [g.fin]; exact hq)]; rfl
def Word (L : Int) (w : List Int) : Prop := ∀ a ∈ w, 0 ≤ a ∧ a < L
theorem Good.run_lt {d : Aut} (g : Good d) {w : List Int} (hw : Word d.L w) {q : Nat} (hq : q < d.next.length) : runA d q w < d.next.length := by
  induction w generalizing q with
  | nil => exact hq
  | cons a w ih =>
    have h := hw a (List.mem_cons_self)
    exact ih (fun b hb => hw b (List.mem_cons_of_mem _ hb)) (g.step_lt hq (by omega))
theorem runA_append (d : Aut) (q : Nat) (v w : List Int) : runA d q (v ++ w) = runA d (runA d q v) w := List.foldl_append
theorem runA_take_succ (d : Aut) (q : Nat) (w : List Int) {k : Nat} (hk : k < w.length) : runA d q (w.take (k + 1)) = step d (runA d q (w.take k)) (w[k]).toNat := by
  rw [← List.take_append_getElem hk, runA_append]; rfl

/-! ### what is found from a start, in order -/
section
variable {α : Type} [DecidableEq α]
def addTo (l : List α) (t : α) : List α := if t ∈ l then l else l ++ [t]
def addAll (l ts : List α) : List α := ts.foldl addTo l
theorem addTo_prefix (l : List α) (t : α) : ∃ m, addTo l t = l ++ m := by
  unfold addTo; split
  · exact ⟨[], by simp⟩
  · exact ⟨[t], rfl⟩
theorem addAll_prefix (l ts : List α) : ∃ m, addAll l ts = l ++ m := by
  induction ts generalizing l with
  | nil => exact ⟨[], by simp [addAll]⟩
  | cons t ts ih =>
    obtain ⟨m, hm⟩ := addTo_prefix l t
    obtain ⟨m', hm'⟩ := ih (addTo l t)
    refine ⟨m ++ m', ?_⟩
    show addAll (addTo l t) ts = _
    rw [hm', hm, List.append_assoc]
theorem mem_addTo {l : List α} {t x : α} : x ∈ addTo l t ↔ x ∈ l ∨ x = t := by
  unfold addTo; split
  · constructor
    · exact .inl
    · rintro (h | rfl)
      · exact h
      · assumption
  · simp
theorem mem_addAll {l ts : List α} {x : α} : x ∈ addAll l ts ↔ x ∈ l ∨ x ∈ ts := by
  induction ts generalizing l with
  | nil => simp [addAll]
  | cons t ts ih =>
    show x ∈ addAll (addTo l t) ts ↔ _
    rw [ih, mem_addTo, List.mem_cons, or_assoc]
theorem nodup_addTo {l : List α} (h : l.Nodup) (t : α) : (addTo l t).Nodup := by
  unfold addTo; split
  · exact h
  · rename_i hn
    rw [List.nodup_append]
    exact ⟨h, by simp, fun a ha b hb e => by simp at hb; subst hb; subst e; exact hn ha⟩
theorem nodup_addAll {l : List α} (h : l.Nodup) (ts : List α) : (addAll l ts).Nodup := by
  induction ts generalizing l with
  | nil => exact h
  | cons t ts ih => exact ih (nodup_addTo h t)
theorem addAll_take_succ (l ts : List α) {c : Nat} (hc : c < ts.length) : addAll l (ts.take (c + 1)) = addTo (addAll l (ts.take c)) ts[c] := by
  rw [← List.take_append_getElem hc]; unfold addAll; rw [List.foldl_append]; rfl
theorem addAll_length_le (l ts : List α) : (addAll l ts).length ≤ l.length + ts.length := by
  induction ts generalizing l with
  | nil => simp [addAll]
  | cons t ts ih =>
    have h := ih (addTo l t)
    have : (addTo l t).length ≤ l.length + 1 := by
      unfold addTo; split
      · omega
      · simp
    show (addAll (addTo l t) ts).length ≤ _
    simp only [List.length_cons]; omega
/-- Its place in a list. -/
def num (l : List α) (t : α) : Nat := l.idxOf t
theorem idx_append {l m : List α} {t : α} (h : t ∈ l) : num (l ++ m) t = num l t := by
  unfold num; rw [List.idxOf_append, if_pos h]
theorem idx_new {l : List α} {t : α} (h : t ∉ l) : num (l ++ [t]) t = l.length := by
  unfold num; rw [List.idxOf_append, if_neg h, List.idxOf_cons_self]; omega
theorem idx_get {l : List α} {t : α} (h : t ∈ l) : l[num l t]? = some t := by
  unfold num
  have := List.idxOf_lt_length_of_mem h
  rw [List.getElem?_eq_getElem this, List.getElem_idxOf]
theorem idx_lt {l : List α} {t : α} (h : t ∈ l) : num l t < l.length := List.idxOf_lt_length_of_mem h
theorem idx_of {l : List α} (hn : l.Nodup) {k : Nat} {t : α} (h : l[k]? = some t) : num l t = k := by
  obtain ⟨h1, h2⟩ := List.getElem?_eq_some_iff.1 h
  have hm : t ∈ l := h2 ▸ List.getElem_mem h1
  have h3 := idx_get hm
  obtain ⟨h4, h5⟩ := List.getElem?_eq_some_iff.1 h3
  exact (List.getElem_inj hn).1 (h5.trans h2.symm)
theorem idx_at {l : List α} {t : α} {k : Nat} (h : t ∉ l.take k) (hk : k < l.length) (he : t = l[k]) : num l t = k := by
  unfold num
  have e : l = l.take k ++ l.drop k := (List.take_append_drop k l).symm
  rw [e, List.idxOf_append, if_neg h, List.drop_eq_getElem_cons hk, ← he, List.idxOf_cons_self, List.length_take]
  omega

/-- All that is found; none if there are more than 40. -/
def expl (S : α → List α) : Nat → Nat → List α → Option (List α)
  | 0, _, l => some l
  | f + 1, i, l =>
    match l[i]? with
    | none => some l
    | some x => if 40 < (addAll l (S x)).length then none else expl S f (i + 1) (addAll l (S x))
def found (S : α → List α) (a : α) : Option (List α) := expl S 41 0 [a]
/-- What is reached. -/
inductive Rch (S : α → List α) (a : α) : α → Prop
  | base : Rch S a a
  | next {x t : α} : Rch S a x → t ∈ S x → Rch S a t
/-- Midway: i of them are done. -/
structure Part (S : α → List α) (a : α) (i : Nat) (l : List α) : Prop where
  eq : expl S (41 - i) i l = found S a
  nd : l.Nodup
  le : i ≤ l.length
  n40 : l.length ≤ 40
  hd : l[0]? = some a
  closed : ∀ k, k < i → ∀ x, l[k]? = some x → ∀ t ∈ S x, t ∈ l
  rch : ∀ x ∈ l, Rch S a x
theorem part_zero (S : α → List α) (a : α) : Part S a 0 [a] :=
  ⟨rfl, by simp, by simp, by simp, rfl, fun k hk => by omega, fun x hx => by simp at hx; subst hx; exact .base⟩
theorem Part.n1 {S : α → List α} {a : α} {i : Nat} {l : List α} (h : Part S a i l) : 1 ≤ l.length := by
  have := (List.getElem?_eq_some_iff.1 h.hd).1; omega
theorem Part.step {S : α → List α} {a : α} {i : Nat} {l : List α} (h : Part S a i l) {x : α} (hx : l[i]? = some x) :
    (40 < (addAll l (S x)).length → found S a = none) ∧ (¬ 40 < (addAll l (S x)).length → Part S a (i + 1) (addAll l (S x))) := by
  have hi := (List.getElem?_eq_some_iff.1 hx).1
  have h40 := h.n40
  obtain ⟨f, hf⟩ : ∃ f, 41 - i = f + 1 := ⟨40 - i, by omega⟩
  have he := h.eq
  rw [hf, expl, hx] at he
  simp only at he
  obtain ⟨m, hm⟩ := addAll_prefix l (S x)
  have hxm : x ∈ l := (List.getElem?_eq_some_iff.1 hx).2 ▸ List.getElem_mem hi
  constructor
  · intro hl; rw [if_pos hl] at he; exact he.symm
  · intro hl
    rw [if_neg hl] at he
    have hf' : 41 - (i + 1) = f := by omega
    refine ⟨by rw [hf']; exact he, nodup_addAll h.nd _, ?_, by omega, ?_, ?_, ?_⟩
    · rw [hm, List.length_append]; omega
    · rw [hm, List.getElem?_append_left (by omega)]; exact h.hd
    · intro k hk y hy t ht
      rw [mem_addAll]
      by_cases e : k = i
      · subst e
        rw [hm, List.getElem?_append_left hi, hx] at hy
        cases hy
        exact .inr ht
      · rw [hm, List.getElem?_append_left (by omega)] at hy
        exact .inl (h.closed k (by omega) y hy t ht)
    · intro y hy
      rcases mem_addAll.1 hy with hy | hy
      · exact h.rch y hy
      · exact .next (h.rch x hxm) hy
theorem Part.stop {S : α → List α} {a : α} {i : Nat} {l : List α} (h : Part S a i l) (hi : l.length ≤ i) : found S a = some l := by
  have h40 := h.n40
  have := h.le
  obtain ⟨f, hf⟩ : ∃ f, 41 - i = f + 1 := ⟨40 - i, by omega⟩
  have he := h.eq
  rw [hf, expl, List.getElem?_eq_none hi] at he
  exact he.symm
/-- What all that is found is like. -/
structure Whole (S : α → List α) (a : α) (l : List α) : Prop where
  nd : l.Nodup
  n1 : 1 ≤ l.length
  n40 : l.length ≤ 40
  hd : l[0]? = some a
  closed : ∀ x ∈ l, ∀ t ∈ S x, t ∈ l
  rch : ∀ x ∈ l, Rch S a x
theorem Part.whole {S : α → List α} {a : α} {i : Nat} {l : List α} (h : Part S a i l) (hi : l.length ≤ i) : Whole S a l := by
  refine ⟨h.nd, h.n1, h.n40, h.hd, fun x hx t ht => ?_, h.rch⟩
  obtain ⟨k, hk, rfl⟩ := List.getElem_of_mem hx
  exact h.closed k (by omega) _ (List.getElem?_eq_getElem hk) t ht
/-- Either all is found, or there are more than 40. -/
theorem part_ends (S : α → List α) (a : α) : ∀ (n i : Nat) (l : List α), 41 - i = n → Part S a i l →
    (∃ m, found S a = some m ∧ Whole S a m) ∨ (found S a = none ∧ ∃ m : List α, m.Nodup ∧ 40 < m.length ∧ ∀ x ∈ m, Rch S a x) := by
  intro n
  induction n with
  | zero => intro i l hn h; have := h.le; have := h.n40; omega
  | succ n ih =>
    intro i l hn h
    rcases hx : l[i]? with _ | x
    · have hi := List.getElem?_eq_none_iff.1 hx
      exact .inl ⟨l, h.stop hi, h.whole hi⟩
    · obtain ⟨h1, h2⟩ := h.step hx
      by_cases hl : 40 < (addAll l (S x)).length
      · refine .inr ⟨h1 hl, addAll l (S x), nodup_addAll h.nd _, hl, fun y hy => ?_⟩
        have hxm : x ∈ l := by obtain ⟨h3, h4⟩ := List.getElem?_eq_some_iff.1 hx; exact h4 ▸ List.getElem_mem h3
        rcases mem_addAll.1 hy with hy | hy
        · exact h.rch y hy
        · exact .next (h.rch x hxm) hy
      · exact ih (i + 1) _ (by omega) (h2 hl)
theorem found_cases (S : α → List α) (a : α) :
    (∃ m, found S a = some m ∧ Whole S a m) ∨ (found S a = none ∧ ∃ m : List α, m.Nodup ∧ 40 < m.length ∧ ∀ x ∈ m, Rch S a x) := part_ends S a 41 0 [a] rfl (part_zero S a)
theorem found_whole {S : α → List α} {a : α} {l : List α} (h : found S a = some l) : Whole S a l := by
  rcases found_cases S a with ⟨m, h1, h2⟩ | ⟨h1, _⟩
  · rw [h] at h1; cases h1; exact h2
  · rw [h] at h1; cases h1
end
theorem Whole.mem_iff {α : Type} {S : α → List α} {a : α} {l : List α} (h : Whole S a l) {x : α} : x ∈ l ↔ Rch S a x := by
  refine ⟨h.rch x, fun hr => ?_⟩
  induction hr with
  | base => exact List.mem_of_getElem? h.hd
  | next _ ht ih => exact h.closed _ ih _ ht

/-- No list of different numbers below n is longer than n. -/
theorem nodup_le : ∀ (n : Nat) (l : List Nat), l.Nodup → (∀ x ∈ l, x < n) → l.length ≤ n := by
  intro n
  induction n with
  | zero =>
    intro l _ h
    rcases l with _ | ⟨x, l⟩
    · simp
    · have := h x (List.mem_cons_self); omega
  | succ n ih =>
    intro l hn h
    have h1 := ih (l.filter (fun x => decide (x ≠ n))) (hn.filter _) (fun x hx => by
      rw [List.mem_filter] at hx
      have := h x hx.1
      have : x ≠ n := by simpa using hx.2
      omega)
    have h2 : ∀ l : List Nat, l.Nodup → l.length ≤ (l.filter (fun x => decide (x ≠ n))).length + 1 := by
      intro l
      induction l with
      | nil => simp
      | cons x l ih2 =>
        intro hn
        obtain ⟨h3, h4⟩ := List.nodup_cons.1 hn
        have := ih2 h4
        by_cases e : x = n
        · subst e
          have : l.filter (fun y => decide (y ≠ x)) = l := List.filter_eq_self.2 (fun y hy => by simp; intro e; subst e; exact h3 hy)
          rw [List.filter_cons, if_neg (by simp), this]; simp
        · rw [List.filter_cons, if_pos (by simpa using e)]; simp only [List.length_cons]; omega
    have := h2 l hn
    omega
theorem nodup_le_of {α : Type} {l : List α} {n : Nat} (hn : l.Nodup) (f : α → Nat) (hf : ∀ x ∈ l, ∀ y ∈ l, f x = f y → x = y) (hlt : ∀ x ∈ l, f x < n) : l.length ≤ n := by
  have : (l.map f).Nodup := by
    rw [List.nodup_iff_pairwise_ne] at hn ⊢
    rw [List.pairwise_map]
    exact List.Pairwise.imp_of_mem (fun {a b} ha hb h e => h (hf a ha b hb e)) hn
  have h2 := nodup_le n (l.map f) this (fun x hx => by obtain ⟨y, hy, rfl⟩ := List.mem_map.1 hx; exact hlt y hy)
  simpa using h2

/-! ### the automaton of what is found -/
section
variable {α : Type} [DecidableEq α]
/-- The row of one. -/
def srow (S : α → List α) (l : List α) (x : α) : List Int := (S x).map fun t => ((num l t : Nat) : Int)
theorem srow_length (S : α → List α) (l : List α) (x : α) : (srow S l x).length = (S x).length := List.length_map _
theorem srow_grow {S : α → List α} {l m : List α} {x : α} (h : ∀ t ∈ S x, t ∈ l) : srow S (l ++ m) x = srow S l x :=
  List.map_congr_left fun t ht => by rw [idx_append (h t ht)]
/-- The row of one, as far as letter c; what is found grows on the way. -/
def prow (S : α → List α) (l : List α) (x : α) (n c : Nat) : List Int := ((S x).take c).map (fun t => ((num (addAll l ((S x).take c)) t : Nat) : Int)) ++ List.replicate (n - c) 0
theorem prow_zero (S : α → List α) (l : List α) (x : α) (n : Nat) : prow S l x n 0 = List.replicate n 0 := by simp [prow]
theorem prow_length {S : α → List α} {l : List α} {x : α} {n c : Nat} (h : (S x).length = n) (hc : c ≤ n) : (prow S l x n c).length = n := by
  unfold prow; rw [List.length_append, List.length_map, List.length_take, List.length_replicate]; omega
theorem addAll_succ {S : α → List α} {l : List α} {x t : α} {c : Nat} (h : (S x)[c]? = some t) : addAll l ((S x).take (c + 1)) = addTo (addAll l ((S x).take c)) t := by
  obtain ⟨h1, h2⟩ := List.getElem?_eq_some_iff.1 h
  rw [addAll_take_succ l (S x) h1, h2]
theorem prow_step {S : α → List α} {l : List α} {x t : α} {n c : Nat} (h : (S x)[c]? = some t) (hn : c < n) :
    (prow S l x n c).set c ((num (addTo (addAll l ((S x).take c)) t) t : Nat) : Int) = prow S l x n (c + 1) := by
  have hc := (List.getElem?_eq_some_iff.1 h).1
  have ht := (List.getElem?_eq_some_iff.1 h).2
  obtain ⟨m, hm⟩ := addTo_prefix (addAll l ((S x).take c)) t
  unfold prow
  rw [addAll_succ h, List.set_append_right _ _ (by rw [List.length_map, List.length_take]; omega)]
  rw [show n - c = (n - (c + 1)) + 1 by omega, List.replicate_succ, List.length_map, List.length_take, show c - min c (S x).length = 0 by omega, List.set_cons_zero]
  rw [← List.take_append_getElem hc, List.map_append, ht]
  have e : ((S x).take c).map (fun t' => ((num (addTo (addAll l ((S x).take c)) t) t' : Nat) : Int)) = ((S x).take c).map (fun t' => ((num (addAll l ((S x).take c)) t' : Nat) : Int)) :=
    List.map_congr_left fun y hy => by rw [hm, idx_append (mem_addAll.2 (.inr hy))]
  rw [e]
  simp
theorem prow_full {S : α → List α} {l : List α} {x : α} {n : Nat} (h : (S x).length = n) : prow S l x n n = srow S (addAll l (S x)) x := by
  unfold prow srow
  rw [List.take_of_length_le (by omega), Nat.sub_self, List.replicate_zero, List.append_nil]
theorem rows_next {S : α → List α} {a : α} {i : Nat} {l : List α} (h : Part S a i l) {x : α} (hx : l[i]? = some x) :
    ((addAll l (S x)).take (i + 1)).map (srow S (addAll l (S x))) = (l.take i).map (srow S l) ++ [srow S (addAll l (S x)) x] := by
  obtain ⟨hi, he⟩ := List.getElem?_eq_some_iff.1 hx
  obtain ⟨m, hm⟩ := addAll_prefix l (S x)
  have e1 : (addAll l (S x)).take (i + 1) = l.take i ++ [x] := by
    rw [hm, List.take_append_of_le_length (by omega), ← List.take_append_getElem hi, he]
  rw [e1, List.map_append, List.map_singleton]
  congr 1
  refine List.map_congr_left fun y hy => ?_
  rw [hm]
  obtain ⟨k, hk, rfl⟩ := List.getElem_of_mem hy
  rw [List.length_take] at hk
  refine srow_grow fun t ht => h.closed k (by omega) _ ?_ t ht
  rw [List.getElem_take]; exact List.getElem?_eq_getElem (by omega)
theorem flags_next {S : α → List α} {i : Nat} {l : List α} {x : α} (f : α → Bool) (hx : l[i]? = some x) :
    ((addAll l (S x)).take (i + 1)).map f = (l.take i).map f ++ [f x] := by
  obtain ⟨hi, he⟩ := List.getElem?_eq_some_iff.1 hx
  obtain ⟨m, hm⟩ := addAll_prefix l (S x)
  rw [hm, List.take_append_of_le_length (by omega), ← List.take_append_getElem hi, he, List.map_append]; rfl
def autOf (L : Int) (S : α → List α) (l : List α) (f : α → Bool) : Aut := ⟨L, 0, l.map (srow S l), l.map f⟩
theorem autOf_good {L : Int} {S : α → List α} {a : α} {l : List α} {f : α → Bool} (h : Whole S a l) (h1 : 1 ≤ L) (h6 : L ≤ 6) (hS : ∀ x ∈ l, ((S x).length : Int) = L) : Good (autOf L S l f) := by
  have hn := h.n1
  refine ⟨h1, h6, by simpa [autOf] using h.n1, by simpa [autOf] using h.n40, by simp [autOf], fun r hr => ?_, ?_, fun r hr x hx => ?_⟩
  · obtain ⟨x, hx, rfl⟩ := List.mem_map.1 hr
    rw [srow_length]; exact hS x hx
  · refine ⟨Int.le_refl _, ?_⟩
    simp only [autOf, List.length_map]; omega
  · obtain ⟨y, hy, rfl⟩ := List.mem_map.1 hr
    obtain ⟨t, ht, rfl⟩ := List.mem_map.1 hx
    have := idx_lt (h.closed y hy t ht)
    refine ⟨by omega, ?_⟩
    simp only [autOf, List.length_map]; omega
/-- The next one by a letter. -/
def via (S : α → List α) (x : α) (a : Nat) : α := (S x)[a]?.getD x
def viaAll (S : α → List α) (x : α) (w : List Int) : α := w.foldl (fun x a => via S x a.toNat) x
theorem autOf_step {L : Int} {S : α → List α} {a : α} {l : List α} {f : α → Bool} (h : Whole S a l) (hS : ∀ x ∈ l, ((S x).length : Int) = L) {x : α} (hx : x ∈ l) {c : Nat} (hc : (c : Int) < L) :
    via S x c ∈ l ∧ step (autOf L S l f) (num l x) c = num l (via S x c) := by
  have hl := hS x hx
  have hc' : c < (S x).length := by omega
  have e : via S x c = (S x)[c] := by unfold via; rw [List.getElem?_eq_getElem hc']; rfl
  refine ⟨by rw [e]; exact h.closed x hx _ (List.getElem_mem hc'), ?_⟩
  unfold step autOf
  simp only [List.getElem?_map]
  rw [idx_get hx]
  simp only [Option.map_some, Option.getD_some, srow, List.getElem?_map]
  rw [List.getElem?_eq_getElem hc', e]
  simp
theorem autOf_run {L : Int} {S : α → List α} {a : α} {l : List α} {f : α → Bool} (h : Whole S a l) (hS : ∀ x ∈ l, ((S x).length : Int) = L) {w : List Int} (hw : Word L w) {x : α} (hx : x ∈ l) :
    viaAll S x w ∈ l ∧ runA (autOf L S l f) (num l x) w = num l (viaAll S x w) := by
  induction w generalizing x with
  | nil => exact ⟨hx, rfl⟩
  | cons b w ih =>
    have hb := hw b (List.mem_cons_self)
    obtain ⟨h1, h2⟩ := autOf_step (f := f) h hS hx (c := b.toNat) (by omega)
    obtain ⟨h3, h4⟩ := ih (fun y hy => hw y (List.mem_cons_of_mem _ hy)) h1
    refine ⟨h3, ?_⟩
    show runA _ (step _ _ _) w = _
    rw [h2, h4]; rfl
theorem autOf_acc {L : Int} {S : α → List α} {a : α} {l : List α} {f : α → Bool} (h : Whole S a l) (hS : ∀ x ∈ l, ((S x).length : Int) = L) {w : List Int} (hw : Word L w) :
    accA (autOf L S l f) w = f (viaAll S a w) := by
  have ha : a ∈ l := List.mem_of_getElem? h.hd
  have h0 : num l a = 0 := idx_of h.nd h.hd
  obtain ⟨h1, h2⟩ := autOf_run (f := f) h hS hw ha
  unfold accA finA
  rw [h0] at h2
  show ((autOf L S l f).fin[runA _ 0 w]?).getD false = _
  rw [h2]
  simp only [autOf, List.getElem?_map]
  rw [idx_get h1]; rfl
end

/-! ### Not, and the products -/
def notA (d : Aut) : Aut := ⟨d.L, d.s, d.next, d.fin.map (!·)⟩
def notOut (d : Aut) : Aut × Nat := if dchk d = 0 then (notA d, 0) else (zeroA, dchk d)
theorem notA_good {d : Aut} (g : Good d) : Good (notA d) := ⟨g.l1, g.l6, g.n1, g.n40, by simpa [notA] using g.fin, g.row, g.st, g.go⟩
theorem notA_run (d : Aut) (q : Nat) (w : List Int) : runA (notA d) q w = runA d q w := rfl
theorem notA_fin {d : Aut} (g : Good d) {q : Nat} (hq : q < d.next.length) : finA (notA d) q = !finA d q := by
  unfold finA notA
  simp only [List.getElem?_map]
  rw [List.getElem?_eq_getElem (by rw [g.fin]; exact hq)]
  rfl
theorem notA_acc {d : Aut} (g : Good d) {w : List Int} (hw : Word d.L w) : accA (notA d) w = !accA d w := notA_fin g (g.run_lt hw g.s_lt)
theorem notA_notA (d : Aut) : notA (notA d) = d := by
  unfold notA; simp [Function.comp_def]
/-- The pairs that follow a pair. -/
def S2 (a b : Aut) (p : Nat × Nat) : List (Nat × Nat) := (List.range a.L.toNat).map fun c => (step a p.1 c, step b p.2 c)
theorem S2_length (a b : Aut) (p : Nat × Nat) : (S2 a b p).length = a.L.toNat := by simp [S2]
theorem S2_get (a b : Aut) (p : Nat × Nat) {c : Nat} (hc : (c : Int) < a.L) : (S2 a b p)[c]? = some (step a p.1 c, step b p.2 c) := by
  unfold S2; rw [List.getElem?_map, List.getElem?_range (by omega)]; rfl
def start2 (a b : Aut) : Nat × Nat := (a.s.toNat, b.s.toNat)
def chkD2 (a b : Aut) : Nat := if dchk a ≠ 0 then dchk a else if dchk b ≠ 0 then dchk b else if a.L ≠ b.L then 3 else 0
structure Good2 (a b : Aut) : Prop where
  ga : Good a
  gb : Good b
  eL : a.L = b.L
theorem chkD2_iff {a b : Aut} : chkD2 a b = 0 ↔ Good2 a b := by
  unfold chkD2
  constructor
  · intro h
    split at h
    · omega
    split at h
    · omega
    split at h
    · omega
    rename_i h1 h2 h3
    exact ⟨dchk_iff.1 (by omega), dchk_iff.1 (by omega), by omega⟩
  · intro g
    rw [if_neg (by have := dchk_iff.2 g.ga; omega), if_neg (by have := dchk_iff.2 g.gb; omega), if_neg (by have := g.eL; omega)]
theorem chkD2_le (a b : Aut) : chkD2 a b ≤ 4 := by
  unfold chkD2; have := dchk_le a; have := dchk_le b; repeat' split
  all_goals omega
def prodOut (g : Bool → Bool → Bool) (a b : Aut) : Aut × Nat :=
  if chkD2 a b ≠ 0 then (zeroA, chkD2 a b) else
    match found (S2 a b) (start2 a b) with
    | none => (zeroA, 4)
    | some l => (autOf a.L (S2 a b) l (fun p => g (finA a p.1) (finA b p.2)), 0)
theorem prodOut_bad {g : Bool → Bool → Bool} {a b : Aut} (h : chkD2 a b ≠ 0) : prodOut g a b = (zeroA, chkD2 a b) := by unfold prodOut; rw [if_pos h]
theorem prodOut_full {g : Bool → Bool → Bool} {a b : Aut} (h : chkD2 a b = 0) (hf : found (S2 a b) (start2 a b) = none) : prodOut g a b = (zeroA, 4) := by
  unfold prodOut; rw [if_neg (by omega), hf]
theorem prodOut_some {g : Bool → Bool → Bool} {a b : Aut} (h : chkD2 a b = 0) {l : List (Nat × Nat)} (hf : found (S2 a b) (start2 a b) = some l) :
    prodOut g a b = (autOf a.L (S2 a b) l (fun p => g (finA a p.1) (finA b p.2)), 0) := by
  unfold prodOut; rw [if_neg (by omega), hf]
/-- The pairs that are reached are pairs of states. -/
theorem rch_lt {a b : Aut} (g : Good2 a b) {p : Nat × Nat} (h : Rch (S2 a b) (start2 a b) p) : p.1 < a.next.length ∧ p.2 < b.next.length := by
  induction h with
  | base => exact ⟨g.ga.s_lt, g.gb.s_lt⟩
  | next _ ht ih =>
    unfold S2 at ht
    obtain ⟨c, hc, rfl⟩ := List.mem_map.1 ht
    rw [List.mem_range] at hc
    have := g.eL
    exact ⟨g.ga.step_lt ih.1 (by omega), g.gb.step_lt ih.2 (by omega)⟩
theorem S2_len {a b : Aut} (g : Good2 a b) (p : Nat × Nat) : ((S2 a b p).length : Int) = a.L := by
  rw [S2_length]; have := g.ga.l1; omega
theorem via2 (a b : Aut) (p : Nat × Nat) {c : Nat} (hc : (c : Int) < a.L) : via (S2 a b) p c = (step a p.1 c, step b p.2 c) := by
  unfold via; rw [S2_get a b p hc]; rfl
theorem viaAll2 {a b : Aut} {w : List Int} (hw : Word a.L w) (p : Nat × Nat) : viaAll (S2 a b) p w = (runA a p.1 w, runA b p.2 w) := by
  induction w generalizing p with
  | nil => rfl
  | cons x w ih =>
    have hx := hw x (List.mem_cons_self)
    show viaAll _ (via _ _ _) w = _
    rw [ih (fun y hy => hw y (List.mem_cons_of_mem _ hy)), via2 a b p (by omega)]; rfl
theorem prod_good {a b : Aut} (g : Good2 a b) {l : List (Nat × Nat)} (hf : found (S2 a b) (start2 a b) = some l) (f : Nat × Nat → Bool) : Good (autOf a.L (S2 a b) l f) :=
  autOf_good (found_whole hf) g.ga.l1 g.ga.l6 (fun x _ => S2_len g x)
theorem prod_acc {a b : Aut} (g : Good2 a b) {l : List (Nat × Nat)} (hf : found (S2 a b) (start2 a b) = some l) (h : Bool → Bool → Bool) {w : List Int} (hw : Word a.L w) :
    accA (autOf a.L (S2 a b) l (fun p => h (finA a p.1) (finA b p.2))) w = h (accA a w) (accA b w) := by
  rw [autOf_acc (found_whole hf) (fun x _ => S2_len g x) hw, viaAll2 hw]; rfl

/-! ### what exploring gives -/
/-- An automaton of what is found, or none. -/
def explOut {α : Type} [DecidableEq α] (L : Int) (S : α → List α) (a : α) (f : α → Bool) : Aut × Nat :=
  match found S a with
  | none => (zeroA, 4)
  | some l => (autOf L S l f, 0)
theorem explOut_none {α : Type} [DecidableEq α] {L : Int} {S : α → List α} {a : α} {f : α → Bool} (h : found S a = none) : explOut L S a f = (zeroA, 4) := by unfold explOut; rw [h]
theorem explOut_some {α : Type} [DecidableEq α] {L : Int} {S : α → List α} {a : α} {f : α → Bool} {l : List α} (h : found S a = some l) : explOut L S a f = (autOf L S l f, 0) := by unfold explOut; rw [h]
theorem prodOut_expl {g : Bool → Bool → Bool} {a b : Aut} (h : chkD2 a b = 0) : prodOut g a b = explOut a.L (S2 a b) (start2 a b) (fun p => g (finA a p.1) (finA b p.2)) := by
  rcases hf : found (S2 a b) (start2 a b) with _ | l
  · rw [explOut_none hf, prodOut_full h hf]
  · rw [explOut_some hf, prodOut_some h hf]
end Go.Proofs.YtlhhhdgkdbplmaaDoor.Df
