/- Plain mathematics of words: what is wrong with one, the letters of a set, what is left of a word, and which is ahead. Plain mathematics of automata: what is wrong with one, its runs, what is found from a start in order, and the automata that are numbered so. Plain mathematics of automata for the laws: what is found by the two orders, with itself, with a product; de Morgan. Plain mathematics of reach: what is reached and alive, the table of all pairs, words by their length, the first word, what is counted, what is trimmed. Plain mathematics of reach for the laws: the first word is the least one; counts of Not, Both and Either; an automaton trimmed. Plain mathematics of package small: words that tell states apart; the smallest automaton; the first word at which two differ; levels; what is found with no two alike. Plain mathematics of nfa: ways, sets of states, the subset construction. Plain mathematics of nfa: mirrors; automata seen so; Brzozowski. Plain mathematics of nfa: what moves by no letter lead to, by passes over the moves. Sets of states as the bits of one number, and as rows of bools; what is found is found alike under another name, or not at all; what the subset construction gives. -/

namespace Go.Proofs.YtbciefeipiphiaaDoor.Wo

/-- A word of letters. -/
def Fine (L : Int) (w : List Int) : Prop := (1 ≤ L ∧ L ≤ 6) ∧ w.length ≤ 80 ∧ ∀ a ∈ w, 0 ≤ a ∧ a < L
/-- Is a letter in a set? -/
def has (s a : Int) : Bool := s.toNat / 2 ^ a.toNat % 2 == 1
def setOk (L s : Int) : Prop := 0 ≤ s ∧ s < 2 ^ L.toNat
instance (L s : Int) : Decidable (setOk L s) := by unfold setOk; infer_instance
def only (s : Int) (w : List Int) : List Int := w.filter (has s)
/-! ### the places of the loops -/
/-! ### what is left of a word -/
/-- The place in Sub's loop. -/
def At (v w : List Int) (i k : Nat) : Prop := (v.drop i).isSublist (w.drop k) = v.isSublist w
/-! ### which is ahead -/
/-- Of two words of one length: the lesser letter first. -/
def lx : List Int → List Int → Bool
  | a :: v, b :: w => if a = b then lx v w else decide (a < b)
  | _, _ => false
def lss (v w : List Int) : Bool := if v.length = w.length then lx v w else decide (v.length < w.length)
theorem lx_irr : ∀ v : List Int, lx v v = false
  | [] => rfl
  | a :: v => by rw [lx, if_pos rfl]; exact lx_irr v
theorem lx_asym : ∀ v w : List Int, lx v w = true → lx w v = false
  | [], [], h => by cases h
  | [], _ :: _, h => by cases h
  | _ :: _, [], h => by cases h
  | a :: v, b :: w, h => by
    rw [lx] at h ⊢
    by_cases e : a = b
    · rw [if_pos e] at h; rw [if_pos e.symm]; exact lx_asym v w h
    · rw [if_neg e] at h; rw [if_neg (fun h => e h.symm)]; simp at h ⊢; omega
theorem lx_total : ∀ v w : List Int, v.length = w.length → lx v w = false → lx w v = false → v = w
  | [], [], _, _, _ => rfl
  | [], _ :: _, h, _, _ => by simp at h
  | _ :: _, [], h, _, _ => by simp at h
  | a :: v, b :: w, hl, h1, h2 => by
    rw [lx] at h1 h2
    by_cases e : a = b
    · rw [if_pos e] at h1; rw [if_pos e.symm] at h2
      rw [e, lx_total v w (by simpa using hl) h1 h2]
    · rw [if_neg e] at h1; rw [if_neg (fun h => e h.symm)] at h2
      simp at h1 h2; omega
theorem lx_trans : ∀ u v w : List Int, lx u v = true → lx v w = true → lx u w = true
  | [], [], _, h, _ => by cases h
  | [], _ :: _, _, h, _ => by cases h
  | _ :: _, [], _, h, _ => by cases h
  | _ :: _, _ :: _, [], _, h => by cases h
  | a :: u, b :: v, c :: w, h1, h2 => by
    rw [lx] at h1 h2 ⊢
    by_cases e1 : a = b
    · rw [if_pos e1] at h1
      by_cases e2 : b = c
      · rw [if_pos e2] at h2; rw [if_pos (e1.trans e2)]; exact lx_trans u v w h1 h2
      · rw [if_neg e2] at h2; rw [if_neg (by omega)]; simp at h2 ⊢; omega
    · rw [if_neg e1] at h1
      by_cases e2 : b = c
      · rw [if_pos e2] at h2; rw [if_neg (by omega)]; simp at h1 ⊢; omega
      · rw [if_neg e2] at h2; simp at h1 h2; rw [if_neg (by omega)]; simp; omega
theorem lss_asym {v w : List Int} (h : lss v w = true) : lss w v = false := by
  unfold lss at *
  by_cases e : v.length = w.length
  · rw [if_pos e] at h; rw [if_pos e.symm]; exact lx_asym v w h
  · rw [if_neg e] at h; rw [if_neg (fun h => e h.symm)]; simp at h ⊢; omega
theorem lss_irr (v : List Int) : lss v v = false := by unfold lss; rw [if_pos rfl]; exact lx_irr v
theorem lss_total {v w : List Int} (h1 : lss v w = false) (h2 : lss w v = false) : v = w := by
  unfold lss at *
  by_cases e : v.length = w.length
  · rw [if_pos e] at h1; rw [if_pos e.symm] at h2; exact lx_total v w e h1 h2
  · rw [if_neg e] at h1; rw [if_neg (fun h => e h.symm)] at h2; simp at h1 h2; omega
theorem lss_trans {u v w : List Int} (h1 : lss u v = true) (h2 : lss v w = true) : lss u w = true := by
  unfold lss at *
  by_cases e1 : u.length = v.length
  · rw [if_pos e1] at h1
    by_cases e2 : v.length = w.length
    · rw [if_pos e2] at h2; rw [if_pos (e1.trans e2)]; exact lx_trans u v w h1 h2
    · rw [if_neg e2] at h2; rw [if_neg (by omega)]; simp at h2 ⊢; omega
  · rw [if_neg e1] at h1
    by_cases e2 : v.length = w.length
    · rw [if_neg (by omega)]; simp at h1 ⊢; omega
    · rw [if_neg e2] at h2; simp at h1 h2; rw [if_neg (by omega)]; simp; omega
end Go.Proofs.YtbciefeipiphiaaDoor.Wo

namespace Go.Proofs.YtbciefeipiphiaaDoor.Df

structure Aut where
  L : Int
  s : Int
  next : List (List Int)
  fin : List Bool
def zeroA : Aut := ⟨0, 0, [], []⟩
def isSt (d : Aut) (x : Int) : Prop := 0 ≤ x ∧ x < d.next.length
instance (d : Aut) (x : Int) : Decidable (isSt d x) := inferInstanceAs (Decidable (_ ∧ _))
def shaped (d : Aut) : Prop := d.next.length ≠ 0 ∧ d.fin.length = d.next.length ∧ ∀ r ∈ d.next, (r.length : Int) = d.L
instance (d : Aut) : Decidable (shaped d) := inferInstanceAs (Decidable (_ ∧ _ ∧ _))
/-- What is wrong with an automaton. -/
def dchk (d : Aut) : Nat :=
  if d.L < 1 ∨ 6 < d.L then 1 else if 40 < d.next.length then 4 else if ¬ shaped d then 3 else if ¬ isSt d d.s then 1 else if ∀ r ∈ d.next, ∀ x ∈ r, isSt d x then 0 else 1
structure Good (d : Aut) : Prop where
  l1 : 1 ≤ d.L
  l6 : d.L ≤ 6
  n1 : 1 ≤ d.next.length
  n40 : d.next.length ≤ 40
  fin : d.fin.length = d.next.length
  row : ∀ r ∈ d.next, (r.length : Int) = d.L
  st : isSt d d.s
  go : ∀ r ∈ d.next, ∀ x ∈ r, isSt d x
theorem dchk_iff {d : Aut} : dchk d = 0 ↔ Good d := by
  unfold dchk
  constructor
  · intro h
    split at h
    · omega
    split at h
    · omega
    split at h
    · omega
    split at h
    · omega
    split at h
    · rename_i h1 h2 h3 h4 h5
      have h3 : shaped d := Decidable.not_not.1 h3
      exact ⟨by omega, by omega, by have := h3.1; omega, by omega, h3.2.1, h3.2.2, Decidable.not_not.1 h4, h5⟩
    · omega
  · intro g
    have h1 := g.l1; have h2 := g.l6; have h3 := g.n40; have h4 := g.n1
    rw [if_neg (by omega), if_neg (by omega), if_neg (fun h => h ⟨by omega, g.fin, g.row⟩), if_neg (fun h => h g.st), if_pos g.go]
theorem dchk_bad_L {d : Aut} (h : d.L < 1 ∨ 6 < d.L) : dchk d = 1 := by unfold dchk; rw [if_pos h]
theorem dchk_bad_n {d : Aut} (h : ¬ (d.L < 1 ∨ 6 < d.L)) (h2 : 40 < d.next.length) : dchk d = 4 := by unfold dchk; rw [if_neg h, if_pos h2]
theorem dchk_bad_shape {d : Aut} (h : ¬ (d.L < 1 ∨ 6 < d.L)) (h2 : ¬ 40 < d.next.length) (h3 : ¬ shaped d) : dchk d = 3 := by unfold dchk; rw [if_neg h, if_neg h2, if_pos h3]
theorem dchk_bad_s {d : Aut} (h : ¬ (d.L < 1 ∨ 6 < d.L)) (h2 : ¬ 40 < d.next.length) (h3 : shaped d) (h4 : ¬ isSt d d.s) : dchk d = 1 := by
  unfold dchk; rw [if_neg h, if_neg h2, if_neg (fun k => k h3), if_pos h4]
theorem dchk_bad_go {d : Aut} (h : ¬ (d.L < 1 ∨ 6 < d.L)) (h2 : ¬ 40 < d.next.length) (h3 : shaped d) (h4 : isSt d d.s) {r : List Int} (hr : r ∈ d.next) {x : Int} (hx : x ∈ r) (h5 : ¬ isSt d x) : dchk d = 1 := by
  unfold dchk; rw [if_neg h, if_neg h2, if_neg (fun k => k h3), if_neg (fun k => k h4), if_neg (fun k => h5 (k r hr x hx))]
theorem dchk_ok {d : Aut} (h : ¬ (d.L < 1 ∨ 6 < d.L)) (h2 : ¬ 40 < d.next.length) (h3 : shaped d) (h4 : isSt d d.s) (h5 : ∀ r ∈ d.next, ∀ x ∈ r, isSt d x) : dchk d = 0 := by
  unfold dchk; rw [if_neg h, if_neg h2, if_neg (fun k => k h3), if_neg (fun k => k h4), if_pos h5]
/-! ### runs -/
def step (d : Aut) (q a : Nat) : Nat := (((d.next[q]?.getD [])[a]?.getD 0)).toNat
def runA (d : Aut) (q : Nat) (w : List Int) : Nat := w.foldl (fun q a => step d q a.toNat) q
def finA (d : Aut) (q : Nat) : Bool := d.fin[q]?.getD false
def accA (d : Aut) (w : List Int) : Bool := finA d (runA d d.s.toNat w)
/-- The row of a state, and what it says of a letter. -/
theorem Good.at_ {d : Aut} (g : Good d) {q a : Nat} (hq : q < d.next.length) (ha : (a : Int) < d.L) :
    ∃ r, d.next[q]? = some r ∧ r ∈ d.next ∧ (r.length : Int) = d.L ∧ r[a]? = some ((step d q a : Nat) : Int) ∧ step d q a < d.next.length := by
  have hm := List.getElem_mem (l := d.next) hq
  have hl := g.row _ hm
  have ha' : a < (d.next[q]).length := by omega
  have hx := g.go _ hm _ (List.getElem_mem ha')
  have e : step d q a = ((d.next[q])[a]).toNat := by
    unfold step
    rw [List.getElem?_eq_getElem hq, Option.getD_some, List.getElem?_eq_getElem ha', Option.getD_some]
  refine ⟨d.next[q], List.getElem?_eq_getElem hq, hm, hl, ?_, ?_⟩
  · rw [List.getElem?_eq_getElem ha', e]
    have := hx.1
    congr 1
    omega
  · rw [e]; have := hx.1; have := hx.2; omega
theorem Good.step_lt {d : Aut} (g : Good d) {q a : Nat} (hq : q < d.next.length) (ha : (a : Int) < d.L) : step d q a < d.next.length := by
  obtain ⟨_, _, _, _, _, h⟩ := g.at_ hq ha; exact h
theorem Good.s_lt {d : Aut} (g : Good d) : d.s.toNat < d.next.length := by have := g.st.1; have := g.st.2; omega
theorem Good.fin_at {d : Aut} (g : Good d) {q : Nat} (hq : q < d.next.length) : d.fin[q]? = some (finA d q) := by
  unfold finA
  rw [List.getElem?_eq_getElem (by rw [g.fin]; exact hq)]; rfl
def Word (L : Int) (w : List Int) : Prop := ∀ a ∈ w, 0 ≤ a ∧ a < L
theorem Good.run_lt {d : Aut} (g : Good d) {w : List Int} (hw : Word d.L w) {q : Nat} (hq : q < d.next.length) : runA d q w < d.next.length := by
  induction w generalizing q with
  | nil => exact hq
  | cons a w ih =>
    have h := hw a (List.mem_cons_self)
    exact ih (fun b hb => hw b (List.mem_cons_of_mem _ hb)) (g.step_lt hq (by omega))
theorem runA_append (d : Aut) (q : Nat) (v w : List Int) : runA d q (v ++ w) = runA d (runA d q v) w := List.foldl_append
/-! ### what is found from a start, in order -/
section
variable {α : Type} [DecidableEq α]
def addTo (l : List α) (t : α) : List α := if t ∈ l then l else l ++ [t]
def addAll (l ts : List α) : List α := ts.foldl addTo l
theorem addTo_prefix (l : List α) (t : α) : ∃ m, addTo l t = l ++ m := by
  unfold addTo; split
  · exact ⟨[], by simp⟩
  · exact ⟨[t], rfl⟩
theorem addAll_prefix (l ts : List α) : ∃ m, addAll l ts = l ++ m := by
  induction ts generalizing l with
  | nil => exact ⟨[], by simp [addAll]⟩
  | cons t ts ih =>
    obtain ⟨m, hm⟩ := addTo_prefix l t
    obtain ⟨m', hm'⟩ := ih (addTo l t)
    refine ⟨m ++ m', ?_⟩
    show addAll (addTo l t) ts = _
    rw [hm', hm, List.append_assoc]
theorem mem_addTo {l : List α} {t x : α} : x ∈ addTo l t ↔ x ∈ l ∨ x = t := by
  unfold addTo; split
  · constructor
    · exact .inl
    · rintro (h | rfl)
      · exact h
      · assumption
  · simp
theorem mem_addAll {l ts : List α} {x : α} : x ∈ addAll l ts ↔ x ∈ l ∨ x ∈ ts := by
  induction ts generalizing l with
  | nil => simp [addAll]
  | cons t ts ih =>
    show x ∈ addAll (addTo l t) ts ↔ _
    rw [ih, mem_addTo, List.mem_cons, or_assoc]
theorem nodup_addTo {l : List α} (h : l.Nodup) (t : α) : (addTo l t).Nodup := by
  unfold addTo; split
  · exact h
  · rename_i hn
    rw [List.nodup_append]
    exact ⟨h, by simp, fun a ha b hb e => by simp at hb; subst hb; subst e; exact hn ha⟩
theorem nodup_addAll {l : List α} (h : l.Nodup) (ts : List α) : (addAll l ts).Nodup := by
  induction ts generalizing l with
  | nil => exact h
  | cons t ts ih => exact ih (nodup_addTo h t)
theorem addAll_take_succ (l ts : List α) {c : Nat} (hc : c < ts.length) : addAll l (ts.take (c + 1)) = addTo (addAll l (ts.take c)) ts[c] := by
  rw [← List.take_append_getElem hc]; unfold addAll; rw [List.foldl_append]; rfl
theorem addAll_length_le (l ts : List α) : (addAll l ts).length ≤ l.length + ts.length := by
  induction ts generalizing l with
  | nil => simp [addAll]
  | cons t ts ih =>
    have h := ih (addTo l t)
    have : (addTo l t).length ≤ l.length + 1 := by
      unfold addTo; split
      · omega
      · simp
    show (addAll (addTo l t) ts).length ≤ _
    simp only [List.length_cons]; omega
/-- Its place in a list. -/
def num (l : List α) (t : α) : Nat := l.idxOf t
theorem idx_append {l m : List α} {t : α} (h : t ∈ l) : num (l ++ m) t = num l t := by
  unfold num; rw [List.idxOf_append, if_pos h]
theorem idx_new {l : List α} {t : α} (h : t ∉ l) : num (l ++ [t]) t = l.length := by
  unfold num; rw [List.idxOf_append, if_neg h, List.idxOf_cons_self]; omega
theorem idx_get {l : List α} {t : α} (h : t ∈ l) : l[num l t]? = some t := by
  unfold num
  have := List.idxOf_lt_length_of_mem h
  rw [List.getElem?_eq_getElem this, List.getElem_idxOf]
theorem idx_lt {l : List α} {t : α} (h : t ∈ l) : num l t < l.length := List.idxOf_lt_length_of_mem h
theorem idx_of {l : List α} (hn : l.Nodup) {k : Nat} {t : α} (h : l[k]? = some t) : num l t = k := by
  obtain ⟨h1, h2⟩ := List.getElem?_eq_some_iff.1 h
  have hm : t ∈ l := h2 ▸ List.getElem_mem h1
  have h3 := idx_get hm
  obtain ⟨h4, h5⟩ := List.getElem?_eq_some_iff.1 h3
  exact (List.getElem_inj hn).1 (h5.trans h2.symm)
theorem idx_at {l : List α} {t : α} {k : Nat} (h : t ∉ l.take k) (hk : k < l.length) (he : t = l[k]) : num l t = k := by
  unfold num
  have e : l = l.take k ++ l.drop k := (List.take_append_drop k l).symm
  rw [e, List.idxOf_append, if_neg h, List.drop_eq_getElem_cons hk, ← he, List.idxOf_cons_self, List.length_take]
  omega

/-- All that is found; none if there are more than 40. -/
def expl (S : α → List α) : Nat → Nat → List α → Option (List α)
  | 0, _, l => some l
  | f + 1, i, l =>
    match l[i]? with
    | none => some l
    | some x => if 40 < (addAll l (S x)).length then none else expl S f (i + 1) (addAll l (S x))
def found (S : α → List α) (a : α) : Option (List α) := expl S 41 0 [a]
/-- What is reached. -/
inductive Rch (S : α → List α) (a : α) : α → Prop
  | base : Rch S a a
  | next {x t : α} : Rch S a x → t ∈ S x → Rch S a t
/-- Midway: i of them are done. -/
structure Part (S : α → List α) (a : α) (i : Nat) (l : List α) : Prop where
  eq : expl S (41 - i) i l = found S a
  nd : l.Nodup
  le : i ≤ l.length
  n40 : l.length ≤ 40
  hd : l[0]? = some a
  closed : ∀ k, k < i → ∀ x, l[k]? = some x → ∀ t ∈ S x, t ∈ l
  rch : ∀ x ∈ l, Rch S a x
theorem part_zero (S : α → List α) (a : α) : Part S a 0 [a] :=
  ⟨rfl, by simp, by simp, by simp, rfl, fun k hk => by omega, fun x hx => by simp at hx; subst hx; exact .base⟩
theorem Part.n1 {S : α → List α} {a : α} {i : Nat} {l : List α} (h : Part S a i l) : 1 ≤ l.length := by
  have := (List.getElem?_eq_some_iff.1 h.hd).1; omega
theorem Part.step {S : α → List α} {a : α} {i : Nat} {l : List α} (h : Part S a i l) {x : α} (hx : l[i]? = some x) :
    (40 < (addAll l (S x)).length → found S a = none) ∧ (¬ 40 < (addAll l (S x)).length → Part S a (i + 1) (addAll l (S x))) := by
  have hi := (List.getElem?_eq_some_iff.1 hx).1
  have h40 := h.n40
  obtain ⟨f, hf⟩ : ∃ f, 41 - i = f + 1 := ⟨40 - i, by omega⟩
  have he := h.eq
  rw [hf, expl, hx] at he
  simp only at he
  obtain ⟨m, hm⟩ := addAll_prefix l (S x)
  have hxm : x ∈ l := (List.getElem?_eq_some_iff.1 hx).2 ▸ List.getElem_mem hi
  constructor
  · intro hl; rw [if_pos hl] at he; exact he.symm
  · intro hl
    rw [if_neg hl] at he
    have hf' : 41 - (i + 1) = f := by omega
    refine ⟨by rw [hf']; exact he, nodup_addAll h.nd _, ?_, by omega, ?_, ?_, ?_⟩
    · rw [hm, List.length_append]; omega
    · rw [hm, List.getElem?_append_left (by omega)]; exact h.hd
    · intro k hk y hy t ht
      rw [mem_addAll]
      by_cases e : k = i
      · subst e
        rw [hm, List.getElem?_append_left hi, hx] at hy
        cases hy
        exact .inr ht
      · rw [hm, List.getElem?_append_left (by omega)] at hy
        exact .inl (h.closed k (by omega) y hy t ht)
    · intro y hy
      rcases mem_addAll.1 hy with hy | hy
      · exact h.rch y hy
      · exact .next (h.rch x hxm) hy
theorem Part.stop {S : α → List α} {a : α} {i : Nat} {l : List α} (h : Part S a i l) (hi : l.length ≤ i) : found S a = some l := by
  have h40 := h.n40
  have := h.le
  obtain ⟨f, hf⟩ : ∃ f, 41 - i = f + 1 := ⟨40 - i, by omega⟩
  have he := h.eq
  rw [hf, expl, List.getElem?_eq_none hi] at he
  exact he.symm
/-- What all that is found is like. -/
structure Whole (S : α → List α) (a : α) (l : List α) : Prop where
  nd : l.Nodup
  n1 : 1 ≤ l.length
  n40 : l.length ≤ 40
  hd : l[0]? = some a
  closed : ∀ x ∈ l, ∀ t ∈ S x, t ∈ l
  rch : ∀ x ∈ l, Rch S a x
theorem Part.whole {S : α → List α} {a : α} {i : Nat} {l : List α} (h : Part S a i l) (hi : l.length ≤ i) : Whole S a l := by
  refine ⟨h.nd, h.n1, h.n40, h.hd, fun x hx t ht => ?_, h.rch⟩
  obtain ⟨k, hk, rfl⟩ := List.getElem_of_mem hx
  exact h.closed k (by omega) _ (List.getElem?_eq_getElem hk) t ht
/-- Either all is found, or there are more than 40. -/
theorem part_ends (S : α → List α) (a : α) : ∀ (n i : Nat) (l : List α), 41 - i = n → Part S a i l →
    (∃ m, found S a = some m ∧ Whole S a m) ∨ (found S a = none ∧ ∃ m : List α, m.Nodup ∧ 40 < m.length ∧ ∀ x ∈ m, Rch S a x) := by
  intro n
  induction n with
  | zero => intro i l hn h; have := h.le; have := h.n40; omega
  | succ n ih =>
    intro i l hn h
    rcases hx : l[i]? with _ | x
    · have hi := List.getElem?_eq_none_iff.1 hx
      exact .inl ⟨l, h.stop hi, h.whole hi⟩
    · obtain ⟨h1, h2⟩ := h.step hx
      by_cases hl : 40 < (addAll l (S x)).length
      · refine .inr ⟨h1 hl, addAll l (S x), nodup_addAll h.nd _, hl, fun y hy => ?_⟩
        have hxm : x ∈ l := by obtain ⟨h3, h4⟩ := List.getElem?_eq_some_iff.1 hx; exact h4 ▸ List.getElem_mem h3
        rcases mem_addAll.1 hy with hy | hy
        · exact h.rch y hy
        · exact .next (h.rch x hxm) hy
      · exact ih (i + 1) _ (by omega) (h2 hl)
theorem found_cases (S : α → List α) (a : α) :
    (∃ m, found S a = some m ∧ Whole S a m) ∨ (found S a = none ∧ ∃ m : List α, m.Nodup ∧ 40 < m.length ∧ ∀ x ∈ m, Rch S a x) := part_ends S a 41 0 [a] rfl (part_zero S a)
theorem found_whole {S : α → List α} {a : α} {l : List α} (h : found S a = some l) : Whole S a l := by
  rcases found_cases S a with ⟨m, h1, h2⟩ | ⟨h1, _⟩
  · rw [h] at h1; cases h1; exact h2
  · rw [h] at h1; cases h1
end
theorem Whole.mem_iff {α : Type} {S : α → List α} {a : α} {l : List α} (h : Whole S a l) {x : α} : x ∈ l ↔ Rch S a x := by
  refine ⟨h.rch x, fun hr => ?_⟩
  induction hr with
  | base => exact List.mem_of_getElem? h.hd
  | next _ ht ih => exact h.closed _ ih _ ht

/-- No list of different numbers below n is longer than n. -/
theorem nodup_le : ∀ (n : Nat) (l : List Nat), l.Nodup → (∀ x ∈ l, x < n) → l.length ≤ n := by
  intro n
  induction n with
  | zero =>
    intro l _ h
    rcases l with _ | ⟨x, l⟩
    · simp
    · have := h x (List.mem_cons_self); omega
  | succ n ih =>
    intro l hn h
    have h1 := ih (l.filter (fun x => decide (x ≠ n))) (hn.filter _) (fun x hx => by
      rw [List.mem_filter] at hx
      have := h x hx.1
      have : x ≠ n := by simpa using hx.2
      omega)
    have h2 : ∀ l : List Nat, l.Nodup → l.length ≤ (l.filter (fun x => decide (x ≠ n))).length + 1 := by
      intro l
      induction l with
      | nil => simp
      | cons x l ih2 =>
        intro hn
        obtain ⟨h3, h4⟩ := List.nodup_cons.1 hn
        have := ih2 h4
        by_cases e : x = n
        · subst e
          have : l.filter (fun y => decide (y ≠ x)) = l := List.filter_eq_self.2 (fun y hy => by simp; intro e; subst e; exact h3 hy)
          rw [List.filter_cons, if_neg (by simp), this]; simp
        · rw [List.filter_cons, if_pos (by simpa using e)]; simp only [List.length_cons]; omega
    have := h2 l hn
    omega
theorem nodup_le_of {α : Type} {l : List α} {n : Nat} (hn : l.Nodup) (f : α → Nat) (hf : ∀ x ∈ l, ∀ y ∈ l, f x = f y → x = y) (hlt : ∀ x ∈ l, f x < n) : l.length ≤ n := by
  have : (l.map f).Nodup := by
    rw [List.nodup_iff_pairwise_ne] at hn ⊢
    rw [List.pairwise_map]
    exact List.Pairwise.imp_of_mem (fun {a b} ha hb h e => h (hf a ha b hb e)) hn
  have h2 := nodup_le n (l.map f) this (fun x hx => by obtain ⟨y, hy, rfl⟩ := List.mem_map.1 hx; exact hlt y hy)
  simpa using h2

/-! ### the automaton of what is found -/
section
variable {α : Type} [DecidableEq α]
/-- The row of one. -/
def srow (S : α → List α) (l : List α) (x : α) : List Int := (S x).map fun t => ((num l t : Nat) : Int)
theorem srow_length (S : α → List α) (l : List α) (x : α) : (srow S l x).length = (S x).length := List.length_map _
theorem srow_grow {S : α → List α} {l m : List α} {x : α} (h : ∀ t ∈ S x, t ∈ l) : srow S (l ++ m) x = srow S l x :=
  List.map_congr_left fun t ht => by rw [idx_append (h t ht)]
/-- The row of one, as far as letter c; what is found grows on the way. -/
def prow (S : α → List α) (l : List α) (x : α) (n c : Nat) : List Int := ((S x).take c).map (fun t => ((num (addAll l ((S x).take c)) t : Nat) : Int)) ++ List.replicate (n - c) 0
theorem prow_zero (S : α → List α) (l : List α) (x : α) (n : Nat) : prow S l x n 0 = List.replicate n 0 := by simp [prow]
theorem prow_length {S : α → List α} {l : List α} {x : α} {n c : Nat} (h : (S x).length = n) (hc : c ≤ n) : (prow S l x n c).length = n := by
  unfold prow; rw [List.length_append, List.length_map, List.length_take, List.length_replicate]; omega
theorem addAll_succ {S : α → List α} {l : List α} {x t : α} {c : Nat} (h : (S x)[c]? = some t) : addAll l ((S x).take (c + 1)) = addTo (addAll l ((S x).take c)) t := by
  obtain ⟨h1, h2⟩ := List.getElem?_eq_some_iff.1 h
  rw [addAll_take_succ l (S x) h1, h2]
theorem prow_step {S : α → List α} {l : List α} {x t : α} {n c : Nat} (h : (S x)[c]? = some t) (hn : c < n) :
    (prow S l x n c).set c ((num (addTo (addAll l ((S x).take c)) t) t : Nat) : Int) = prow S l x n (c + 1) := by
  have hc := (List.getElem?_eq_some_iff.1 h).1
  have ht := (List.getElem?_eq_some_iff.1 h).2
  obtain ⟨m, hm⟩ := addTo_prefix (addAll l ((S x).take c)) t
  unfold prow
  rw [addAll_succ h, List.set_append_right _ _ (by rw [List.length_map, List.length_take]; omega)]
  rw [show n - c = (n - (c + 1)) + 1 by omega, List.replicate_succ, List.length_map, List.length_take, show c - min c (S x).length = 0 by omega, List.set_cons_zero]
  rw [← List.take_append_getElem hc, List.map_append, ht]
  have e : ((S x).take c).map (fun t' => ((num (addTo (addAll l ((S x).take c)) t) t' : Nat) : Int)) = ((S x).take c).map (fun t' => ((num (addAll l ((S x).take c)) t' : Nat) : Int)) :=
    List.map_congr_left fun y hy => by rw [hm, idx_append (mem_addAll.2 (.inr hy))]
  rw [e]
  simp
theorem prow_full {S : α → List α} {l : List α} {x : α} {n : Nat} (h : (S x).length = n) : prow S l x n n = srow S (addAll l (S x)) x := by
  unfold prow srow
  rw [List.take_of_length_le (by omega), Nat.sub_self, List.replicate_zero, List.append_nil]
theorem rows_next {S : α → List α} {a : α} {i : Nat} {l : List α} (h : Part S a i l) {x : α} (hx : l[i]? = some x) :
    ((addAll l (S x)).take (i + 1)).map (srow S (addAll l (S x))) = (l.take i).map (srow S l) ++ [srow S (addAll l (S x)) x] := by
  obtain ⟨hi, he⟩ := List.getElem?_eq_some_iff.1 hx
  obtain ⟨m, hm⟩ := addAll_prefix l (S x)
  have e1 : (addAll l (S x)).take (i + 1) = l.take i ++ [x] := by
    rw [hm, List.take_append_of_le_length (by omega), ← List.take_append_getElem hi, he]
  rw [e1, List.map_append, List.map_singleton]
  congr 1
  refine List.map_congr_left fun y hy => ?_
  rw [hm]
  obtain ⟨k, hk, rfl⟩ := List.getElem_of_mem hy
  rw [List.length_take] at hk
  refine srow_grow fun t ht => h.closed k (by omega) _ ?_ t ht
  rw [List.getElem_take]; exact List.getElem?_eq_getElem (by omega)
theorem flags_next {S : α → List α} {i : Nat} {l : List α} {x : α} (f : α → Bool) (hx : l[i]? = some x) :
    ((addAll l (S x)).take (i + 1)).map f = (l.take i).map f ++ [f x] := by
  obtain ⟨hi, he⟩ := List.getElem?_eq_some_iff.1 hx
  obtain ⟨m, hm⟩ := addAll_prefix l (S x)
  rw [hm, List.take_append_of_le_length (by omega), ← List.take_append_getElem hi, he, List.map_append]; rfl
def autOf (L : Int) (S : α → List α) (l : List α) (f : α → Bool) : Aut := ⟨L, 0, l.map (srow S l), l.map f⟩
theorem autOf_good {L : Int} {S : α → List α} {a : α} {l : List α} {f : α → Bool} (h : Whole S a l) (h1 : 1 ≤ L) (h6 : L ≤ 6) (hS : ∀ x ∈ l, ((S x).length : Int) = L) : Good (autOf L S l f) := by
  have hn := h.n1
  refine ⟨h1, h6, by simpa [autOf] using h.n1, by simpa [autOf] using h.n40, by simp [autOf], fun r hr => ?_, ?_, fun r hr x hx => ?_⟩
  · obtain ⟨x, hx, rfl⟩ := List.mem_map.1 hr
    rw [srow_length]; exact hS x hx
  · refine ⟨Int.le_refl _, ?_⟩
    simp only [autOf, List.length_map]; omega
  · obtain ⟨y, hy, rfl⟩ := List.mem_map.1 hr
    obtain ⟨t, ht, rfl⟩ := List.mem_map.1 hx
    have := idx_lt (h.closed y hy t ht)
    refine ⟨by omega, ?_⟩
    simp only [autOf, List.length_map]; omega
/-- The next one by a letter. -/
def via (S : α → List α) (x : α) (a : Nat) : α := (S x)[a]?.getD x
def viaAll (S : α → List α) (x : α) (w : List Int) : α := w.foldl (fun x a => via S x a.toNat) x
theorem autOf_step {L : Int} {S : α → List α} {a : α} {l : List α} {f : α → Bool} (h : Whole S a l) (hS : ∀ x ∈ l, ((S x).length : Int) = L) {x : α} (hx : x ∈ l) {c : Nat} (hc : (c : Int) < L) :
    via S x c ∈ l ∧ step (autOf L S l f) (num l x) c = num l (via S x c) := by
  have hl := hS x hx
  have hc' : c < (S x).length := by omega
  have e : via S x c = (S x)[c] := by unfold via; rw [List.getElem?_eq_getElem hc']; rfl
  refine ⟨by rw [e]; exact h.closed x hx _ (List.getElem_mem hc'), ?_⟩
  unfold step autOf
  simp only [List.getElem?_map]
  rw [idx_get hx]
  simp only [Option.map_some, Option.getD_some, srow, List.getElem?_map]
  rw [List.getElem?_eq_getElem hc', e]
  simp
theorem autOf_run {L : Int} {S : α → List α} {a : α} {l : List α} {f : α → Bool} (h : Whole S a l) (hS : ∀ x ∈ l, ((S x).length : Int) = L) {w : List Int} (hw : Word L w) {x : α} (hx : x ∈ l) :
    viaAll S x w ∈ l ∧ runA (autOf L S l f) (num l x) w = num l (viaAll S x w) := by
  induction w generalizing x with
  | nil => exact ⟨hx, rfl⟩
  | cons b w ih =>
    have hb := hw b (List.mem_cons_self)
    obtain ⟨h1, h2⟩ := autOf_step (f := f) h hS hx (c := b.toNat) (by omega)
    obtain ⟨h3, h4⟩ := ih (fun y hy => hw y (List.mem_cons_of_mem _ hy)) h1
    refine ⟨h3, ?_⟩
    show runA _ (step _ _ _) w = _
    rw [h2, h4]; rfl
theorem autOf_acc {L : Int} {S : α → List α} {a : α} {l : List α} {f : α → Bool} (h : Whole S a l) (hS : ∀ x ∈ l, ((S x).length : Int) = L) {w : List Int} (hw : Word L w) :
    accA (autOf L S l f) w = f (viaAll S a w) := by
  have ha : a ∈ l := List.mem_of_getElem? h.hd
  have h0 : num l a = 0 := idx_of h.nd h.hd
  obtain ⟨h1, h2⟩ := autOf_run (f := f) h hS hw ha
  unfold accA finA
  rw [h0] at h2
  show ((autOf L S l f).fin[runA _ 0 w]?).getD false = _
  rw [h2]
  simp only [autOf, List.getElem?_map]
  rw [idx_get h1]; rfl
end

/-! ### Not, and the products -/
/-- The pairs that follow a pair. -/
def S2 (a b : Aut) (p : Nat × Nat) : List (Nat × Nat) := (List.range a.L.toNat).map fun c => (step a p.1 c, step b p.2 c)
theorem S2_length (a b : Aut) (p : Nat × Nat) : (S2 a b p).length = a.L.toNat := by simp [S2]
theorem S2_get (a b : Aut) (p : Nat × Nat) {c : Nat} (hc : (c : Int) < a.L) : (S2 a b p)[c]? = some (step a p.1 c, step b p.2 c) := by
  unfold S2; rw [List.getElem?_map, List.getElem?_range (by omega)]; rfl
def start2 (a b : Aut) : Nat × Nat := (a.s.toNat, b.s.toNat)
def chkD2 (a b : Aut) : Nat := if dchk a ≠ 0 then dchk a else if dchk b ≠ 0 then dchk b else if a.L ≠ b.L then 3 else 0
structure Good2 (a b : Aut) : Prop where
  ga : Good a
  gb : Good b
  eL : a.L = b.L
theorem chkD2_iff {a b : Aut} : chkD2 a b = 0 ↔ Good2 a b := by
  unfold chkD2
  constructor
  · intro h
    split at h
    · omega
    split at h
    · omega
    split at h
    · omega
    rename_i h1 h2 h3
    exact ⟨dchk_iff.1 (by omega), dchk_iff.1 (by omega), by omega⟩
  · intro g
    rw [if_neg (by have := dchk_iff.2 g.ga; omega), if_neg (by have := dchk_iff.2 g.gb; omega), if_neg (by have := g.eL; omega)]
def prodOut (g : Bool → Bool → Bool) (a b : Aut) : Aut × Nat :=
  if chkD2 a b ≠ 0 then (zeroA, chkD2 a b) else
    match found (S2 a b) (start2 a b) with
    | none => (zeroA, 4)
    | some l => (autOf a.L (S2 a b) l (fun p => g (finA a p.1) (finA b p.2)), 0)
theorem prodOut_bad {g : Bool → Bool → Bool} {a b : Aut} (h : chkD2 a b ≠ 0) : prodOut g a b = (zeroA, chkD2 a b) := by unfold prodOut; rw [if_pos h]
theorem prodOut_full {g : Bool → Bool → Bool} {a b : Aut} (h : chkD2 a b = 0) (hf : found (S2 a b) (start2 a b) = none) : prodOut g a b = (zeroA, 4) := by
  unfold prodOut; rw [if_neg (by omega), hf]
theorem prodOut_some {g : Bool → Bool → Bool} {a b : Aut} (h : chkD2 a b = 0) {l : List (Nat × Nat)} (hf : found (S2 a b) (start2 a b) = some l) :
    prodOut g a b = (autOf a.L (S2 a b) l (fun p => g (finA a p.1) (finA b p.2)), 0) := by
  unfold prodOut; rw [if_neg (by omega), hf]
/-- The pairs that are reached are pairs of states. -/
theorem rch_lt {a b : Aut} (g : Good2 a b) {p : Nat × Nat} (h : Rch (S2 a b) (start2 a b) p) : p.1 < a.next.length ∧ p.2 < b.next.length := by
  induction h with
  | base => exact ⟨g.ga.s_lt, g.gb.s_lt⟩
  | next _ ht ih =>
    unfold S2 at ht
    obtain ⟨c, hc, rfl⟩ := List.mem_map.1 ht
    rw [List.mem_range] at hc
    have := g.eL
    exact ⟨g.ga.step_lt ih.1 (by omega), g.gb.step_lt ih.2 (by omega)⟩
theorem S2_len {a b : Aut} (g : Good2 a b) (p : Nat × Nat) : ((S2 a b p).length : Int) = a.L := by
  rw [S2_length]; have := g.ga.l1; omega
/-! ### what exploring gives -/
/-- An automaton of what is found, or none. -/
def explOut {α : Type} [DecidableEq α] (L : Int) (S : α → List α) (a : α) (f : α → Bool) : Aut × Nat :=
  match found S a with
  | none => (zeroA, 4)
  | some l => (autOf L S l f, 0)
theorem explOut_none {α : Type} [DecidableEq α] {L : Int} {S : α → List α} {a : α} {f : α → Bool} (h : found S a = none) : explOut L S a f = (zeroA, 4) := by unfold explOut; rw [h]
theorem explOut_some {α : Type} [DecidableEq α] {L : Int} {S : α → List α} {a : α} {f : α → Bool} {l : List α} (h : found S a = some l) : explOut L S a f = (autOf L S l f, 0) := by unfold explOut; rw [h]
theorem prodOut_expl {g : Bool → Bool → Bool} {a b : Aut} (h : chkD2 a b = 0) : prodOut g a b = explOut a.L (S2 a b) (start2 a b) (fun p => g (finA a p.1) (finA b p.2)) := by
  rcases hf : found (S2 a b) (start2 a b) with _ | l
  · rw [explOut_none hf, prodOut_full h hf]
  · rw [explOut_some hf, prodOut_some h hf]
end Go.Proofs.YtbciefeipiphiaaDoor.Df

namespace Go.Proofs.YtbciefeipiphiaaDoor.Df

theorem nodup_map {α β : Type} {l : List α} (hn : l.Nodup) (f : α → β) (hf : ∀ x ∈ l, ∀ y ∈ l, f x = f y → x = y) : (l.map f).Nodup := by
  rw [List.nodup_iff_pairwise_ne] at hn ⊢
  rw [List.pairwise_map]
  exact List.Pairwise.imp_of_mem (fun {a b} ha hb h e => h (hf a ha b hb e)) hn
/-! ### de Morgan -/
end Go.Proofs.YtbciefeipiphiaaDoor.Df

namespace Go.Proofs.YtbciefeipiphiaaDoor.Rc
open Go.Proofs.YtbciefeipiphiaaDoor.Df Go.Proofs.YtbciefeipiphiaaDoor.Wo

/-- The states that follow a state. -/
def S1 (d : Aut) (q : Nat) : List Nat := (List.range d.L.toNat).map (step d q)
theorem S1_length (d : Aut) (q : Nat) : (S1 d q).length = d.L.toNat := by simp [S1]
theorem S1_get (d : Aut) (q : Nat) {c : Nat} (hc : (c : Int) < d.L) : (S1 d q)[c]? = some (step d q c) := by
  unfold S1; rw [List.getElem?_map, List.getElem?_range (by omega)]; rfl
theorem mem_S1 {d : Aut} {q t : Nat} : t ∈ S1 d q ↔ ∃ c : Nat, (c : Int) < d.L ∧ step d q c = t := by
  unfold S1
  rw [List.mem_map]
  constructor
  · rintro ⟨c, hc, rfl⟩
    rw [List.mem_range] at hc
    exact ⟨c, by omega, rfl⟩
  · rintro ⟨c, hc, rfl⟩
    exact ⟨c, List.mem_range.2 (by omega), rfl⟩
theorem S1_lt {d : Aut} (g : Df.Good d) {q t : Nat} (hq : q < d.next.length) (h : t ∈ S1 d q) : t < d.next.length := by
  obtain ⟨c, hc, rfl⟩ := mem_S1.1 h
  exact g.step_lt hq hc
theorem rch_lt1 {d : Aut} (g : Df.Good d) {s t : Nat} (hs : s < d.next.length) (h : Rch (S1 d) s t) : t < d.next.length := by
  induction h with
  | base => exact hs
  | next _ ht ih => exact S1_lt g ih ht
theorem rch_trans {α : Type} {S : α → List α} {a b c : α} (h : Rch S a b) (h2 : Rch S b c) : Rch S a c := by
  induction h2 with
  | base => exact h
  | next _ ht ih => exact .next ih ht
/-- What is reached is what some word leads to. -/
theorem rch_word {d : Aut} {s t : Nat} : Rch (S1 d) s t ↔ ∃ w, Word d.L w ∧ runA d s w = t := by
  constructor
  · intro h
    induction h with
    | base => exact ⟨[], by intro a ha; simp at ha, rfl⟩
    | next _ ht ih =>
      obtain ⟨w, hw, rfl⟩ := ih
      obtain ⟨c, hc, rfl⟩ := mem_S1.1 ht
      refine ⟨w ++ [(c : Int)], fun a ha => ?_, by rw [runA_append]; rfl⟩
      rcases List.mem_append.1 ha with ha | ha
      · exact hw a ha
      · simp at ha; subst ha; exact ⟨by omega, hc⟩
  · rintro ⟨w, hw, rfl⟩
    have h : ∀ (w : List Int) (q : Nat), Word d.L w → Rch (S1 d) s q → Rch (S1 d) s (runA d q w) := by
      intro w
      induction w with
      | nil => intro q _ h; exact h
      | cons a w ih =>
        intro q hw h
        have ha := hw a List.mem_cons_self
        exact ih _ (fun b hb => hw b (List.mem_cons_of_mem _ hb)) (.next h (mem_S1.2 ⟨a.toNat, by omega, rfl⟩))
    exact h w s hw .base
theorem found1 {d : Aut} (g : Df.Good d) {s : Nat} (hs : s < d.next.length) : ∃ l, found (S1 d) s = some l := by
  rcases found_cases (S1 d) s with ⟨m, h, _⟩ | ⟨_, m, h1, h2, h3⟩
  · exact ⟨m, h⟩
  · have := nodup_le_of h1 id (fun x _ y _ e => e) (fun x hx => rch_lt1 g hs (h3 x hx))
    have := g.n40
    omega
/-- All that is reached from a state, in the order in which it is found. -/
def rset (d : Aut) (s : Nat) : List Nat := (found (S1 d) s).getD []
theorem rset_whole {d : Aut} (g : Df.Good d) {s : Nat} (hs : s < d.next.length) : Whole (S1 d) s (rset d s) := by
  obtain ⟨l, hl⟩ := found1 g hs
  unfold rset; rw [hl]; exact found_whole hl
theorem mem_rset {d : Aut} (g : Df.Good d) {s t : Nat} (hs : s < d.next.length) : t ∈ rset d s ↔ Rch (S1 d) s t := (rset_whole g hs).mem_iff
theorem rset_lt {d : Aut} (g : Df.Good d) {s t : Nat} (hs : s < d.next.length) (h : t ∈ rset d s) : t < d.next.length := rch_lt1 g hs ((mem_rset g hs).1 h)
/-- Reached and Alive: the lists. -/
def upto (n : Nat) (p : Nat → Bool) : List Int := ((List.range n).filter p).map fun (s : Nat) => (s : Int)
theorem upto_succ (n : Nat) (p : Nat → Bool) : upto (n + 1) p = upto n p ++ (if p n = true then [(n : Int)] else []) := by
  unfold upto
  rw [List.range_succ, List.filter_append, List.map_append]
  congr 1
  by_cases h : p n = true
  · simp [h]
  · simp [h]
theorem upto_length (n : Nat) (p : Nat → Bool) : (upto n p).length ≤ n := by
  unfold upto
  rw [List.length_map]
  exact Nat.le_trans (List.length_filter_le _ _) (by simp)
def isReached (d : Aut) (s t : Nat) : Bool := decide (t ∈ rset d s)
def isAlive (d : Aut) (s : Nat) : Bool := (rset d s).any (finA d)
theorem isAlive_iff {d : Aut} (g : Df.Good d) {s : Nat} (hs : s < d.next.length) : isAlive d s = true ↔ ∃ w, Word d.L w ∧ finA d (runA d s w) = true := by
  unfold isAlive
  rw [List.any_eq_true]
  constructor
  · rintro ⟨t, ht, hf⟩
    obtain ⟨w, hw, rfl⟩ := rch_word.1 ((mem_rset g hs).1 ht)
    exact ⟨w, hw, hf⟩
  · rintro ⟨w, hw, hf⟩
    exact ⟨_, (mem_rset g hs).2 (rch_word.2 ⟨w, hw, rfl⟩), hf⟩
/-! ### the table of all pairs -/
/-- By ways through states below k. -/
inductive Via (d : Aut) (k : Nat) : Nat → Nat → Prop
  | refl (i : Nat) : Via d k i i
  | edge {i t : Nat} : t ∈ S1 d i → Via d k i t
  | comp {i m j : Nat} : Via d k i m → m < k → Via d k m j → Via d k i j
theorem via_full {d : Aut} (g : Df.Good d) {i j : Nat} (hi : i < d.next.length) (h : Rch (S1 d) i j) : Via d d.next.length i j := by
  induction h with
  | base => exact .refl i
  | next hr ht ih => exact .comp ih (rch_lt1 g hi hr) (.edge ht)
theorem via_succ {d : Aut} {k i j : Nat} (h : Via d (k + 1) i j) : Via d k i j ∨ (Via d k i k ∧ Via d k k j) := by
  induction h with
  | refl i => exact .inl (.refl i)
  | edge h => exact .inl (.edge h)
  | comp _ hm _ h1 h2 =>
    rename_i i m j _ _
    by_cases e : m = k
    · subst e
      refine .inr ⟨?_, ?_⟩
      · rcases h1 with h1 | h1
        · exact h1
        · exact h1.1
      · rcases h2 with h2 | h2
        · exact h2
        · exact h2.2
    · have hm' : m < k := by omega
      rcases h1 with h1 | ⟨h1, h3⟩
      · rcases h2 with h2 | ⟨h2, h4⟩
        · exact .inl (.comp h1 hm' h2)
        · exact .inr ⟨.comp h1 hm' h2, h4⟩
      · rcases h2 with h2 | ⟨h2, h4⟩
        · exact .inr ⟨h1, .comp h3 hm' h2⟩
        · exact .inr ⟨h1, h4⟩
theorem via_zero {d : Aut} {i j : Nat} (h : Via d 0 i j) : j = i ∨ j ∈ S1 d i := by
  induction h with
  | refl i => exact .inl rfl
  | edge h => exact .inr h
  | comp _ hm _ _ _ => omega
/-- The table, midway: what it has is reached; phase k, all rows below i and of row i all below j have the ways through k too. -/
structure Tabl (d : Aut) (m : Nat → Nat → Bool) (k i j : Nat) : Prop where
  sound : ∀ x y, x < d.next.length → m x y = true → Rch (S1 d) x y
  all : ∀ x y, x < d.next.length → y < d.next.length → Via d k x y → m x y = true
  done : ∀ x y, x < d.next.length → y < d.next.length → (x < i ∨ x = i ∧ y < j) → Via d (k + 1) x y → m x y = true
theorem tabl_step {d : Aut} {m m' : Nat → Nat → Bool} {k i j : Nat} (h : Tabl d m k i j) (hk : k < d.next.length) (hi : i < d.next.length) (hj : j < d.next.length)
    (hm : ∀ x y, m' x y = (m x y || (decide (x = i) && decide (y = j) && m i k && m k j))) : Tabl d m' k i (j + 1) := by
  have up : ∀ x y, m x y = true → m' x y = true := fun x y e => by rw [hm, e]; rfl
  refine ⟨fun x y hx e => ?_, fun x y hx hy e => up _ _ (h.all x y hx hy e), fun x y hx hy hp e => ?_⟩
  · rw [hm] at e
    rcases Bool.or_eq_true _ _ ▸ e with e | e
    · exact h.sound x y hx e
    · simp only [Bool.and_eq_true, decide_eq_true_eq] at e
      obtain ⟨⟨⟨rfl, rfl⟩, e1⟩, e2⟩ := e
      exact rch_trans (h.sound _ _ hi e1) (h.sound _ _ hk e2)
  · by_cases hq : x < i ∨ x = i ∧ y < j
    · exact up _ _ (h.done x y hx hy hq e)
    · have hx' : x = i := by omega
      have hy' : y = j := by omega
      subst hx' hy'
      rcases via_succ e with e | ⟨e1, e2⟩
      · exact up _ _ (h.all x y hx hy e)
      · rw [hm, h.all x k hx hk e1, h.all k y hk hy e2]; simp
theorem tabl_row {d : Aut} {m : Nat → Nat → Bool} {k i : Nat} (h : Tabl d m k i d.next.length) : Tabl d m k (i + 1) 0 :=
  ⟨h.sound, h.all, fun x y hx hy hp e => h.done x y hx hy (by omega) e⟩
theorem tabl_phase {d : Aut} {m : Nat → Nat → Bool} {k : Nat} (h : Tabl d m k d.next.length 0) : Tabl d m (k + 1) 0 0 :=
  ⟨h.sound, fun x y hx hy e => h.done x y hx hy (.inl hx) e, fun x y _ _ hp => by omega⟩
theorem tabl_end {d : Aut} (g : Df.Good d) {m : Nat → Nat → Bool} (h : Tabl d m d.next.length 0 0) {x y : Nat} (hx : x < d.next.length) (hy : y < d.next.length) : m x y = isReached d x y := by
  rw [Bool.eq_iff_iff]
  unfold isReached
  rw [decide_eq_true_eq, mem_rset g hx]
  exact ⟨h.sound x y hx, fun e => h.all x y hx hy (via_full g hx e)⟩
theorem tabl_start {d : Aut} {m : Nat → Nat → Bool} (h : ∀ x y, x < d.next.length → (m x y = true ↔ y = x ∨ y ∈ S1 d x)) : Tabl d m 0 0 0 :=
  ⟨fun x y hx e => by
    rcases (h x y hx).1 e with rfl | e
    · exact .base
    · exact .next .base e, fun x y hx _ e => (h x y hx).2 (via_zero e), fun x y _ _ hp => by omega⟩

/-! ### words by their length -/
/-- Is a final state come to in just k steps? -/
def inK (d : Aut) : Nat → Nat → Bool
  | 0, s => finA d s
  | k + 1, s => (List.range d.L.toNat).any fun a => inK d k (step d s a)
theorem inK_iff {d : Aut} {k s : Nat} : inK d k s = true ↔ ∃ w, Word d.L w ∧ w.length = k ∧ finA d (runA d s w) = true := by
  induction k generalizing s with
  | zero =>
    constructor
    · intro h; exact ⟨[], by intro a ha; simp at ha, rfl, h⟩
    · rintro ⟨w, _, hl, hf⟩
      obtain rfl := List.eq_nil_of_length_eq_zero hl
      exact hf
  | succ k ih =>
    show ((List.range d.L.toNat).any fun a => inK d k (step d s a)) = true ↔ _
    rw [List.any_eq_true]
    constructor
    · rintro ⟨a, ha, h⟩
      obtain ⟨w, hw, hl, hf⟩ := ih.1 h
      rw [List.mem_range] at ha
      refine ⟨(a : Int) :: w, fun b hb => ?_, by simp [hl], hf⟩
      rcases List.mem_cons.1 hb with rfl | hb
      · exact ⟨by omega, by omega⟩
      · exact hw b hb
    · rintro ⟨w, hw, hl, hf⟩
      rcases w with _ | ⟨a, w⟩
      · simp at hl
      · have ha := hw a List.mem_cons_self
        exact ⟨a.toNat, List.mem_range.2 (by omega), ih.2 ⟨w, fun b hb => hw b (List.mem_cons_of_mem _ hb), by simpa using hl, hf⟩⟩
/-- The shortest one is shorter than there are states. -/
theorem short {d : Aut} (g : Df.Good d) {s k : Nat} (hs : s < d.next.length) (h : inK d k s = true) (hmin : ∀ j, j < k → inK d j s = false) : k < d.next.length := by
  obtain ⟨w, hw, hl, hf⟩ := inK_iff.1 h
  have hn : ((List.range (k + 1)).map fun i => runA d s (w.take i)).Nodup := by
    refine nodup_map List.nodup_range _ (fun i hi j hj e => ?_)
    rw [List.mem_range] at hi hj
    have key : ∀ i j : Nat, i < j → j < k + 1 → runA d s (w.take i) = runA d s (w.take j) → False := by
      intro i j hij hj e
      have hf2 : finA d (runA d s (w.take i ++ w.drop j)) = true := by
        rw [runA_append, e, ← runA_append, List.take_append_drop]; exact hf
      have h1 := hmin (w.take i ++ w.drop j).length (by rw [List.length_append, List.length_take, List.length_drop]; omega)
      rw [inK_iff.2 ⟨_, fun a ha => ?_, rfl, hf2⟩] at h1
      · cases h1
      · rcases List.mem_append.1 ha with ha | ha
        · exact hw a (List.mem_of_mem_take ha)
        · exact hw a (List.mem_of_mem_drop ha)
    rcases Nat.lt_trichotomy i j with hlt | he | hlt
    · exact (key i j hlt hj e).elim
    · exact he
    · exact (key j i hlt hi e.symm).elim
  have := nodup_le _ _ hn (fun x hx => by
    obtain ⟨i, _, rfl⟩ := List.mem_map.1 hx
    exact g.run_lt (fun a ha => hw a (List.mem_of_mem_take ha)) hs)
  rw [List.length_map, List.length_range] at this
  omega
/-- How many words of n letters are accepted from a state. -/
def cnt (d : Aut) : Nat → Nat → Nat
  | 0, s => if finA d s = true then 1 else 0
  | k + 1, s => ((List.range d.L.toNat).map fun a => cnt d k (step d s a)).sum
end Go.Proofs.YtbciefeipiphiaaDoor.Rc

namespace Go.Proofs.YtbciefeipiphiaaDoor.Rc
open Go.Proofs.YtbciefeipiphiaaDoor.Df Go.Proofs.YtbciefeipiphiaaDoor.Wo

/-! ### the first word -/
/-- The least one below n that is so. -/
def least (n : Nat) (p : Nat → Bool) : Option Nat := (List.range n).find? p
theorem least_some {n k : Nat} {p : Nat → Bool} (h : least n p = some k) : k < n ∧ p k = true ∧ ∀ j, j < k → p j = false := by
  unfold least at h
  have h1 := List.find?_some h
  have h2 := List.mem_of_find?_eq_some h
  rw [List.mem_range] at h2
  refine ⟨h2, h1, fun j hj => ?_⟩
  obtain ⟨h3, as, bs, h4, h5⟩ := List.find?_eq_some_iff_append.1 h
  have h6 : as.length = k := by
    have e : (List.range n)[as.length]? = some k := by rw [h4, List.getElem?_append_right (Nat.le_refl _)]; simp
    obtain ⟨h7, h8⟩ := List.getElem?_eq_some_iff.1 e
    simpa using h8
  have h9 : as[j]? = some j := by
    have e : (List.range n)[j]? = some j := List.getElem?_range (by omega)
    rw [h4, List.getElem?_append_left (by omega)] at e
    exact e
  have := h5 j (List.mem_of_getElem? h9)
  simpa using this
theorem least_none {n : Nat} {p : Nat → Bool} (h : least n p = none) {j : Nat} (hj : j < n) : p j = false := by
  unfold least at h
  have := List.find?_eq_none.1 h j (List.mem_range.2 hj)
  simpa using this
theorem least_is {n k : Nat} {p : Nat → Bool} (hk : k < n) (hp : p k = true) (hmin : ∀ j, j < k → p j = false) : least n p = some k := by
  rcases h : least n p with _ | m
  · rw [least_none h hk] at hp; cases hp
  · obtain ⟨h1, h2, h3⟩ := least_some h
    rcases Nat.lt_trichotomy m k with hlt | rfl | hlt
    · rw [hmin m hlt] at h2; cases h2
    · rfl
    · rw [h3 k hlt] at hp; cases hp
/-- The first of the words of k letters that are accepted from a state. -/
def pick (d : Aut) : Nat → Nat → List Int
  | 0, _ => []
  | k + 1, s => match least d.L.toNat (fun a => inK d k (step d s a)) with
    | none => []
    | some a => (a : Int) :: pick d k (step d s a)
theorem least_letter {d : Aut} {k s : Nat} (h : inK d (k + 1) s = true) : ∃ a, least d.L.toNat (fun a => inK d k (step d s a)) = some a := by
  rcases hl : least d.L.toNat (fun a => inK d k (step d s a)) with _ | a
  · have h' : ((List.range d.L.toNat).any fun a => inK d k (step d s a)) = true := h
    obtain ⟨a, ha, hp⟩ := List.any_eq_true.1 h'
    rw [List.mem_range] at ha
    have hz : inK d k (step d s a) = false := least_none hl ha
    rw [hz] at hp; cases hp
  · exact ⟨a, rfl⟩
theorem pick_succ {d : Aut} {k s a : Nat} (h : least d.L.toNat (fun a => inK d k (step d s a)) = some a) : pick d (k + 1) s = (a : Int) :: pick d k (step d s a) := by
  rw [pick, h]
theorem pick_ok {d : Aut} {k s : Nat} (h : inK d k s = true) : Word d.L (pick d k s) ∧ (pick d k s).length = k ∧ finA d (runA d s (pick d k s)) = true := by
  induction k generalizing s with
  | zero => exact ⟨by intro a ha; simp [pick] at ha, rfl, h⟩
  | succ k ih =>
    obtain ⟨a, ha⟩ := least_letter h
    obtain ⟨h1, h2, _⟩ := least_some ha
    obtain ⟨h3, h4, h5⟩ := ih h2
    rw [pick_succ ha]
    refine ⟨fun b hb => ?_, by simp [h4], h5⟩
    rcases List.mem_cons.1 hb with rfl | hb
    · exact ⟨by omega, by omega⟩
    · exact h3 b hb
theorem pick_least {d : Aut} {k s : Nat} (h : inK d k s = true) {v : List Int} (hv : Word d.L v) (hl : v.length = k) (hf : finA d (runA d s v) = true) : lx v (pick d k s) = false := by
  induction k generalizing s v with
  | zero =>
    obtain rfl := List.eq_nil_of_length_eq_zero hl
    rfl
  | succ k ih =>
    obtain ⟨a, ha⟩ := least_letter h
    obtain ⟨h1, h2, h3⟩ := least_some ha
    rcases v with _ | ⟨b, v⟩
    · simp at hl
    have hb := hv b List.mem_cons_self
    have hv' : Word d.L v := fun c hc => hv c (List.mem_cons_of_mem _ hc)
    have hl' : v.length = k := by simpa using hl
    have hf' : finA d (runA d (step d s b.toNat) v) = true := hf
    have hb2 : inK d k (step d s b.toNat) = true := inK_iff.2 ⟨v, hv', hl', hf'⟩
    rw [pick_succ ha, lx]
    by_cases e : b = (a : Int)
    · rw [if_pos e]
      subst e
      exact ih h2 hv' hl' hf'
    · rw [if_neg e]
      refine decide_eq_false (fun hlt => ?_)
      have := h3 b.toNat (by omega)
      rw [this] at hb2; cases hb2
/-- The first word that is accepted from a state: among those of at most as many letters as there are states. -/
def firstW (d : Aut) (s : Nat) : Option (List Int) := (least (d.next.length + 1) (fun k => inK d k s)).map (fun k => pick d k s)
theorem firstW_none {d : Aut} (g : Df.Good d) {s : Nat} (hs : s < d.next.length) (h : firstW d s = none) {v : List Int} (hv : Word d.L v) : finA d (runA d s v) = false := by
  have hn : least (d.next.length + 1) (fun k => inK d k s) = none := by
    unfold firstW at h
    simpa using h
  rcases hf : finA d (runA d s v) with _ | _
  · rfl
  · exfalso
    have h0 : inK d v.length s = true := inK_iff.2 ⟨v, hv, rfl, hf⟩
    obtain ⟨k, hk⟩ : ∃ k, least (v.length + 1) (fun k => inK d k s) = some k := by
      rcases hl : least (v.length + 1) (fun k => inK d k s) with _ | k
      · have hz : inK d v.length s = false := least_none hl (Nat.lt_succ_self _)
        rw [hz] at h0; cases h0
      · exact ⟨k, rfl⟩
    obtain ⟨_, h2, h3⟩ := least_some hk
    have := short g hs h2 h3
    have hz : inK d k s = false := least_none hn (by omega)
    rw [hz] at h2; cases h2
theorem firstW_some {d : Aut} (g : Df.Good d) {s : Nat} (hs : s < d.next.length) {w : List Int} (h : firstW d s = some w) :
    Word d.L w ∧ w.length < d.next.length ∧ finA d (runA d s w) = true ∧ ∀ v, Word d.L v → finA d (runA d s v) = true → lss v w = false := by
  unfold firstW at h
  obtain ⟨k, hk, rfl⟩ := Option.map_eq_some_iff.1 h
  obtain ⟨_, h2, h3⟩ := least_some hk
  obtain ⟨p1, p2, p3⟩ := pick_ok h2
  refine ⟨p1, by rw [p2]; exact short g hs h2 h3, p3, fun v hv hf => ?_⟩
  unfold lss
  rw [p2]
  by_cases e : v.length = k
  · rw [if_pos e]; exact pick_least h2 hv e hf
  · rw [if_neg e]
    refine decide_eq_false (fun hlt => ?_)
    have hz : inK d v.length s = false := h3 _ hlt
    rw [inK_iff.2 ⟨v, hv, rfl, hf⟩] at hz; cases hz
/-- There is one first word only. -/
theorem firstW_unique {d : Aut} (g : Df.Good d) {s : Nat} (hs : s < d.next.length) {w : List Int} (hw : Word d.L w) (hf : finA d (runA d s w) = true) (hmin : ∀ v, Word d.L v → finA d (runA d s v) = true → lss v w = false) : firstW d s = some w := by
  rcases h : firstW d s with _ | u
  · rw [firstW_none g hs h hw] at hf; cases hf
  · obtain ⟨h1, _, h3, h4⟩ := firstW_some g hs h
    rw [lss_total (h4 w hw hf) (hmin u h1 h3)]
theorem firstW_is_none {d : Aut} (g : Df.Good d) {s : Nat} (hs : s < d.next.length) (h : ∀ v, Word d.L v → finA d (runA d s v) = false) : firstW d s = none := by
  rcases hf : firstW d s with _ | u
  · rfl
  · obtain ⟨h1, _, h3, _⟩ := firstW_some g hs hf
    rw [h u h1] at h3; cases h3

/-! ### counts -/
/-! ### trimmed -/
def trimA (d : Aut) : Aut := autOf d.L (S1 d) (rset d d.s.toNat) (finA d)
theorem S1_len {d : Aut} (g : Df.Good d) (q : Nat) : ((S1 d q).length : Int) = d.L := by rw [S1_length]; have := g.l1; omega
theorem trim_good {d : Aut} (g : Df.Good d) : Df.Good (trimA d) := autOf_good (rset_whole g g.s_lt) g.l1 g.l6 (fun x _ => S1_len g x)
theorem via1 {d : Aut} (q : Nat) {c : Nat} (hc : (c : Int) < d.L) : via (S1 d) q c = step d q c := by unfold via; rw [S1_get d q hc]; rfl
theorem viaAll1 {d : Aut} {w : List Int} (hw : Word d.L w) (q : Nat) : viaAll (S1 d) q w = runA d q w := by
  induction w generalizing q with
  | nil => rfl
  | cons x w ih =>
    have hx := hw x List.mem_cons_self
    show viaAll _ (via _ _ _) w = _
    rw [ih (fun y hy => hw y (List.mem_cons_of_mem _ hy)), via1 q (by omega)]; rfl
theorem trim_acc {d : Aut} (g : Df.Good d) {w : List Int} (hw : Word d.L w) : accA (trimA d) w = accA d w := by
  unfold trimA
  rw [autOf_acc (rset_whole g g.s_lt) (fun x _ => S1_len g x) hw, viaAll1 hw]; rfl
/-- What is numbered by what is found is found again in the order of its numbers. -/
theorem addTo_map {α β : Type} [DecidableEq α] [DecidableEq β] {l : List α} {t : α} {φ : α → β} {m : List α} (hi : ∀ x ∈ m, ∀ y ∈ m, φ x = φ y → x = y) (hl : ∀ x ∈ l, x ∈ m) (ht : t ∈ m) : addTo (l.map φ) (φ t) = (addTo l t).map φ := by
  unfold addTo
  by_cases h : t ∈ l
  · rw [if_pos h, if_pos (List.mem_map.2 ⟨t, h, rfl⟩)]
  · rw [if_neg h, if_neg (fun k => ?_), List.map_append]; rfl
    obtain ⟨y, hy, e⟩ := List.mem_map.1 k
    exact h (hi y (hl y hy) t ht e ▸ hy)
theorem addAll_map {α β : Type} [DecidableEq α] [DecidableEq β] {l ts : List α} {φ : α → β} {m : List α} (hi : ∀ x ∈ m, ∀ y ∈ m, φ x = φ y → x = y) (hl : ∀ x ∈ l, x ∈ m) (ht : ∀ t ∈ ts, t ∈ m) : addAll (l.map φ) (ts.map φ) = (addAll l ts).map φ := by
  induction ts generalizing l with
  | nil => rfl
  | cons t ts ih =>
    show addAll (addTo (l.map φ) (φ t)) (ts.map φ) = (addAll (addTo l t) ts).map φ
    rw [addTo_map hi hl (ht t List.mem_cons_self)]
    refine ih (fun x hx => ?_) (fun y hy => ht y (List.mem_cons_of_mem _ hy))
    rcases mem_addTo.1 hx with h | rfl
    · exact hl x h
    · exact ht _ List.mem_cons_self
theorem S1_autOf {α : Type} [DecidableEq α] {L : Int} {S : α → List α} {a : α} {l : List α} {f : α → Bool} (h : Whole S a l) (hS : ∀ x ∈ l, ((S x).length : Int) = L) {x : α} (hx : x ∈ l) : S1 (autOf L S l f) (num l x) = (S x).map (num l) := by
  have hl := hS x hx
  refine List.ext_getElem? fun c => ?_
  rw [List.getElem?_map]
  by_cases hc : (c : Int) < L
  · rw [S1_get (autOf L S l f) (num l x) (c := c) hc]
    obtain ⟨_, h2⟩ := autOf_step (f := f) h hS hx (c := c) hc
    have hc' : c < (S x).length := by omega
    have : via S x c = (S x)[c] := by unfold via; rw [List.getElem?_eq_getElem hc']; rfl
    rw [h2, this, List.getElem?_eq_getElem hc', Option.map_some]
  · rw [List.getElem?_eq_none (by rw [S1_length]; show L.toNat ≤ c; omega), List.getElem?_eq_none (by omega)]; rfl
theorem expl_map {α : Type} [DecidableEq α] {L : Int} {S : α → List α} {a : α} {l : List α} {f : α → Bool} (h : Whole S a l) (hS : ∀ x ∈ l, ((S x).length : Int) = L) :
    ∀ (n i : Nat) (k : List α), expl S n i k = some l → (∀ x ∈ k, x ∈ l) → expl (S1 (autOf L S l f)) n i (k.map (num l)) = some (l.map (num l)) := by
  have hi : ∀ x ∈ l, ∀ y ∈ l, num l x = num l y → x = y := fun x hx y hy e => by
    have h1 := idx_get hx
    rw [e, idx_get hy] at h1
    exact (Option.some.inj h1).symm
  intro n
  induction n with
  | zero =>
    intro i k e _
    rw [expl] at e ⊢
    obtain rfl := Option.some.inj e
    rfl
  | succ n ih =>
    intro i k e hk
    rcases hx : k[i]? with _ | x
    · rw [expl, hx] at e
      rw [expl, List.getElem?_map, hx]
      obtain rfl := Option.some.inj e
      rfl
    · have hm := hk x (List.mem_of_getElem? hx)
      rw [expl, hx] at e
      rw [expl, List.getElem?_map, hx]
      simp only [Option.map_some] at e ⊢
      rw [S1_autOf h hS hm, addAll_map hi hk (h.closed x hm), List.length_map]
      by_cases hl : 40 < (addAll k (S x)).length
      · rw [if_pos hl] at e; cases e
      · rw [if_neg hl] at e ⊢
        refine ih _ _ e (fun y hy => ?_)
        rcases mem_addAll.1 hy with hy | hy
        · exact hk y hy
        · exact h.closed x hm y hy
theorem map_num {α : Type} [DecidableEq α] {l : List α} (hn : l.Nodup) : l.map (num l) = List.range l.length := by
  refine List.ext_getElem? fun k => ?_
  rw [List.getElem?_map]
  by_cases hk : k < l.length
  · rw [List.getElem?_range hk, List.getElem?_eq_getElem hk, Option.map_some, idx_of hn (List.getElem?_eq_getElem hk)]
  · rw [List.getElem?_eq_none (by omega), List.getElem?_eq_none (by simp; omega)]; rfl
theorem rset_trim {d : Aut} (g : Df.Good d) : rset (trimA d) 0 = List.range (rset d d.s.toNat).length := by
  have hw := rset_whole g g.s_lt
  obtain ⟨l, hl⟩ := found1 g g.s_lt
  have hr : rset d d.s.toNat = l := by unfold rset; rw [hl]; rfl
  have he : expl (S1 d) 41 0 [d.s.toNat] = some l := hl
  have hs : d.s.toNat ∈ l := by rw [← hr]; exact List.mem_of_getElem? hw.hd
  rw [hr] at hw
  have h1 := expl_map (L := d.L) (f := finA d) hw (fun x _ => S1_len g x) 41 0 [d.s.toNat] he (fun x hx => by simp at hx; subst hx; exact hs)
  rw [List.map_singleton, idx_of hw.nd hw.hd, map_num hw.nd] at h1
  have h2 : found (S1 (trimA d)) 0 = some (List.range l.length) := by
    show expl (S1 (autOf d.L (S1 d) (rset d d.s.toNat) (finA d))) 41 0 [0] = _
    rw [hr]; exact h1
  unfold rset
  rw [h2]
  show List.range l.length = _
  unfold rset at hr
  rw [hr]
end Go.Proofs.YtbciefeipiphiaaDoor.Rc

namespace Go.Proofs.YtbciefeipiphiaaDoor.Sm
open Go.Proofs.YtbciefeipiphiaaDoor.Df Go.Proofs.YtbciefeipiphiaaDoor.Wo Go.Proofs.YtbciefeipiphiaaDoor.Rc

/-! ### a system of n states: how far two states are alike -/
/-- A word leads on. -/
def runF (σ : Nat → Nat → Nat) (x : Nat) (w : List Nat) : Nat := w.foldl σ x
/-- Told apart by a word of just k letters below L. -/
def apF (L : Nat) (σ : Nat → Nat → Nat) (φ : Nat → Bool) : Nat → Nat → Nat → Bool
  | 0, x, y => φ x != φ y
  | k + 1, x, y => (List.range L).any fun c => apF L σ φ k (σ x c) (σ y c)
theorem apF_iff {L : Nat} {σ : Nat → Nat → Nat} {φ : Nat → Bool} {k x y : Nat} : apF L σ φ k x y = true ↔ ∃ w : List Nat, (∀ a ∈ w, a < L) ∧ w.length = k ∧ φ (runF σ x w) ≠ φ (runF σ y w) := by
  induction k generalizing x y with
  | zero =>
    show (φ x != φ y) = true ↔ _
    rw [bne_iff_ne]
    constructor
    · intro h; exact ⟨[], by simp, rfl, h⟩
    · rintro ⟨w, _, hl, h⟩
      obtain rfl := List.eq_nil_of_length_eq_zero hl
      exact h
  | succ k ih =>
    show ((List.range L).any fun c => apF L σ φ k (σ x c) (σ y c)) = true ↔ _
    rw [List.any_eq_true]
    constructor
    · rintro ⟨c, hc, h⟩
      obtain ⟨w, hw, hl, h2⟩ := ih.1 h
      refine ⟨c :: w, fun a ha => ?_, by simp [hl], h2⟩
      rcases List.mem_cons.1 ha with rfl | ha
      · exact List.mem_range.1 hc
      · exact hw a ha
    · rintro ⟨w, hw, hl, h2⟩
      rcases w with _ | ⟨c, w⟩
      · simp at hl
      · exact ⟨c, List.mem_range.2 (hw c List.mem_cons_self), ih.2 ⟨w, fun a ha => hw a (List.mem_cons_of_mem _ ha), by simpa using hl, h2⟩⟩
section
variable {L : Nat} {σ : Nat → Nat → Nat} {φ : Nat → Bool}
theorem apF_false {k x y : Nat} : apF L σ φ k x y = false ↔ ∀ w : List Nat, (∀ a ∈ w, a < L) → w.length = k → φ (runF σ x w) = φ (runF σ y w) := by
  constructor
  · intro h w hw hl
    rcases Decidable.em (φ (runF σ x w) = φ (runF σ y w)) with e | e
    · exact e
    · rw [apF_iff.2 ⟨w, hw, hl, e⟩] at h; cases h
  · intro h
    rcases e : apF L σ φ k x y with _ | _
    · rfl
    · obtain ⟨w, hw, hl, h2⟩ := apF_iff.1 e
      exact absurd (h w hw hl) h2
/-- Alike as far as all words shorter than k. -/
def relF (L : Nat) (σ : Nat → Nat → Nat) (φ : Nat → Bool) (k x y : Nat) : Bool := (List.range k).all fun j => !apF L σ φ j x y
theorem relF_iff {k x y : Nat} : relF L σ φ k x y = true ↔ ∀ j, j < k → apF L σ φ j x y = false := by
  unfold relF
  rw [List.all_eq_true]
  constructor
  · intro h j hj
    have := h j (List.mem_range.2 hj)
    simpa using this
  · intro h j hj
    rw [h j (List.mem_range.1 hj)]; rfl
theorem relF_refl (k x : Nat) : relF L σ φ k x x = true := relF_iff.2 fun _ _ => apF_false.2 fun _ _ _ => rfl
theorem relF_symm {k x y : Nat} (h : relF L σ φ k x y = true) : relF L σ φ k y x = true := relF_iff.2 fun j hj => apF_false.2 fun w hw hl => ((apF_false.1 (relF_iff.1 h j hj)) w hw hl).symm
theorem relF_trans {k x y z : Nat} (h1 : relF L σ φ k x y = true) (h2 : relF L σ φ k y z = true) : relF L σ φ k x z = true :=
  relF_iff.2 fun j hj => apF_false.2 fun w hw hl => ((apF_false.1 (relF_iff.1 h1 j hj)) w hw hl).trans ((apF_false.1 (relF_iff.1 h2 j hj)) w hw hl)
theorem relF_less {k j x y : Nat} (h : relF L σ φ k x y = true) (hj : j ≤ k) : relF L σ φ j x y = true := relF_iff.2 fun i hi => relF_iff.1 h i (by omega)
/-- The first one of its kind. -/
def repF (L : Nat) (σ : Nat → Nat → Nat) (φ : Nat → Bool) (k x : Nat) : Bool := (List.range x).all fun y => !relF L σ φ k y x
theorem repF_iff {k x : Nat} : repF L σ φ k x = true ↔ ∀ y, y < x → relF L σ φ k y x = false := by
  unfold repF
  rw [List.all_eq_true]
  constructor
  · intro h y hy
    have := h y (List.mem_range.2 hy)
    simpa using this
  · intro h y hy
    rw [h y (List.mem_range.1 hy)]; rfl
/-- Each one has a first one of its kind. -/
theorem rep_of (k : Nat) : ∀ x, ∃ y, y ≤ x ∧ relF L σ φ k y x = true ∧ repF L σ φ k y = true := by
  intro x
  induction x using Nat.strongRecOn with
  | ind x ih =>
    by_cases h : repF L σ φ k x = true
    · exact ⟨x, Nat.le_refl _, relF_refl _ _, h⟩
    · have h' : ¬ ∀ y, y < x → relF L σ φ k y x = false := fun q => h (repF_iff.2 q)
      obtain ⟨y, hy⟩ := Classical.not_forall.1 h'
      obtain ⟨hy1, hy2⟩ := Classical.not_imp.1 hy
      obtain ⟨z, hz1, hz2, hz3⟩ := ih y hy1
      have hyx : relF L σ φ k y x = true := by
        rcases e : relF L σ φ k y x with _ | _
        · exact absurd e hy2
        · rfl
      exact ⟨z, by omega, relF_trans hz2 hyx, hz3⟩
theorem rep_unique {k x y : Nat} (hx : repF L σ φ k x = true) (hy : repF L σ φ k y = true) (h : relF L σ φ k x y = true) : x = y := by
  rcases Nat.lt_trichotomy x y with hlt | e | hlt
  · rw [repF_iff.1 hy x hlt] at h; cases h
  · exact e
  · have h' := relF_symm h
    rw [repF_iff.1 hx y hlt] at h'; cases h'
theorem relF_up {k x y : Nat} (h : relF L σ φ k x y = true) (ha : apF L σ φ k x y = false) : relF L σ φ (k + 1) x y = true := relF_iff.2 fun j hj => by
  rcases Nat.lt_or_eq_of_le (Nat.le_of_lt_succ hj) with h1 | rfl
  · exact relF_iff.1 h j h1
  · exact ha
theorem relF_down {k x y : Nat} (ha : apF L σ φ k x y = true) : relF L σ φ (k + 1) x y = false := by
  rcases e : relF L σ φ (k + 1) x y with _ | _
  · rfl
  · rw [relF_iff.1 e k (by omega)] at ha; cases ha
theorem repF_up {k x : Nat} (h : repF L σ φ k x = true) : repF L σ φ (k + 1) x = true := repF_iff.2 fun y hy => by
  rcases e : relF L σ φ (k + 1) y x with _ | _
  · rfl
  · have := repF_iff.1 h y hy
    rw [relF_less e (by omega)] at this; cases this
theorem filter_lt {α : Type} {l : List α} {p q : α → Bool} (h : ∀ x ∈ l, p x = true → q x = true) {z : α} (hz : z ∈ l) (hq : q z = true) (hp : p z = false) : (l.filter p).length < (l.filter q).length := by
  induction l with
  | nil => cases hz
  | cons a l ih =>
    have hle : (l.filter p).length ≤ (l.filter q).length := by
      clear ih hz
      induction l with
      | nil => simp
      | cons b l ih =>
        have hb := h b (by simp)
        have := ih (fun x hx => h x (by rcases List.mem_cons.1 hx with rfl | hx <;> simp_all))
        rcases e : p b with _ | _ <;> rcases e2 : q b with _ | _ <;> simp_all <;> omega
    rcases List.mem_cons.1 hz with rfl | hz'
    · simp [hp, hq]; omega
    · have := ih (fun x hx => h x (List.mem_cons_of_mem _ hx)) hz'
      have ha := h a List.mem_cons_self
      rcases e : p a with _ | _ <;> rcases e2 : q a with _ | _ <;> simp_all <;> omega
/-- How many kinds there are at level k. -/
def kinds (L : Nat) (σ : Nat → Nat → Nat) (φ : Nat → Bool) (N k : Nat) : Nat := ((List.range N).filter (repF L σ φ k)).length
theorem kinds_step {N k x y : Nat} (hx : x < N) (hy : y < N) (h : relF L σ φ k x y = true) (ha : apF L σ φ k x y = true) : kinds L σ φ N k < kinds L σ φ N (k + 1) := by
  obtain ⟨x', hx1, hx2, hx3⟩ := rep_of (L := L) (σ := σ) (φ := φ) (k + 1) x
  obtain ⟨y', hy1, hy2, hy3⟩ := rep_of (L := L) (σ := σ) (φ := φ) (k + 1) y
  have hne : x' ≠ y' := by
    rintro rfl
    have := relF_trans (relF_symm hx2) hy2
    rw [relF_down ha] at this; cases this
  have hal : relF L σ φ k x' y' = true := relF_trans (relF_trans (relF_less hx2 (by omega)) h) (relF_symm (relF_less hy2 (by omega)))
  unfold kinds
  rcases e : repF L σ φ k x' with _ | _
  · exact filter_lt (fun z _ hz => repF_up hz) (List.mem_range.2 (by omega)) hx3 e
  · rcases e2 : repF L σ φ k y' with _ | _
    · exact filter_lt (fun z _ hz => repF_up hz) (List.mem_range.2 (by omega)) hy3 e2
    · exact absurd (rep_unique e e2 hal) hne
theorem kinds_le (N k : Nat) : kinds L σ φ N k ≤ N := by
  have := List.length_filter_le (repF L σ φ k) (List.range N)
  simpa [kinds] using this
theorem kinds_zero {N : Nat} (h : 0 < N) : 1 ≤ kinds L σ φ N 0 := by
  have h0 : (0 : Nat) ∈ (List.range N).filter (repF L σ φ 0) := List.mem_filter.2 ⟨List.mem_range.2 h, rfl⟩
  exact List.length_pos_of_mem h0
/-- At every level below the least that tells them apart, some two are newly told apart. -/
theorem chain {N : Nat} (hσ : ∀ x c, x < N → c < L → σ x c < N) {m : Nat} : ∀ {x y : Nat}, x < N → y < N → relF L σ φ m x y = true → apF L σ φ m x y = true →
    ∀ j, j ≤ m → ∃ x' y', x' < N ∧ y' < N ∧ relF L σ φ j x' y' = true ∧ apF L σ φ j x' y' = true := by
  induction m with
  | zero =>
    intro x y hx hy h ha j hj
    obtain rfl : j = 0 := by omega
    exact ⟨x, y, hx, hy, h, ha⟩
  | succ m ih =>
    intro x y hx hy h ha j hj
    rcases Nat.lt_or_eq_of_le hj with h1 | rfl
    · have ha' : ((List.range L).any fun c => apF L σ φ m (σ x c) (σ y c)) = true := ha
      obtain ⟨c, hc, hm⟩ := List.any_eq_true.1 ha'
      have hc' := List.mem_range.1 hc
      refine ih (hσ x c hx hc') (hσ y c hy hc') (relF_iff.2 fun i hi => ?_) hm j (by omega)
      rcases e : apF L σ φ i (σ x c) (σ y c) with _ | _
      · rfl
      · have : apF L σ φ (i + 1) x y = true := List.any_eq_true.2 ⟨c, hc, e⟩
        rw [relF_iff.1 h (i + 1) (by omega)] at this; cases this
    · exact ⟨x, y, hx, hy, h, ha⟩
theorem kinds_many {N : Nat} (hN : 0 < N) {m : Nat} (h : ∀ j, j ≤ m → ∃ x' y', x' < N ∧ y' < N ∧ relF L σ φ j x' y' = true ∧ apF L σ φ j x' y' = true) : m + 2 ≤ kinds L σ φ N (m + 1) := by
  induction m with
  | zero =>
    obtain ⟨x, y, hx, hy, h1, h2⟩ := h 0 (by omega)
    have := kinds_step hx hy h1 h2
    have := kinds_zero (L := L) (σ := σ) (φ := φ) hN
    simp only [Nat.zero_add] at *; omega
  | succ m ih =>
    obtain ⟨x, y, hx, hy, h1, h2⟩ := h (m + 1) (by omega)
    have := kinds_step hx hy h1 h2
    have := ih (fun j hj => h j (by omega))
    omega
theorem least_apart {x y k : Nat} (h : apF L σ φ k x y = true) : ∃ m, m ≤ k ∧ relF L σ φ m x y = true ∧ apF L σ φ m x y = true := by
  induction k using Nat.strongRecOn with
  | ind k ih =>
    by_cases hr : relF L σ φ k x y = true
    · exact ⟨k, Nat.le_refl _, hr, h⟩
    · have : ¬ ∀ j, j < k → apF L σ φ j x y = false := fun q => hr (relF_iff.2 q)
      obtain ⟨j, hj⟩ := Classical.not_forall.1 this
      obtain ⟨h1, h2⟩ := Classical.not_imp.1 hj
      obtain ⟨m, hm, h3⟩ := ih j h1 (by rcases e : apF L σ φ j x y with _ | _; exact absurd e h2; rfl)
      exact ⟨m, by omega, h3⟩
/-- Two of N that are told apart at all are told apart by a word of at most N less two letters. -/
theorem apart_short {N : Nat} (hσ : ∀ x c, x < N → c < L → σ x c < N) {x y k : Nat} (hx : x < N) (hy : y < N) (h : apF L σ φ k x y = true) : ∃ m, m ≤ k ∧ m + 2 ≤ N ∧ relF L σ φ m x y = true ∧ apF L σ φ m x y = true := by
  obtain ⟨m, hm, h1, h2⟩ := least_apart h
  have := kinds_many (by omega : 0 < N) (chain hσ hx hy h1 h2)
  have := kinds_le (L := L) (σ := σ) (φ := φ) N (m + 1)
  exact ⟨m, hm, by omega, h1, h2⟩
end
end Go.Proofs.YtbciefeipiphiaaDoor.Sm

namespace Go.Proofs.YtbciefeipiphiaaDoor.Sm
open Go.Proofs.YtbciefeipiphiaaDoor.Df Go.Proofs.YtbciefeipiphiaaDoor.Wo Go.Proofs.YtbciefeipiphiaaDoor.Rc

/-! ### two automata, read side by side -/
/-- Told apart by a word of just k letters. -/
def ap2 (a b : Aut) : Nat → Nat → Nat → Bool
  | 0, x, y => finA a x != finA b y
  | k + 1, x, y => (List.range a.L.toNat).any fun c => ap2 a b k (step a x c) (step b y c)
theorem ap2_iff {a b : Aut} {k x y : Nat} : ap2 a b k x y = true ↔ ∃ w, Word a.L w ∧ w.length = k ∧ finA a (runA a x w) ≠ finA b (runA b y w) := by
  induction k generalizing x y with
  | zero =>
    show (finA a x != finA b y) = true ↔ _
    rw [bne_iff_ne]
    constructor
    · intro h; exact ⟨[], by intro a ha; simp at ha, rfl, h⟩
    · rintro ⟨w, _, hl, hf⟩
      obtain rfl := List.eq_nil_of_length_eq_zero hl
      exact hf
  | succ k ih =>
    show ((List.range a.L.toNat).any fun c => ap2 a b k (step a x c) (step b y c)) = true ↔ _
    rw [List.any_eq_true]
    constructor
    · rintro ⟨c, hc, h⟩
      obtain ⟨w, hw, hl, hf⟩ := ih.1 h
      rw [List.mem_range] at hc
      refine ⟨(c : Int) :: w, fun e he => ?_, by simp [hl], hf⟩
      rcases List.mem_cons.1 he with rfl | he
      · exact ⟨by omega, by omega⟩
      · exact hw e he
    · rintro ⟨w, hw, hl, hf⟩
      rcases w with _ | ⟨c, w⟩
      · simp at hl
      · have hc := hw c List.mem_cons_self
        exact ⟨c.toNat, List.mem_range.2 (by omega), ih.2 ⟨w, fun e he => hw e (List.mem_cons_of_mem _ he), by simpa using hl, hf⟩⟩
theorem ap2_false {a b : Aut} {k x y : Nat} : ap2 a b k x y = false ↔ ∀ w, Word a.L w → w.length = k → finA a (runA a x w) = finA b (runA b y w) := by
  constructor
  · intro h w hw hl
    rcases Decidable.em (finA a (runA a x w) = finA b (runA b y w)) with e | e
    · exact e
    · rw [ap2_iff.2 ⟨w, hw, hl, e⟩] at h; cases h
  · intro h
    rcases e : ap2 a b k x y with _ | _
    · rfl
    · obtain ⟨w, hw, hl, h2⟩ := ap2_iff.1 e
      exact absurd (h w hw hl) h2
/-- Both in one system: those of b come after those of a. -/
def sig (a b : Aut) (x c : Nat) : Nat := if x < a.next.length then step a x c else a.next.length + step b (x - a.next.length) c
def phi (a b : Aut) (x : Nat) : Bool := if x < a.next.length then finA a x else finA b (x - a.next.length)
theorem sig_l {a b : Aut} {x c : Nat} (hx : x < a.next.length) : sig a b x c = step a x c := if_pos hx
theorem sig_r {a b : Aut} {y c : Nat} : sig a b (a.next.length + y) c = a.next.length + step b y c := by
  unfold sig; rw [if_neg (by omega)]; congr 2; omega
theorem phi_l {a b : Aut} {x : Nat} (hx : x < a.next.length) : phi a b x = finA a x := if_pos hx
theorem phi_r {a b : Aut} {y : Nat} : phi a b (a.next.length + y) = finA b y := by
  unfold phi; rw [if_neg (by omega)]; congr 1; omega
theorem any_congr' {α : Type} {l : List α} {p q : α → Bool} (h : ∀ x ∈ l, p x = q x) : l.any p = l.any q := by
  induction l with
  | nil => rfl
  | cons a l ih => simp only [List.any_cons]; rw [h a List.mem_cons_self, ih fun x hx => h x (List.mem_cons_of_mem _ hx)]
theorem ap2_union {a b : Aut} (g : Good2 a b) {k x y : Nat} (hx : x < a.next.length) : ap2 a b k x y = apF a.L.toNat (sig a b) (phi a b) k x (a.next.length + y) := by
  have h1 := g.ga.l1
  induction k generalizing x y with
  | zero =>
    show (finA a x != finA b y) = (phi a b x != phi a b (a.next.length + y))
    rw [phi_l hx, phi_r]
  | succ k ih =>
    show ((List.range a.L.toNat).any fun c => ap2 a b k (step a x c) (step b y c)) = ((List.range a.L.toNat).any fun c => apF a.L.toNat (sig a b) (phi a b) k (sig a b x c) (sig a b (a.next.length + y) c))
    refine any_congr' fun c hc => ?_
    have hc' := List.mem_range.1 hc
    rw [sig_l hx, sig_r]
    exact ih (g.ga.step_lt hx (by omega))
theorem ap2_self {a : Aut} {k x y : Nat} : ap2 a a k x y = apF a.L.toNat (step a) (finA a) k x y := by
  induction k generalizing x y with
  | zero => rfl
  | succ k ih =>
    show ((List.range a.L.toNat).any fun c => ap2 a a k (step a x c) (step a y c)) = ((List.range a.L.toNat).any fun c => apF a.L.toNat (step a) (finA a) k (step a x c) (step a y c))
    exact any_congr' fun c _ => ih
/-- Two states of two automata that are told apart at all are told apart by a short word. -/
theorem short2 {a b : Aut} (g : Good2 a b) {k x y : Nat} (hx : x < a.next.length) (hy : y < b.next.length) (h : ap2 a b k x y = true) :
    ∃ m, m ≤ k ∧ m + 2 ≤ a.next.length + b.next.length ∧ (∀ j, j < m → ap2 a b j x y = false) ∧ ap2 a b m x y = true := by
  rw [ap2_union g hx] at h
  have h1 := g.ga.l1
  have he := g.eL
  obtain ⟨m, h1, h2, h3, h4⟩ := apart_short (N := a.next.length + b.next.length) (fun z c hz hc => by
    unfold sig
    split
    · rename_i h; have := g.ga.step_lt h (a := c) (by omega); omega
    · have := g.gb.step_lt (q := z - a.next.length) (a := c) (by omega) (by omega); omega) (by omega) (by omega) h
  refine ⟨m, h1, h2, fun j hj => ?_, by rw [ap2_union g hx]; exact h4⟩
  rw [ap2_union g hx]
  exact relF_iff.1 h3 j hj
/-! ### alike -/
/-- From the one and from the other the same words are accepted. -/
def Alike (a b : Aut) (x y : Nat) : Prop := ∀ w, Word a.L w → finA a (runA a x w) = finA b (runA b y w)
def sameB (a b : Aut) (x y : Nat) : Bool := (List.range (a.next.length + b.next.length)).all fun k => !ap2 a b k x y
theorem same_iff {a b : Aut} (g : Good2 a b) {x y : Nat} (hx : x < a.next.length) (hy : y < b.next.length) : sameB a b x y = true ↔ Alike a b x y := by
  unfold sameB
  rw [List.all_eq_true]
  constructor
  · intro h w hw
    rcases Decidable.em (finA a (runA a x w) = finA b (runA b y w)) with e | e
    · exact e
    · obtain ⟨m, _, h2, _, h4⟩ := short2 g hx hy (ap2_iff.2 ⟨w, hw, rfl, e⟩)
      have := h m (List.mem_range.2 (by omega))
      rw [h4] at this; cases this
  · intro h k _
    rw [ap2_false.2 fun w hw _ => h w hw]; rfl
theorem Alike.refl (a : Aut) (x : Nat) : Alike a a x x := fun _ _ => rfl
theorem Alike.symm {a b : Aut} {x y : Nat} (h : Alike a b x y) (e : a.L = b.L) : Alike b a y x := fun w hw => (h w (by rw [e]; exact hw)).symm
theorem Alike.trans {a b c : Aut} {x y z : Nat} (h : Alike a b x y) (h2 : Alike b c y z) (e : a.L = b.L) : Alike a c x z := fun w hw => (h w hw).trans (h2 w (by rw [← e]; exact hw))
theorem Alike.step {a b : Aut} {x y : Nat} (h : Alike a b x y) {c : Nat} (hc : (c : Int) < a.L) : Alike a b (step a x c) (step b y c) := fun w hw => by
  have := h ((c : Int) :: w) (fun e he => by
    rcases List.mem_cons.1 he with rfl | he
    · exact ⟨by omega, hc⟩
    · exact hw e he)
  exact this
theorem Alike.run {a b : Aut} {x y : Nat} (h : Alike a b x y) {v : List Int} (hv : Word a.L v) : Alike a b (runA a x v) (runA b y v) := fun w hw => by
  have := h (v ++ w) (fun e he => by
    rcases List.mem_append.1 he with he | he
    · exact hv e he
    · exact hw e he)
  rw [runA_append, runA_append] at this
  exact this
/-- The first one of b that is alike. -/
def kin (a b : Aut) (x : Nat) : Nat := (least b.next.length (sameB a b x)).getD 0
theorem kin_spec {a b : Aut} (g : Good2 a b) {x y : Nat} (hx : x < a.next.length) (hy : y < b.next.length) (h : Alike a b x y) :
    kin a b x ≤ y ∧ kin a b x < b.next.length ∧ Alike a b x (kin a b x) ∧ ∀ j, j < kin a b x → ¬ Alike a b x j := by
  rcases e : least b.next.length (sameB a b x) with _ | k
  · have := least_none e hy
    rw [(same_iff g hx hy).2 h] at this; cases this
  · obtain ⟨h1, h2, h3⟩ := least_some e
    have hk : kin a b x = k := by unfold kin; rw [e]; rfl
    rw [hk]
    have h4 : ∀ j, j < k → ¬ Alike a b x j := fun j hj ha => by
      have := h3 j hj
      rw [(same_iff g hx (by omega)).2 ha] at this; cases this
    refine ⟨?_, h1, (same_iff g hx h1).1 h2, h4⟩
    rcases Nat.lt_or_ge y k with hlt | hge
    · exact absurd h (h4 y hlt)
    · exact hge
/-- What is alike has the same kin. -/
theorem kin_congr {a a' b : Aut} (g : Good2 a b) (g' : Good2 a' b) {x x' y : Nat} (hx : x < a.next.length) (hx' : x' < a'.next.length) (hy : y < b.next.length) (h : Alike a b x y) (h' : Alike a a' x x') : kin a b x = kin a' b x' := by
  have e : a.L = a'.L := g.eL.trans g'.eL.symm
  have h2 : Alike a' b x' y := (h'.symm e).trans h e.symm
  obtain ⟨_, p1, p2, p3⟩ := kin_spec g hx hy h
  obtain ⟨_, q1, q2, q3⟩ := kin_spec g' hx' hy h2
  rcases Nat.lt_trichotomy (kin a b x) (kin a' b x') with hlt | e' | hlt
  · exact absurd ((h'.symm e).trans p2 e.symm) (q3 _ hlt)
  · exact e'
  · exact absurd (h'.trans q2 e) (p3 _ hlt)

/-! ### the smallest automaton -/
theorem Good2.self {d : Aut} (g : Df.Good d) : Good2 d d := ⟨g, g, rfl⟩
theorem stand_spec {d : Aut} (g : Df.Good d) {x : Nat} (hx : x < d.next.length) : kin d d x ≤ x ∧ kin d d x < d.next.length ∧ Alike d d x (kin d d x) := by
  obtain ⟨h1, h2, h3, _⟩ := kin_spec (Good2.self g) hx hx (Alike.refl d x)
  exact ⟨h1, h2, h3⟩
theorem stand_stand {d : Aut} (g : Df.Good d) {x : Nat} (hx : x < d.next.length) : kin d d (kin d d x) = kin d d x := by
  obtain ⟨_, h2, h3⟩ := stand_spec g hx
  exact (kin_congr (Good2.self g) (Good2.self g) hx h2 hx (Alike.refl d x) h3).symm
/-- Each way goes to the first one of its kind. -/
def quo (d : Aut) : Aut := ⟨d.L, ((kin d d d.s.toNat : Nat) : Int), (List.range d.next.length).map fun q => (S1 d q).map fun t => ((kin d d t : Nat) : Int), d.fin⟩
theorem quo_len (d : Aut) : (quo d).next.length = d.next.length := by simp [quo]
theorem quo_row {d : Aut} {q : Nat} (hq : q < d.next.length) : (quo d).next[q]? = some ((S1 d q).map fun t => ((kin d d t : Nat) : Int)) := by
  show ((List.range d.next.length).map fun q => (S1 d q).map fun t => ((kin d d t : Nat) : Int))[q]? = _
  rw [List.getElem?_map, List.getElem?_range hq]; rfl
theorem quo_step {d : Aut} {q c : Nat} (hq : q < d.next.length) (hc : (c : Int) < d.L) : step (quo d) q c = kin d d (step d q c) := by
  unfold step
  rw [quo_row hq, Option.getD_some, List.getElem?_map, S1_get d q hc]
  rfl
theorem quo_good {d : Aut} (g : Df.Good d) : Df.Good (quo d) := by
  refine ⟨g.l1, g.l6, ?_, ?_, ?_, ?_, ?_, ?_⟩
  · rw [quo_len]; exact g.n1
  · rw [quo_len]; exact g.n40
  · rw [quo_len]; exact g.fin
  · intro r hr
    obtain ⟨q, _, rfl⟩ := List.mem_map.1 hr
    rw [List.length_map]
    exact S1_len g q
  · have := (stand_spec g g.s_lt).2.1
    refine ⟨?_, ?_⟩
    · show (0 : Int) ≤ ((kin d d d.s.toNat : Nat) : Int); omega
    · rw [quo_len]; show ((kin d d d.s.toNat : Nat) : Int) < _; omega
  · intro r hr x hx
    obtain ⟨q, hq, rfl⟩ := List.mem_map.1 hr
    obtain ⟨t, ht, rfl⟩ := List.mem_map.1 hx
    have := (stand_spec g (S1_lt g (List.mem_range.1 hq) ht)).2.1
    refine ⟨by omega, ?_⟩
    rw [quo_len]; omega
theorem quo_alike {d : Aut} (g : Df.Good d) {x : Nat} (hx : x < d.next.length) : Alike (quo d) d x x := by
  intro w
  induction w generalizing x with
  | nil => intro _; rfl
  | cons c w ih =>
    intro hw
    have hc := hw c List.mem_cons_self
    have hc' : ((c.toNat : Nat) : Int) < d.L := by have := hc.2; have : c < d.L := this; omega
    have hw' : Word d.L w := fun e he => hw e (List.mem_cons_of_mem _ he)
    have hs := g.step_lt hx hc'
    obtain ⟨_, h2, h3⟩ := stand_spec g hs
    show finA (quo d) (runA (quo d) (step (quo d) x c.toNat) w) = finA d (runA d (step d x c.toNat) w)
    rw [quo_step hx hc', ih h2 hw', h3 w hw']
theorem quo_acc {d : Aut} (g : Df.Good d) {w : List Int} (hw : Word d.L w) : accA (quo d) w = accA d w := by
  show finA (quo d) (runA (quo d) (kin d d d.s.toNat) w) = finA d (runA d d.s.toNat w)
  obtain ⟨_, h2, h3⟩ := stand_spec g g.s_lt
  rw [quo_alike g h2 w hw, h3 w hw]
def minA (d : Aut) : Aut := trimA (quo d)
theorem min_good {d : Aut} (g : Df.Good d) : Df.Good (minA d) := trim_good (quo_good g)
theorem min_acc {d : Aut} (g : Df.Good d) {w : List Int} (hw : Word d.L w) : accA (minA d) w = accA d w := by
  unfold minA
  rw [trim_acc (quo_good g) hw, quo_acc g hw]
end Go.Proofs.YtbciefeipiphiaaDoor.Sm

namespace Go.Proofs.YtbciefeipiphiaaDoor.Sm
open Go.Proofs.YtbciefeipiphiaaDoor.Df Go.Proofs.YtbciefeipiphiaaDoor.Wo Go.Proofs.YtbciefeipiphiaaDoor.Rc

/-! ### what is found is found alike under another name -/
theorem num_map {α β : Type} [DecidableEq α] [DecidableEq β] {l : List α} {φ : α → β} (hi : ∀ x ∈ l, ∀ y ∈ l, φ x = φ y → x = y) {t : α} (ht : t ∈ l) : num (l.map φ) (φ t) = num l t := by
  induction l with
  | nil => cases ht
  | cons a l ih =>
    unfold num at *
    rw [List.map_cons, List.idxOf_cons, List.idxOf_cons]
    by_cases e : a = t
    · subst e; simp
    · have hne : φ a ≠ φ t := fun h => e (hi a List.mem_cons_self t ht h)
      have ht' : t ∈ l := by
        rcases List.mem_cons.1 ht with h | h
        · exact absurd h.symm e
        · exact h
      have := ih (fun x hx y hy => hi x (List.mem_cons_of_mem _ hx) y (List.mem_cons_of_mem _ hy)) ht'
      rw [this, beq_eq_false_iff_ne.2 hne, beq_eq_false_iff_ne.2 e]
theorem expl_as {α β : Type} [DecidableEq α] [DecidableEq β] {S : α → List α} {T : β → List β} {l : List α} {φ : α → β} (hc : ∀ x ∈ l, ∀ t ∈ S x, t ∈ l) (hi : ∀ x ∈ l, ∀ y ∈ l, φ x = φ y → x = y) (hT : ∀ x ∈ l, T (φ x) = (S x).map φ) :
    ∀ (n i : Nat) (k : List α), expl S n i k = some l → (∀ x ∈ k, x ∈ l) → expl T n i (k.map φ) = some (l.map φ) := by
  intro n
  induction n with
  | zero =>
    intro i k e _
    rw [expl] at e ⊢
    obtain rfl := Option.some.inj e
    rfl
  | succ n ih =>
    intro i k e hk
    rcases hx : k[i]? with _ | x
    · rw [expl, hx] at e
      rw [expl, List.getElem?_map, hx]
      obtain rfl := Option.some.inj e
      rfl
    · have hm := hk x (List.mem_of_getElem? hx)
      rw [expl, hx] at e
      rw [expl, List.getElem?_map, hx]
      simp only [Option.map_some] at e ⊢
      rw [hT x hm, addAll_map hi hk (hc x hm), List.length_map]
      by_cases hl : 40 < (addAll k (S x)).length
      · rw [if_pos hl] at e; cases e
      · rw [if_neg hl] at e ⊢
        refine ih _ _ e (fun y hy => ?_)
        rcases mem_addAll.1 hy with hy | hy
        · exact hk y hy
        · exact hc x hm y hy
theorem trim_as {a b : Aut} (ga : Df.Good a) (hL : a.L = b.L) {φ : Nat → Nat} (hs : φ a.s.toNat = b.s.toNat) (hi : ∀ x ∈ rset a a.s.toNat, ∀ y ∈ rset a a.s.toNat, φ x = φ y → x = y)
    (hT : ∀ x ∈ rset a a.s.toNat, S1 b (φ x) = (S1 a x).map φ) (hf : ∀ x ∈ rset a a.s.toNat, finA b (φ x) = finA a x) : trimA b = trimA a := by
  have hw := rset_whole ga ga.s_lt
  obtain ⟨l, hl⟩ := found1 ga ga.s_lt
  have hr : rset a a.s.toNat = l := by unfold rset; rw [hl]; rfl
  rw [hr] at hw hi hT hf
  have hb : rset b b.s.toNat = l.map φ := by
    have h1 := expl_as hw.closed hi hT 41 0 [a.s.toNat] hl (fun x hx => by simp at hx; subst hx; exact List.mem_of_getElem? hw.hd)
    rw [List.map_singleton, hs] at h1
    have h2 : found (S1 b) b.s.toNat = some (l.map φ) := h1
    unfold rset; rw [h2]; rfl
  unfold trimA
  rw [hb, hr]
  unfold autOf
  rw [List.map_map, List.map_map, ← hL]
  congr 1
  · refine List.map_congr_left fun x hx => ?_
    show srow (S1 b) (l.map φ) (φ x) = srow (S1 a) l x
    unfold srow
    rw [hT x hx, List.map_map]
    refine List.map_congr_left fun t ht => ?_
    show ((num (l.map φ) (φ t) : Nat) : Int) = _
    rw [num_map hi (hw.closed x hx t ht)]
  · exact List.map_congr_left fun x hx => hf x hx

/-! ### Myhill, Nerode -/
/-- What is reached in the one by a word is alike to what the same word leads to. -/
theorem quo_reached {d : Aut} (g : Df.Good d) {x : Nat} (h : x ∈ rset (quo d) (quo d).s.toNat) : x < d.next.length ∧ kin d d x = x ∧ ∃ w, Word d.L w ∧ Alike d d x (runA d d.s.toNat w) := by
  have gq := quo_good g
  have hlt : x < d.next.length := by
    have := rset_lt gq gq.s_lt h
    rw [quo_len] at this; exact this
  have hr := (mem_rset gq gq.s_lt).1 h
  refine ⟨hlt, ?_, ?_⟩
  · cases hr with
    | base => exact stand_stand g g.s_lt
    | @next z _ hz ht =>
      obtain ⟨c, hc, e⟩ := mem_S1.1 ht
      have hzl := rch_lt1 gq gq.s_lt hz
      rw [quo_len] at hzl
      have hc' : (c : Int) < d.L := hc
      rw [← e, quo_step hzl hc']
      exact stand_stand g (g.step_lt hzl hc')
  · obtain ⟨w, hw, e⟩ := rch_word.1 hr
    have hw' : Word d.L w := hw
    refine ⟨w, hw', ?_⟩
    have h0 : (quo d).s.toNat < d.next.length := by have := gq.s_lt; rw [quo_len] at this; exact this
    have h1 : Alike (quo d) d (quo d).s.toNat d.s.toNat := by
      obtain ⟨_, h2, h3⟩ := stand_spec g g.s_lt
      exact (quo_alike g h0).trans (h3.symm rfl) rfl
    have h2 := h1.run (v := w) hw
    rw [e] at h2
    exact ((quo_alike g hlt).symm rfl).trans h2 rfl
theorem quo_S1 {d : Aut} (g : Df.Good d) {x : Nat} (hx : x < d.next.length) : S1 (quo d) x = (S1 d x).map (kin d d) := by
  unfold S1
  rw [List.map_map]
  refine List.map_congr_left fun c hc => ?_
  have h1 := g.l1
  have hc' : c < d.L.toNat := List.mem_range.1 hc
  exact quo_step hx (by omega)
/-- Two that accept the same have the same smallest one. -/
theorem min_unique {a b : Aut} (g : Good2 a b) (h : ∀ w, Word a.L w → accA a w = accA b w) : minA b = minA a := by
  have gab := g
  have ga := g.ga
  have gb := g.gb
  have hs : Alike a b a.s.toNat b.s.toNat := h
  have gaa : Good2 a a := Good2.self ga
  have gbb : Good2 b b := Good2.self gb
  have gqa := quo_good ga
  -- each one that is reached has a partner
  have hp : ∀ x, x ∈ rset (quo a) (quo a).s.toNat → x < a.next.length ∧ kin a a x = x ∧ kin a b x < b.next.length ∧ Alike a b x (kin a b x) := fun x hx => by
    obtain ⟨h1, h2, w, hw, h3⟩ := quo_reached ga hx
    have h4 : Alike a b x (runA b b.s.toNat w) := h3.trans (hs.run hw) rfl
    have h5 : runA b b.s.toNat w < b.next.length := gb.run_lt (by rw [← g.eL]; exact hw) gb.s_lt
    obtain ⟨_, p1, p2, _⟩ := kin_spec g h1 h5 h4
    exact ⟨h1, h2, p1, p2⟩
  unfold minA
  refine trim_as (a := quo a) (b := quo b) (φ := kin a b) gqa g.eL ?_ ?_ ?_ ?_
  · show kin a b (kin a a a.s.toNat) = kin b b b.s.toNat
    obtain ⟨_, h2, h3⟩ := stand_spec ga ga.s_lt
    have := kin_congr g gbb h2 gb.s_lt gb.s_lt ((h3.symm rfl).trans hs rfl) ((h3.symm rfl).trans hs rfl)
    exact this
  · intro x hx y hy e
    obtain ⟨x1, x2, x3, x4⟩ := hp x hx
    obtain ⟨y1, y2, y3, y4⟩ := hp y hy
    have hxy : Alike a a x y := x4.trans (by rw [e]; exact y4.symm g.eL) g.eL
    have := kin_congr gaa gaa x1 y1 x1 (Alike.refl a x) hxy
    rw [x2, y2] at this
    exact this
  · intro x hx
    obtain ⟨x1, x2, x3, x4⟩ := hp x hx
    rw [quo_S1 gb x3, quo_S1 ga x1, List.map_map]
    unfold S1
    rw [List.map_map, List.map_map, ← g.eL]
    refine List.map_congr_left fun c hc => ?_
    have h1 := ga.l1
    have hc' : c < a.L.toNat := List.mem_range.1 hc
    have hcL : (c : Int) < a.L := by omega
    have hcb : (c : Int) < b.L := by rw [← g.eL]; exact hcL
    show kin b b (step b (kin a b x) c) = kin a b (kin a a (step a x c))
    have k1 := ga.step_lt x1 hcL
    have k2 := gb.step_lt x3 hcb
    have k3 : Alike a b (step a x c) (step b (kin a b x) c) := x4.step hcL
    obtain ⟨_, p2, p3⟩ := stand_spec ga k1
    have k4 : Alike a b (kin a a (step a x c)) (step b (kin a b x) c) := (p3.symm rfl).trans k3 rfl
    exact (kin_congr g gbb p2 k2 k2 k4 k4).symm
  · intro x hx
    obtain ⟨x1, x2, x3, x4⟩ := hp x hx
    show finA b (kin a b x) = finA a x
    exact (x4 [] (fun e he => by simp at he)).symm
/-- Two accept the same just if they have the same smallest one. -/
theorem min_iff {a b : Aut} (g : Good2 a b) : minA a = minA b ↔ ∀ w, Word a.L w → accA a w = accA b w := by
  constructor
  · intro h w hw
    rw [← min_acc g.ga hw, h, min_acc g.gb (by rw [← g.eL]; exact hw)]
  · intro h
    exact (min_unique g h).symm
end Go.Proofs.YtbciefeipiphiaaDoor.Sm

namespace Go.Proofs.YtbciefeipiphiaaDoor.Sm
open Go.Proofs.YtbciefeipiphiaaDoor.Df Go.Proofs.YtbciefeipiphiaaDoor.Wo Go.Proofs.YtbciefeipiphiaaDoor.Rc

/-- The first of the words of k letters that tell two states apart. -/
def pick2 (a b : Aut) : Nat → Nat → Nat → List Int
  | 0, _, _ => []
  | k + 1, x, y => match least a.L.toNat (fun c => ap2 a b k (step a x c) (step b y c)) with
    | none => []
    | some c => (c : Int) :: pick2 a b k (step a x c) (step b y c)
theorem least_letter2 {a b : Aut} {k x y : Nat} (h : ap2 a b (k + 1) x y = true) : ∃ c, least a.L.toNat (fun c => ap2 a b k (step a x c) (step b y c)) = some c := by
  rcases hl : least a.L.toNat (fun c => ap2 a b k (step a x c) (step b y c)) with _ | c
  · have h' : ((List.range a.L.toNat).any fun c => ap2 a b k (step a x c) (step b y c)) = true := h
    obtain ⟨c, hc, hp⟩ := List.any_eq_true.1 h'
    rw [List.mem_range] at hc
    have hz : ap2 a b k (step a x c) (step b y c) = false := least_none hl hc
    rw [hz] at hp; cases hp
  · exact ⟨c, rfl⟩
theorem pick2_succ {a b : Aut} {k x y c : Nat} (h : least a.L.toNat (fun c => ap2 a b k (step a x c) (step b y c)) = some c) : pick2 a b (k + 1) x y = (c : Int) :: pick2 a b k (step a x c) (step b y c) := by
  rw [pick2, h]
theorem pick2_ok {a b : Aut} {k x y : Nat} (h : ap2 a b k x y = true) : Word a.L (pick2 a b k x y) ∧ (pick2 a b k x y).length = k ∧ finA a (runA a x (pick2 a b k x y)) ≠ finA b (runA b y (pick2 a b k x y)) := by
  induction k generalizing x y with
  | zero => exact ⟨by intro e he; simp [pick2] at he, rfl, bne_iff_ne.1 h⟩
  | succ k ih =>
    obtain ⟨c, hc⟩ := least_letter2 h
    obtain ⟨h1, h2, _⟩ := least_some hc
    obtain ⟨h3, h4, h5⟩ := ih h2
    rw [pick2_succ hc]
    refine ⟨fun e he => ?_, by simp [h4], h5⟩
    rcases List.mem_cons.1 he with rfl | he
    · exact ⟨by omega, by omega⟩
    · exact h3 e he
theorem pick2_least {a b : Aut} {k x y : Nat} (h : ap2 a b k x y = true) {v : List Int} (hv : Word a.L v) (hl : v.length = k) (hf : finA a (runA a x v) ≠ finA b (runA b y v)) : lx v (pick2 a b k x y) = false := by
  induction k generalizing x y v with
  | zero =>
    obtain rfl := List.eq_nil_of_length_eq_zero hl
    rfl
  | succ k ih =>
    obtain ⟨c, hc⟩ := least_letter2 h
    obtain ⟨h1, h2, h3⟩ := least_some hc
    rcases v with _ | ⟨e, v⟩
    · simp at hl
    have he := hv e List.mem_cons_self
    have hv' : Word a.L v := fun z hz => hv z (List.mem_cons_of_mem _ hz)
    have hl' : v.length = k := by simpa using hl
    have hf' : finA a (runA a (step a x e.toNat) v) ≠ finA b (runA b (step b y e.toNat) v) := hf
    have hb2 : ap2 a b k (step a x e.toNat) (step b y e.toNat) = true := ap2_iff.2 ⟨v, hv', hl', hf'⟩
    rw [pick2_succ hc, lx]
    by_cases q : e = (c : Int)
    · rw [if_pos q]
      subst q
      exact ih h2 hv' hl' hf'
    · rw [if_neg q]
      refine decide_eq_false (fun hlt => ?_)
      have := h3 e.toNat (by omega)
      rw [this] at hb2; cases hb2
/-- The first word that tells two states apart. -/
def diffW (a b : Aut) (x y : Nat) : Option (List Int) := (least (a.next.length + b.next.length) (fun k => ap2 a b k x y)).map (fun k => pick2 a b k x y)
theorem diffW_none {a b : Aut} (g : Good2 a b) {x y : Nat} (hx : x < a.next.length) (hy : y < b.next.length) : diffW a b x y = none ↔ Alike a b x y := by
  constructor
  · intro h
    have hn : least (a.next.length + b.next.length) (fun k => ap2 a b k x y) = none := by
      unfold diffW at h
      simpa using h
    refine (same_iff g hx hy).1 ?_
    unfold sameB
    rw [List.all_eq_true]
    intro k hk
    have hz : ap2 a b k x y = false := least_none hn (List.mem_range.1 hk)
    rw [hz]; rfl
  · intro h
    rcases hd : diffW a b x y with _ | w
    · rfl
    · unfold diffW at hd
      obtain ⟨k, hk, _⟩ := Option.map_eq_some_iff.1 hd
      obtain ⟨_, h2, _⟩ := least_some hk
      rw [ap2_false.2 fun w hw _ => h w hw] at h2; cases h2
theorem diffW_some {a b : Aut} (g : Good2 a b) {x y : Nat} (hx : x < a.next.length) (hy : y < b.next.length) {w : List Int} (h : diffW a b x y = some w) :
    Word a.L w ∧ w.length + 2 ≤ a.next.length + b.next.length ∧ finA a (runA a x w) ≠ finA b (runA b y w) ∧ ∀ v, Word a.L v → finA a (runA a x v) ≠ finA b (runA b y v) → lss v w = false := by
  unfold diffW at h
  obtain ⟨k, hk, rfl⟩ := Option.map_eq_some_iff.1 h
  obtain ⟨_, h2, h3⟩ := least_some hk
  obtain ⟨p1, p2, p3⟩ := pick2_ok h2
  obtain ⟨m, q1, q2, _, q4⟩ := short2 g hx hy h2
  have hmk : m = k := by
    rcases Nat.lt_or_eq_of_le q1 with hlt | e
    · have hz : ap2 a b m x y = false := h3 m hlt
      rw [hz] at q4; cases q4
    · exact e
  refine ⟨p1, by omega, p3, fun v hv hf => ?_⟩
  unfold lss
  rw [p2]
  by_cases e : v.length = k
  · rw [if_pos e]; exact pick2_least h2 hv e hf
  · rw [if_neg e]
    refine decide_eq_false (fun hlt => ?_)
    have hz : ap2 a b v.length x y = false := h3 _ hlt
    rw [ap2_iff.2 ⟨v, hv, rfl, hf⟩] at hz; cases hz
/-- There is one first word only. -/
theorem diffW_unique {a b : Aut} (g : Good2 a b) {x y : Nat} (hx : x < a.next.length) (hy : y < b.next.length) {w : List Int} (hw : Word a.L w) (hf : finA a (runA a x w) ≠ finA b (runA b y w))
    (hmin : ∀ v, Word a.L v → finA a (runA a x v) ≠ finA b (runA b y v) → lss v w = false) : diffW a b x y = some w := by
  rcases h : diffW a b x y with _ | u
  · exact absurd ((diffW_none g hx hy).1 h w hw) hf
  · obtain ⟨h1, _, h3, h4⟩ := diffW_some g hx hy h
    rw [lss_total (h4 w hw hf) (hmin u h1 h3)]
end Go.Proofs.YtbciefeipiphiaaDoor.Sm

namespace Go.Proofs.YtbciefeipiphiaaDoor.Sm
open Go.Proofs.YtbciefeipiphiaaDoor.Df Go.Proofs.YtbciefeipiphiaaDoor.Wo Go.Proofs.YtbciefeipiphiaaDoor.Rc

/-- In how many steps two states are told apart; -1: never. -/
def lev (a b : Aut) (x y : Nat) : Int := match least (a.next.length + b.next.length) (fun k => ap2 a b k x y) with
  | none => -1
  | some k => ((k : Nat) : Int)
theorem lev_cases (a b : Aut) (x y : Nat) : lev a b x y = -1 ∨ ∃ k : Nat, lev a b x y = (k : Int) := by
  unfold lev
  rcases least (a.next.length + b.next.length) (fun k => ap2 a b k x y) with _ | k
  · exact .inl rfl
  · exact .inr ⟨k, rfl⟩
/-! ### the table -/
/-- What the table holds of a pair in round k: before, and after the pair's turn. -/
def val (a b : Aut) (k : Nat) (done : Bool) (x y : Nat) : Int := if lev a b x y < (k : Int) ∨ (lev a b x y = (k : Int) ∧ done = true) then lev a b x y else -1
theorem val_known {a b : Aut} {k : Nat} {e : Bool} {x y : Nat} (h : 0 ≤ val a b k e x y) : val a b k e x y = lev a b x y := by
  unfold val at h ⊢
  split
  · rfl
  · rename_i hn; rw [if_neg hn] at h; omega
theorem val_neg {a b : Aut} {k : Nat} {x y : Nat} (h : val a b k false x y < 0) {j : Nat} (hj : j < k) : lev a b x y ≠ (j : Int) := by
  intro e
  unfold val at h
  rw [if_pos (.inl (by omega))] at h
  omega
theorem val_hit {a b : Aut} {k : Nat} {e : Bool} {x y : Nat} : val a b (k + 1) e x y = (k : Int) ↔ lev a b x y = (k : Int) := by
  unfold val
  constructor
  · intro h
    split at h
    · exact h
    · omega
  · intro h
    rw [if_pos (.inl (by omega))]; exact h
theorem val_old {a b : Aut} {k : Nat} {x y : Nat} (h : 0 ≤ val a b k false x y) : val a b k true x y = val a b k false x y := by
  have h1 : lev a b x y < (k : Int) := by
    unfold val at h
    split at h
    · rename_i q
      rcases q with q | q
      · exact q
      · exact absurd q.2 (by decide)
    · omega
  unfold val
  rw [if_pos (.inl h1), if_pos (.inl h1)]
theorem val_next (a b : Aut) (k x y : Nat) : val a b k true x y = val a b (k + 1) false x y := by
  unfold val
  by_cases q : lev a b x y < (k : Int) ∨ (lev a b x y = (k : Int) ∧ true = true)
  · rw [if_pos q, if_pos (.inl (by rcases q with q | q <;> omega))]
  · rw [if_neg q, if_neg (fun z => by
      rcases z with z | z
      · rcases Int.lt_or_eq_of_le (by omega : lev a b x y ≤ (k : Int)) with q1 | q1
        · exact q (.inl q1)
        · exact q (.inr ⟨q1, rfl⟩)
      · exact absurd z.2 (by decide))]
end Go.Proofs.YtbciefeipiphiaaDoor.Sm

namespace Go.Proofs.YtbciefeipiphiaaDoor.Sm
open Go.Proofs.YtbciefeipiphiaaDoor.Df Go.Proofs.YtbciefeipiphiaaDoor.Wo Go.Proofs.YtbciefeipiphiaaDoor.Rc

end Go.Proofs.YtbciefeipiphiaaDoor.Sm

namespace Go.Proofs.YtbciefeipiphiaaDoor.Nf
open Go.Proofs.YtbciefeipiphiaaDoor.Df Go.Proofs.YtbciefeipiphiaaDoor.Wo Go.Proofs.YtbciefeipiphiaaDoor.Rc Go.Proofs.YtbciefeipiphiaaDoor.Sm

structure Nfa where
  L : Int
  n : Int
  st : List Int
  mv : List (Int × Int × Int)
  fin : List Int
def isQ (a : Nfa) (x : Int) : Prop := 0 ≤ x ∧ x < a.n
instance (a : Nfa) (x : Int) : Decidable (isQ a x) := inferInstanceAs (Decidable (0 ≤ x ∧ x < a.n))
def isMv (a : Nfa) (m : Int × Int × Int) : Prop := isQ a m.1 ∧ isQ a m.2.2 ∧ -1 ≤ m.2.1 ∧ m.2.1 < a.L
instance (a : Nfa) (m : Int × Int × Int) : Decidable (isMv a m) := inferInstanceAs (Decidable (isQ a m.1 ∧ isQ a m.2.2 ∧ -1 ≤ m.2.1 ∧ m.2.1 < a.L))
structure Good (a : Nfa) : Prop where
  l1 : 1 ≤ a.L
  l6 : a.L ≤ 6
  n1 : 1 ≤ a.n
  n40 : a.n ≤ 40
  s40 : a.st.length ≤ 40
  f40 : a.fin.length ≤ 40
  m240 : a.mv.length ≤ 240
  st : ∀ x ∈ a.st, isQ a x
  fin : ∀ x ∈ a.fin, isQ a x
  mv : ∀ m ∈ a.mv, isMv a m
/-! ### ways -/
/-! ### sets of states -/
def epsS (a : Nfa) (q : Nat) : List Nat := (a.mv.filter fun m => decide (m.1 = (q : Int)) && decide (m.2.1 = -1)).map fun m => m.2.2.toNat
def eset (a : Nfa) (s : Nat) : List Nat := (found (epsS a) s).getD []
/-- A set, in the order of its states. -/
def setQ (a : Nfa) (p : Nat → Bool) : List Nat := (List.range a.n.toNat).filter p
def clo (a : Nfa) (X : List Nat) : List Nat := setQ a fun t => X.any fun s => decide (t ∈ eset a s)
def to (a : Nfa) (X : List Nat) (c : Int) : List Nat := (a.mv.filter fun m => decide (m.2.1 = c) && decide (m.1.toNat ∈ X)).map fun m => m.2.2.toNat
def goN (a : Nfa) (X : List Nat) (c : Int) : List Nat := clo a (to a X c)
/-! ### one state at a time -/
def T (a : Nfa) (X : List Nat) : List (List Nat) := (List.range a.L.toNat).map fun (c : Nat) => goN a X (c : Int)
end Go.Proofs.YtbciefeipiphiaaDoor.Nf

namespace Go.Proofs.YtbciefeipiphiaaDoor.Nf
open Go.Proofs.YtbciefeipiphiaaDoor.Df Go.Proofs.YtbciefeipiphiaaDoor.Wo Go.Proofs.YtbciefeipiphiaaDoor.Rc Go.Proofs.YtbciefeipiphiaaDoor.Sm

/-! ### mirrors -/
def turn (m : Int × Int × Int) : Int × Int × Int := (m.2.2, m.2.1, m.1)
/-! ### a deterministic one -/
theorem nn {L : Int} {w : List Int} (hw : Word L w) : ∀ c ∈ w, 0 ≤ c := fun c hc => (hw c hc).1
/-! ### one by one it is as trimmed -/
/-! ### Brzozowski -/
end Go.Proofs.YtbciefeipiphiaaDoor.Nf

namespace Go.Proofs.YtbciefeipiphiaaDoor.Nf
open Go.Proofs.YtbciefeipiphiaaDoor.Df Go.Proofs.YtbciefeipiphiaaDoor.Wo Go.Proofs.YtbciefeipiphiaaDoor.Rc Go.Proofs.YtbciefeipiphiaaDoor.Sm

/-- Nothing more to find. -/
def Shut (a : Nfa) (p : Nat → Bool) : Prop := ∀ x y : Int, (x, -1, y) ∈ a.mv → p x.toNat = true → p y.toNat = true
/-- A set as a row of bools. -/
def bits (a : Nfa) (p : Nat → Bool) : List Bool := (List.range a.n.toNat).map p
end Go.Proofs.YtbciefeipiphiaaDoor.Nf

namespace Go.Proofs.YtbciefeipiphiaaDoor.Nf
open Go.Proofs.YtbciefeipiphiaaDoor.Df Go.Proofs.YtbciefeipiphiaaDoor.Wo Go.Proofs.YtbciefeipiphiaaDoor.Rc Go.Proofs.YtbciefeipiphiaaDoor.Sm

/-! ### found under another name -/
section
variable {α β : Type} {S : α → List α} {T : β → List β} {a : α} {φ : α → β}
variable [DecidableEq α] [DecidableEq β]
end
/-! ### the bits of a number -/
def enc (X : List Nat) : Nat := X.foldl (fun x s => x ||| 2 ^ s) 0
/-! ### closing a set -/
/-! ### the subset construction, of numbers and of rows of bools -/
def rowQ (a : Nfa) (X : List Nat) : List Bool := (List.range a.n.toNat).map fun t => decide (t ∈ X)
theorem rowQ_len (a : Nfa) (X : List Nat) : (rowQ a X).length = a.n.toNat := by simp [rowQ]
end Go.Proofs.YtbciefeipiphiaaDoor.Nf
