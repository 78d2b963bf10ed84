/- Plain mathematics of words: what is wrong with one, the letters of a set, what is left of a word, and which is ahead. Plain mathematics of automata: what is wrong with one, its runs, what is found from a start in order, and the automata that are numbered so. Plain mathematics of automata for the laws: what is found by the two orders, with itself, with a product; de Morgan. Plain mathematics of reach: what is reached and alive, the table of all pairs, words by their length, the first word, what is counted, what is trimmed. Plain mathematics of reach for the laws: the first word is the least one; counts of Not, Both and Either; an automaton trimmed. Plain mathematics of package small: words that tell states apart; the smallest automaton; the first word at which two differ; levels; what is found with no two alike. Plain mathematics of nfa: ways, sets of states, the subset construction. Plain mathematics of nfa: mirrors; automata seen so; Brzozowski. Plain mathematics of nfa: what moves by no letter lead to, by passes over the moves. Sets of states as the bits of one number, and as rows of bools; what is found is found alike under another name, or not at all; what the subset construction gives. -/

namespace Go.Proofs.YtbciefeipiphiaaDoor.Wo

/-- What is wrong with a word. -/
def chk (L : Int) (w : List Int) : Nat :=
  if L < 1 ∨ 6 < L then 1 else if 80 < w.length then 4 else if w.all (fun a => decide (0 ≤ a) && decide (a < L)) then 0 else 1
/-- A word of letters. -/
def Fine (L : Int) (w : List Int) : Prop := (1 ≤ L ∧ L ≤ 6) ∧ w.length ≤ 80 ∧ ∀ a ∈ w, 0 ≤ a ∧ a < L
theorem chk_iff {L : Int} {w : List Int} : chk L w = 0 ↔ Fine L w := by
  unfold chk Fine
  by_cases h : L < 1 ∨ 6 < L
  · rw [if_pos h]; omega
  · rw [if_neg h]
    by_cases h2 : 80 < w.length
    · rw [if_pos h2]; omega
    · rw [if_neg h2]
      by_cases h3 : w.all (fun a => decide (0 ≤ a) && decide (a < L)) = true
      · rw [if_pos h3]
        refine ⟨fun _ => ⟨by omega, by omega, fun a ha => ?_⟩, fun _ => rfl⟩
        have := List.all_eq_true.1 h3 a ha
        simpa using this
      · rw [if_neg h3]
        refine ⟨fun e => by omega, fun ⟨_, _, h4⟩ => absurd (List.all_eq_true.2 fun a ha => ?_) h3⟩
        simpa using h4 a ha
theorem chk_cases (L : Int) (w : List Int) : chk L w = 0 ∨ chk L w = 1 ∨ chk L w = 4 := by
  unfold chk; repeat' split
  all_goals simp
theorem chk_one {L : Int} (h : L < 1 ∨ 6 < L) (w : List Int) : chk L w = 1 := by unfold chk; rw [if_pos h]
theorem chk_four {L : Int} (h : ¬ (L < 1 ∨ 6 < L)) {w : List Int} (h2 : 80 < w.length) : chk L w = 4 := by unfold chk; rw [if_neg h, if_pos h2]
theorem chk_bad {L : Int} (h : ¬ (L < 1 ∨ 6 < L)) {w : List Int} (h2 : ¬ 80 < w.length) {k : Nat} (hk : k < w.length) (h3 : w[k] < 0 ∨ L ≤ w[k]) : chk L w = 1 := by
  unfold chk
  rw [if_neg h, if_neg h2, if_neg]
  intro h4
  have := List.all_eq_true.1 h4 _ (List.getElem_mem hk)
  simp at this; omega
/-- The letters up to a place are letters. -/
def Upto (L : Int) (w : List Int) (k : Nat) : Prop := ∀ a ∈ w.take k, 0 ≤ a ∧ a < L
theorem upto_zero (L : Int) (w : List Int) : Upto L w 0 := by simp [Upto]
theorem upto_next {L : Int} {w : List Int} {k : Nat} (h : Upto L w k) (hk : k < w.length) (h0 : 0 ≤ w[k]) (h1 : w[k] < L) : Upto L w (k + 1) := by
  unfold Upto at *
  rw [← List.take_append_getElem hk]
  intro a ha
  rcases List.mem_append.1 ha with ha | ha
  · exact h a ha
  · simp at ha; subst ha; exact ⟨h0, h1⟩
theorem upto_end {L : Int} {w : List Int} (h : ¬ (L < 1 ∨ 6 < L)) (h2 : ¬ 80 < w.length) (hu : Upto L w w.length) : chk L w = 0 := by
  rw [chk_iff]
  unfold Upto at hu
  rw [List.take_length] at hu
  exact ⟨by omega, by omega, hu⟩

def chk2 (L : Int) (v w : List Int) : Nat := if chk L v = 0 then chk L w else chk L v
theorem chk2_iff {L : Int} {v w : List Int} : chk2 L v w = 0 ↔ Fine L v ∧ Fine L w := by
  unfold chk2
  rw [← chk_iff, ← chk_iff]
  split <;> simp_all

/-- Is a letter in a set? -/
def has (s a : Int) : Bool := s.toNat / 2 ^ a.toNat % 2 == 1
def setOk (L s : Int) : Prop := 0 ≤ s ∧ s < 2 ^ L.toNat
instance (L s : Int) : Decidable (setOk L s) := by unfold setOk; infer_instance
def only (s : Int) (w : List Int) : List Int := w.filter (has s)
/-- What Only returns. -/
def onlyOut (L : Int) (w : List Int) (s : Int) : List Int × Nat :=
  if chk L w = 0 then (if setOk L s then (only s w, 0) else ([], 1)) else ([], chk L w)
def mirOut (L : Int) (w : List Int) : List Int × Nat := if chk L w = 0 then (w.reverse, 0) else ([], chk L w)
theorem only_len (s : Int) (w : List Int) : (only s w).length ≤ w.length := List.length_filter_le _ _
theorem only_fine {L : Int} {w : List Int} (h : Fine L w) (s : Int) : Fine L (only s w) :=
  ⟨h.1, Nat.le_trans (only_len s w) h.2.1, fun a ha => h.2.2 a (List.mem_filter.1 ha).1⟩
theorem reverse_fine {L : Int} {w : List Int} (h : Fine L w) : Fine L w.reverse :=
  ⟨h.1, by rw [List.length_reverse]; exact h.2.1, fun a ha => h.2.2 a (List.mem_reverse.1 ha)⟩
theorem onlyOut_ok {L : Int} {w : List Int} {s : Int} (h : Fine L w) (hs : setOk L s) : onlyOut L w s = (only s w, 0) := by
  unfold onlyOut; rw [if_pos (chk_iff.2 h), if_pos hs]
theorem onlyOut_zero {L : Int} {w : List Int} {s : Int} (h : (onlyOut L w s).2 = 0) : Fine L w ∧ setOk L s := by
  unfold onlyOut at h
  by_cases h1 : chk L w = 0
  · rw [if_pos h1] at h
    by_cases h2 : setOk L s
    · exact ⟨chk_iff.1 h1, h2⟩
    · rw [if_neg h2] at h; simp at h
  · rw [if_neg h1] at h; exact absurd h h1
theorem onlyOut_bad {L : Int} {w : List Int} {s : Int} (h : (onlyOut L w s).2 ≠ 0) : (onlyOut L w s).1 = [] := by
  unfold onlyOut at *
  split at h
  · split at h
    · simp at h
    · rw [if_pos (by assumption), if_neg (by assumption)]
  · rw [if_neg (by assumption)]

/-! ### the places of the loops -/
theorem only_step (s : Int) {w : List Int} {k : Nat} (hk : k < w.length) : only s (w.take (k + 1)) = if has s w[k] then only s (w.take k) ++ [w[k]] else only s (w.take k) := by
  rw [← List.take_append_getElem hk]
  unfold only
  rw [List.filter_append]
  by_cases h : has s w[k] = true <;> simp [h]
/-- The row of a mirror that is being stored. -/
def Mir (z l : List Int) (k : Nat) : Prop := l.length = z.length ∧ ∀ j, z.length - k ≤ j → j < z.length → l[j]? = z[z.length - 1 - j]?
theorem mir_start (z : List Int) : Mir z (List.replicate z.length 0) 0 := ⟨by simp, fun j h1 h2 => by omega⟩
theorem mir_step {z l : List Int} {k : Nat} (h : Mir z l k) (hk : k < z.length) : Mir z (l.set (z.length - 1 - k) z[k]) (k + 1) := by
  refine ⟨by rw [List.length_set]; exact h.1, fun j h1 h2 => ?_⟩
  rw [List.getElem?_set]
  split
  · rename_i e
    subst e
    rw [if_pos (by rw [h.1]; omega), show z.length - 1 - (z.length - 1 - k) = k by omega, List.getElem?_eq_getElem hk]
  · exact h.2 j (by omega) h2
theorem mir_end {z l : List Int} (h : Mir z l z.length) : l = z.reverse := by
  apply List.ext_getElem?
  intro j
  rcases Nat.lt_or_ge j z.length with hj | hj
  · rw [h.2 j (by omega) hj, List.getElem?_reverse (by omega)]
  · rw [List.getElem?_eq_none (by rw [h.1]; omega), List.getElem?_eq_none (by simpa using hj)]

/-! ### what is left of a word -/
theorem sub_hit {v w : List Int} {i k : Nat} (hi : i < v.length) (hk : k < w.length) (he : v[i] = w[k]) : (v.drop (i + 1)).isSublist (w.drop (k + 1)) = (v.drop i).isSublist (w.drop k) := by
  rw [List.drop_eq_getElem_cons hi, List.drop_eq_getElem_cons hk]
  simp [List.isSublist, he]
theorem sub_miss {v w : List Int} {i k : Nat} (hi : i < v.length) (hk : k < w.length) (he : ¬ v[i] = w[k]) : (v.drop i).isSublist (w.drop (k + 1)) = (v.drop i).isSublist (w.drop k) := by
  rw [List.drop_eq_getElem_cons hi, List.drop_eq_getElem_cons hk]
  simp [List.isSublist, he]
theorem sub_over {v w : List Int} {i k : Nat} (hi : v.length ≤ i) : (v.drop i).isSublist (w.drop k) = true := by
  rw [List.drop_of_length_le hi]; simp [List.isSublist]
theorem sub_end {v w : List Int} {i k : Nat} (hk : w.length ≤ k) : (v.drop i).isSublist (w.drop k) = decide (v.length ≤ i) := by
  rw [List.drop_of_length_le hk]
  rcases Nat.lt_or_ge i v.length with hi | hi
  · rw [List.drop_eq_getElem_cons hi]; simp [List.isSublist]; omega
  · rw [List.drop_of_length_le hi]; simp [List.isSublist]; omega
/-- The place in Sub's loop. -/
def At (v w : List Int) (i k : Nat) : Prop := (v.drop i).isSublist (w.drop k) = v.isSublist w
theorem at_start (v w : List Int) : At v w 0 0 := rfl

/-! ### which is ahead -/
/-- Of two words of one length: the lesser letter first. -/
def lx : List Int → List Int → Bool
  | a :: v, b :: w => if a = b then lx v w else decide (a < b)
  | _, _ => false
def lss (v w : List Int) : Bool := if v.length = w.length then lx v w else decide (v.length < w.length)
theorem lx_same {v w : List Int} {k : Nat} (hv : k < v.length) (hw : k < w.length) (he : v[k] = w[k]) : lx (v.drop (k + 1)) (w.drop (k + 1)) = lx (v.drop k) (w.drop k) := by
  rw [List.drop_eq_getElem_cons hv, List.drop_eq_getElem_cons hw, lx, if_pos he]
theorem lx_diff {v w : List Int} {k : Nat} (hv : k < v.length) (hw : k < w.length) (he : ¬ v[k] = w[k]) : lx (v.drop k) (w.drop k) = decide (v[k] < w[k]) := by
  rw [List.drop_eq_getElem_cons hv, List.drop_eq_getElem_cons hw, lx, if_neg he]
theorem lx_end {v w : List Int} {k : Nat} (hv : v.length ≤ k) : lx (v.drop k) (w.drop k) = false := by
  rw [List.drop_of_length_le hv]; rfl
def subOut (L : Int) (v w : List Int) : Bool × Nat := if chk2 L v w = 0 then (v.isSublist w, 0) else (false, chk2 L v w)
def lessOut (L : Int) (v w : List Int) : Bool × Nat := if chk2 L v w = 0 then (lss v w, 0) else (false, chk2 L v w)
theorem lx_irr : ∀ v : List Int, lx v v = false
  | [] => rfl
  | a :: v => by rw [lx, if_pos rfl]; exact lx_irr v
theorem lx_asym : ∀ v w : List Int, lx v w = true → lx w v = false
  | [], [], h => by cases h
  | [], _ :: _, h => by cases h
  | _ :: _, [], h => by cases h
  | a :: v, b :: w, h => by
    rw [lx] at h ⊢
    by_cases e : a = b
    · rw [if_pos e] at h; rw [if_pos e.symm]; exact lx_asym v w h
    · rw [if_neg e] at h; rw [if_neg (fun h => e h.symm)]; simp at h ⊢; omega
theorem lx_total : ∀ v w : List Int, v.length = w.length → lx v w = false → lx w v = false → v = w
  | [], [], _, _, _ => rfl
  | [], _ :: _, h, _, _ => by simp at h
  | _ :: _, [], h, _, _ => by simp at h
  | a :: v, b :: w, hl, h1, h2 => by
    rw [lx] at h1 h2
    by_cases e : a = b
    · rw [if_pos e] at h1; rw [if_pos e.symm] at h2
      rw [e, lx_total v w (by simpa using hl) h1 h2]
    · rw [if_neg e] at h1; rw [if_neg (fun h => e h.symm)] at h2
      simp at h1 h2; omega
theorem lx_trans : ∀ u v w : List Int, lx u v = true → lx v w = true → lx u w = true
  | [], [], _, h, _ => by cases h
  | [], _ :: _, _, h, _ => by cases h
  | _ :: _, [], _, h, _ => by cases h
  | _ :: _, _ :: _, [], _, h => by cases h
  | a :: u, b :: v, c :: w, h1, h2 => by
    rw [lx] at h1 h2 ⊢
    by_cases e1 : a = b
    · rw [if_pos e1] at h1
      by_cases e2 : b = c
      · rw [if_pos e2] at h2; rw [if_pos (e1.trans e2)]; exact lx_trans u v w h1 h2
      · rw [if_neg e2] at h2; rw [if_neg (by omega)]; simp at h2 ⊢; omega
    · rw [if_neg e1] at h1
      by_cases e2 : b = c
      · rw [if_pos e2] at h2; rw [if_neg (by omega)]; simp at h1 ⊢; omega
      · rw [if_neg e2] at h2; simp at h1 h2; rw [if_neg (by omega)]; simp; omega
theorem lss_asym {v w : List Int} (h : lss v w = true) : lss w v = false := by
  unfold lss at *
  by_cases e : v.length = w.length
  · rw [if_pos e] at h; rw [if_pos e.symm]; exact lx_asym v w h
  · rw [if_neg e] at h; rw [if_neg (fun h => e h.symm)]; simp at h ⊢; omega
theorem lss_irr (v : List Int) : lss v v = false := by unfold lss; rw [if_pos rfl]; exact lx_irr v
theorem lss_total {v w : List Int} (h1 : lss v w = false) (h2 : lss w v = false) : v = w := by
  unfold lss at *
  by_cases e : v.length = w.length
  · rw [if_pos e] at h1; rw [if_pos e.symm] at h2; exact lx_total v w e h1 h2
  · rw [if_neg e] at h1; rw [if_neg (fun h => e h.symm)] at h2; simp at h1 h2; omega
theorem lss_trans {u v w : List Int} (h1 : lss u v = true) (h2 : lss v w = true) : lss u w = true := by
  unfold lss at *
  by_cases e1 : u.length = v.length
  · rw [if_pos e1] at h1
    by_cases e2 : v.length = w.length
    · rw [if_pos e2] at h2; rw [if_pos (e1.trans e2)]; exact lx_trans u v w h1 h2
    · rw [if_neg e2] at h2; rw [if_neg (by omega)]; simp at h2 ⊢; omega
  · rw [if_neg e1] at h1
    by_cases e2 : v.length = w.length
    · rw [if_neg (by omega)]; simp at h1 ⊢; omega
    · rw [if_neg e2] at h2; simp at h1 h2; rw [if_neg (by omega)]; simp; omega
theorem lss_sub {v w : List Int} (h : v.Sublist w) : lss w v = false := by
  unfold lss
  have hl := h.length_le
  by_cases e : w.length = v.length
  · rw [if_pos e, h.eq_of_length e.symm]; exact lx_irr w
  · rw [if_neg e]; simp; omega
theorem sub_len {v w : List Int} (h : v.isSublist w = true) : v.length ≤ w.length := (List.isSublist_iff_sublist.1 h).length_le
end Go.Proofs.YtbciefeipiphiaaDoor.Wo

namespace Go.Proofs.YtbciefeipiphiaaDoor.Df

structure Aut where
  L : Int
  s : Int
  next : List (List Int)
  fin : List Bool
def zeroA : Aut := ⟨0, 0, [], []⟩
def isSt (d : Aut) (x : Int) : Prop := 0 ≤ x ∧ x < d.next.length
instance (d : Aut) (x : Int) : Decidable (isSt d x) := inferInstanceAs (Decidable (_ ∧ _))
def shaped (d : Aut) : Prop := d.next.length ≠ 0 ∧ d.fin.length = d.next.length ∧ ∀ r ∈ d.next, (r.length : Int) = d.L
instance (d : Aut) : Decidable (shaped d) := inferInstanceAs (Decidable (_ ∧ _ ∧ _))
/-- What is wrong with an automaton. -/
def dchk (d : Aut) : Nat :=
  if d.L < 1 ∨ 6 < d.L then 1 else if 40 < d.next.length then 4 else if ¬ shaped d then 3 else if ¬ isSt d d.s then 1 else if ∀ r ∈ d.next, ∀ x ∈ r, isSt d x then 0 else 1
structure Good (d : Aut) : Prop where
  l1 : 1 ≤ d.L
  l6 : d.L ≤ 6
  n1 : 1 ≤ d.next.length
  n40 : d.next.length ≤ 40
  fin : d.fin.length = d.next.length
  row : ∀ r ∈ d.next, (r.length : Int) = d.L
  st : isSt d d.s
  go : ∀ r ∈ d.next, ∀ x ∈ r, isSt d x
theorem dchk_iff {d : Aut} : dchk d = 0 ↔ Good d := by
  unfold dchk
  constructor
  · intro h
    split at h
    · omega
    split at h
    · omega
    split at h
    · omega
    split at h
    · omega
    split at h
    · rename_i h1 h2 h3 h4 h5
      have h3 : shaped d := Decidable.not_not.1 h3
      exact ⟨by omega, by omega, by have := h3.1; omega, by omega, h3.2.1, h3.2.2, Decidable.not_not.1 h4, h5⟩
    · omega
  · intro g
    have h1 := g.l1; have h2 := g.l6; have h3 := g.n40; have h4 := g.n1
    rw [if_neg (by omega), if_neg (by omega), if_neg (fun h => h ⟨by omega, g.fin, g.row⟩), if_neg (fun h => h g.st), if_pos g.go]
theorem dchk_bad_L {d : Aut} (h : d.L < 1 ∨ 6 < d.L) : dchk d = 1 := by unfold dchk; rw [if_pos h]
theorem dchk_bad_n {d : Aut} (h : ¬ (d.L < 1 ∨ 6 < d.L)) (h2 : 40 < d.next.length) : dchk d = 4 := by unfold dchk; rw [if_neg h, if_pos h2]
theorem dchk_bad_shape {d : Aut} (h : ¬ (d.L < 1 ∨ 6 < d.L)) (h2 : ¬ 40 < d.next.length) (h3 : ¬ shaped d) : dchk d = 3 := by unfold dchk; rw [if_neg h, if_neg h2, if_pos h3]
theorem dchk_bad_s {d : Aut} (h : ¬ (d.L < 1 ∨ 6 < d.L)) (h2 : ¬ 40 < d.next.length) (h3 : shaped d) (h4 : ¬ isSt d d.s) : dchk d = 1 := by
  unfold dchk; rw [if_neg h, if_neg h2, if_neg (fun k => k h3), if_pos h4]
theorem dchk_bad_go {d : Aut} (h : ¬ (d.L < 1 ∨ 6 < d.L)) (h2 : ¬ 40 < d.next.length) (h3 : shaped d) (h4 : isSt d d.s) {r : List Int} (hr : r ∈ d.next) {x : Int} (hx : x ∈ r) (h5 : ¬ isSt d x) : dchk d = 1 := by
  unfold dchk; rw [if_neg h, if_neg h2, if_neg (fun k => k h3), if_neg (fun k => k h4), if_neg (fun k => h5 (k r hr x hx))]
theorem dchk_ok {d : Aut} (h : ¬ (d.L < 1 ∨ 6 < d.L)) (h2 : ¬ 40 < d.next.length) (h3 : shaped d) (h4 : isSt d d.s) (h5 : ∀ r ∈ d.next, ∀ x ∈ r, isSt d x) : dchk d = 0 := by
  unfold dchk; rw [if_neg h, if_neg h2, if_neg (fun k => k h3), if_neg (fun k => k h4), if_pos h5]
theorem dchk_le (d : Aut) : dchk d ≤ 4 := by
  unfold dchk; repeat' split
  all_goals omega

/-! ### runs -/
def step (d : Aut) (q a : Nat) : Nat := (((d.next[q]?.getD [])[a]?.getD 0)).toNat
def runA (d : Aut) (q : Nat) (w : List Int) : Nat := w.foldl (fun q a => step d q a.toNat) q
def finA (d : Aut) (q : Nat) : Bool := d.fin[q]?.getD false
def accA (d : Aut) (w : List Int) : Bool := finA d (runA d d.s.toNat w)
/-- The row of a state, and what it says of a letter. -/
theorem Good.at_ {d : Aut} (g : Good d) {q a : Nat} (hq : q < d.next.length) (ha : (a : Int) < d.L) :
    ∃ r, d.next[q]? = some r ∧ r ∈ d.next ∧ (r.length : Int) = d.L ∧ r[a]? = some ((step d q a : Nat) : Int) ∧ step d q a < d.next.length := by
  have hm := List.getElem_mem (l := d.next) hq
  have hl := g.row _ hm
  have ha' : a < (d.next[q]).length := by omega
  have hx := g.go _ hm _ (List.getElem_mem ha')
  have e : step d q a = ((d.next[q])[a]).toNat := by
    unfold step
    rw [List.getElem?_eq_getElem hq, Option.getD_some, List.getElem?_eq_getElem ha', Option.getD_some]
  refine ⟨d.next[q], List.getElem?_eq_getElem hq, hm, hl, ?_, ?_⟩
  · rw [List.getElem?_eq_getElem ha', e]
    have := hx.1
    congr 1
    omega
  · rw [e]; have := hx.1; have := hx.2; omega
theorem Good.step_lt {d : Aut} (g : Good d) {q a : Nat} (hq : q < d.next.length) (ha : (a : Int) < d.L) : step d q a < d.next.length := by
  obtain ⟨_, _, _, _, _, h⟩ := g.at_ hq ha; exact h
theorem Good.s_lt {d : Aut} (g : Good d) : d.s.toNat < d.next.length := by have := g.st.1; have := g.st.2; omega
theorem Good.s_eq {d : Aut} (g : Good d) : ((d.s.toNat : Nat) : Int) = d.s := by have := g.st.1; omega
theorem Good.fin_at {d : Aut} (g : Good d) {q : Nat} (hq : q < d.next.length) : d.fin[q]? = some (finA d q) := by
  unfold finA
  rw [List.getElem?_eq_getElem (by rw [g.fin]; exact hq)]; rfl
def Word (L : Int) (w : List Int) : Prop := ∀ a ∈ w, 0 ≤ a ∧ a < L
theorem Good.run_lt {d : Aut} (g : Good d) {w : List Int} (hw : Word d.L w) {q : Nat} (hq : q < d.next.length) : runA d q w < d.next.length := by
  induction w generalizing q with
  | nil => exact hq
  | cons a w ih =>
    have h := hw a (List.mem_cons_self)
    exact ih (fun b hb => hw b (List.mem_cons_of_mem _ hb)) (g.step_lt hq (by omega))
theorem runA_append (d : Aut) (q : Nat) (v w : List Int) : runA d q (v ++ w) = runA d (runA d q v) w := List.foldl_append
theorem runA_take_succ (d : Aut) (q : Nat) (w : List Int) {k : Nat} (hk : k < w.length) : runA d q (w.take (k + 1)) = step d (runA d q (w.take k)) (w[k]).toNat := by
  rw [← List.take_append_getElem hk, runA_append]; rfl

/-! ### what is found from a start, in order -/
section
variable {α : Type} [DecidableEq α]
def addTo (l : List α) (t : α) : List α := if t ∈ l then l else l ++ [t]
def addAll (l ts : List α) : List α := ts.foldl addTo l
theorem addTo_prefix (l : List α) (t : α) : ∃ m, addTo l t = l ++ m := by
  unfold addTo; split
  · exact ⟨[], by simp⟩
  · exact ⟨[t], rfl⟩
theorem addAll_prefix (l ts : List α) : ∃ m, addAll l ts = l ++ m := by
  induction ts generalizing l with
  | nil => exact ⟨[], by simp [addAll]⟩
  | cons t ts ih =>
    obtain ⟨m, hm⟩ := addTo_prefix l t
    obtain ⟨m', hm'⟩ := ih (addTo l t)
    refine ⟨m ++ m', ?_⟩
    show addAll (addTo l t) ts = _
    rw [hm', hm, List.append_assoc]
theorem mem_addTo {l : List α} {t x : α} : x ∈ addTo l t ↔ x ∈ l ∨ x = t := by
  unfold addTo; split
  · constructor
    · exact .inl
    · rintro (h | rfl)
      · exact h
      · assumption
  · simp
theorem mem_addAll {l ts : List α} {x : α} : x ∈ addAll l ts ↔ x ∈ l ∨ x ∈ ts := by
  induction ts generalizing l with
  | nil => simp [addAll]
  | cons t ts ih =>
    show x ∈ addAll (addTo l t) ts ↔ _
    rw [ih, mem_addTo, List.mem_cons, or_assoc]
theorem nodup_addTo {l : List α} (h : l.Nodup) (t : α) : (addTo l t).Nodup := by
  unfold addTo; split
  · exact h
  · rename_i hn
    rw [List.nodup_append]
    exact ⟨h, by simp, fun a ha b hb e => by simp at hb; subst hb; subst e; exact hn ha⟩
theorem nodup_addAll {l : List α} (h : l.Nodup) (ts : List α) : (addAll l ts).Nodup := by
  induction ts generalizing l with
  | nil => exact h
  | cons t ts ih => exact ih (nodup_addTo h t)
theorem addAll_take_succ (l ts : List α) {c : Nat} (hc : c < ts.length) : addAll l (ts.take (c + 1)) = addTo (addAll l (ts.take c)) ts[c] := by
  rw [← List.take_append_getElem hc]; unfold addAll; rw [List.foldl_append]; rfl
theorem addAll_length_le (l ts : List α) : (addAll l ts).length ≤ l.length + ts.length := by
  induction ts generalizing l with
  | nil => simp [addAll]
  | cons t ts ih =>
    have h := ih (addTo l t)
    have : (addTo l t).length ≤ l.length + 1 := by
      unfold addTo; split
      · omega
      · simp
    show (addAll (addTo l t) ts).length ≤ _
    simp only [List.length_cons]; omega
/-- Its place in a list. -/
def num (l : List α) (t : α) : Nat := l.idxOf t
theorem idx_append {l m : List α} {t : α} (h : t ∈ l) : num (l ++ m) t = num l t := by
  unfold num; rw [List.idxOf_append, if_pos h]
theorem idx_new {l : List α} {t : α} (h : t ∉ l) : num (l ++ [t]) t = l.length := by
  unfold num; rw [List.idxOf_append, if_neg h, List.idxOf_cons_self]; omega
theorem idx_get {l : List α} {t : α} (h : t ∈ l) : l[num l t]? = some t := by
  unfold num
  have := List.idxOf_lt_length_of_mem h
  rw [List.getElem?_eq_getElem this, List.getElem_idxOf]
theorem idx_lt {l : List α} {t : α} (h : t ∈ l) : num l t < l.length := List.idxOf_lt_length_of_mem h
theorem idx_of {l : List α} (hn : l.Nodup) {k : Nat} {t : α} (h : l[k]? = some t) : num l t = k := by
  obtain ⟨h1, h2⟩ := List.getElem?_eq_some_iff.1 h
  have hm : t ∈ l := h2 ▸ List.getElem_mem h1
  have h3 := idx_get hm
  obtain ⟨h4, h5⟩ := List.getElem?_eq_some_iff.1 h3
  exact (List.getElem_inj hn).1 (h5.trans h2.symm)
theorem idx_at {l : List α} {t : α} {k : Nat} (h : t ∉ l.take k) (hk : k < l.length) (he : t = l[k]) : num l t = k := by
  unfold num
  have e : l = l.take k ++ l.drop k := (List.take_append_drop k l).symm
  rw [e, List.idxOf_append, if_neg h, List.drop_eq_getElem_cons hk, ← he, List.idxOf_cons_self, List.length_take]
  omega

/-- All that is found; none if there are more than 40. -/
def expl (S : α → List α) : Nat → Nat → List α → Option (List α)
  | 0, _, l => some l
  | f + 1, i, l =>
    match l[i]? with
    | none => some l
    | some x => if 40 < (addAll l (S x)).length then none else expl S f (i + 1) (addAll l (S x))
def found (S : α → List α) (a : α) : Option (List α) := expl S 41 0 [a]
/-- What is reached. -/
inductive Rch (S : α → List α) (a : α) : α → Prop
  | base : Rch S a a
  | next {x t : α} : Rch S a x → t ∈ S x → Rch S a t
/-- Midway: i of them are done. -/
structure Part (S : α → List α) (a : α) (i : Nat) (l : List α) : Prop where
  eq : expl S (41 - i) i l = found S a
  nd : l.Nodup
  le : i ≤ l.length
  n40 : l.length ≤ 40
  hd : l[0]? = some a
  closed : ∀ k, k < i → ∀ x, l[k]? = some x → ∀ t ∈ S x, t ∈ l
  rch : ∀ x ∈ l, Rch S a x
theorem part_zero (S : α → List α) (a : α) : Part S a 0 [a] :=
  ⟨rfl, by simp, by simp, by simp, rfl, fun k hk => by omega, fun x hx => by simp at hx; subst hx; exact .base⟩
theorem Part.n1 {S : α → List α} {a : α} {i : Nat} {l : List α} (h : Part S a i l) : 1 ≤ l.length := by
  have := (List.getElem?_eq_some_iff.1 h.hd).1; omega
theorem Part.step {S : α → List α} {a : α} {i : Nat} {l : List α} (h : Part S a i l) {x : α} (hx : l[i]? = some x) :
    (40 < (addAll l (S x)).length → found S a = none) ∧ (¬ 40 < (addAll l (S x)).length → Part S a (i + 1) (addAll l (S x))) := by
  have hi := (List.getElem?_eq_some_iff.1 hx).1
  have h40 := h.n40
  obtain ⟨f, hf⟩ : ∃ f, 41 - i = f + 1 := ⟨40 - i, by omega⟩
  have he := h.eq
  rw [hf, expl, hx] at he
  simp only at he
  obtain ⟨m, hm⟩ := addAll_prefix l (S x)
  have hxm : x ∈ l := (List.getElem?_eq_some_iff.1 hx).2 ▸ List.getElem_mem hi
  constructor
  · intro hl; rw [if_pos hl] at he; exact he.symm
  · intro hl
    rw [if_neg hl] at he
    have hf' : 41 - (i + 1) = f := by omega
    refine ⟨by rw [hf']; exact he, nodup_addAll h.nd _, ?_, by omega, ?_, ?_, ?_⟩
    · rw [hm, List.length_append]; omega
    · rw [hm, List.getElem?_append_left (by omega)]; exact h.hd
    · intro k hk y hy t ht
      rw [mem_addAll]
      by_cases e : k = i
      · subst e
        rw [hm, List.getElem?_append_left hi, hx] at hy
        cases hy
        exact .inr ht
      · rw [hm, List.getElem?_append_left (by omega)] at hy
        exact .inl (h.closed k (by omega) y hy t ht)
    · intro y hy
      rcases mem_addAll.1 hy with hy | hy
      · exact h.rch y hy
      · exact .next (h.rch x hxm) hy
theorem Part.stop {S : α → List α} {a : α} {i : Nat} {l : List α} (h : Part S a i l) (hi : l.length ≤ i) : found S a = some l := by
  have h40 := h.n40
  have := h.le
  obtain ⟨f, hf⟩ : ∃ f, 41 - i = f + 1 := ⟨40 - i, by omega⟩
  have he := h.eq
  rw [hf, expl, List.getElem?_eq_none hi] at he
  exact he.symm
/-- What all that is found is like. -/
structure Whole (S : α → List α) (a : α) (l : List α) : Prop where
  nd : l.Nodup
  n1 : 1 ≤ l.length
  n40 : l.length ≤ 40
  hd : l[0]? = some a
  closed : ∀ x ∈ l, ∀ t ∈ S x, t ∈ l
  rch : ∀ x ∈ l, Rch S a x
theorem Part.whole {S : α → List α} {a : α} {i : Nat} {l : List α} (h : Part S a i l) (hi : l.length ≤ i) : Whole S a l := by
  refine ⟨h.nd, h.n1, h.n40, h.hd, fun x hx t ht => ?_, h.rch⟩
  obtain ⟨k, hk, rfl⟩ := List.getElem_of_mem hx
  exact h.closed k (by omega) _ (List.getElem?_eq_getElem hk) t ht
/-- Either all is found, or there are more than 40. -/
theorem part_ends (S : α → List α) (a : α) : ∀ (n i : Nat) (l : List α), 41 - i = n → Part S a i l →
    (∃ m, found S a = some m ∧ Whole S a m) ∨ (found S a = none ∧ ∃ m : List α, m.Nodup ∧ 40 < m.length ∧ ∀ x ∈ m, Rch S a x) := by
  intro n
  induction n with
  | zero => intro i l hn h; have := h.le; have := h.n40; omega
  | succ n ih =>
    intro i l hn h
    rcases hx : l[i]? with _ | x
    · have hi := List.getElem?_eq_none_iff.1 hx
      exact .inl ⟨l, h.stop hi, h.whole hi⟩
    · obtain ⟨h1, h2⟩ := h.step hx
      by_cases hl : 40 < (addAll l (S x)).length
      · refine .inr ⟨h1 hl, addAll l (S x), nodup_addAll h.nd _, hl, fun y hy => ?_⟩
        have hxm : x ∈ l := by obtain ⟨h3, h4⟩ := List.getElem?_eq_some_iff.1 hx; exact h4 ▸ List.getElem_mem h3
        rcases mem_addAll.1 hy with hy | hy
        · exact h.rch y hy
        · exact .next (h.rch x hxm) hy
      · exact ih (i + 1) _ (by omega) (h2 hl)
theorem found_cases (S : α → List α) (a : α) :
    (∃ m, found S a = some m ∧ Whole S a m) ∨ (found S a = none ∧ ∃ m : List α, m.Nodup ∧ 40 < m.length ∧ ∀ x ∈ m, Rch S a x) := part_ends S a 41 0 [a] rfl (part_zero S a)
theorem found_whole {S : α → List α} {a : α} {l : List α} (h : found S a = some l) : Whole S a l := by
  rcases found_cases S a with ⟨m, h1, h2⟩ | ⟨h1, _⟩
  · rw [h] at h1; cases h1; exact h2
  · rw [h] at h1; cases h1
end
theorem Whole.mem_iff {α : Type} {S : α → List α} {a : α} {l : List α} (h : Whole S a l) {x : α} : x ∈ l ↔ Rch S a x := by
  refine ⟨h.rch x, fun hr => ?_⟩
  induction hr with
  | base => exact List.mem_of_getElem? h.hd
  | next _ ht ih => exact h.closed _ ih _ ht

/-- No list of different numbers below n is longer than n. -/
theorem nodup_le : ∀ (n : Nat) (l : List Nat), l.Nodup → (∀ x ∈ l, x < n) → l.length ≤ n := by
  intro n
  induction n with
  | zero =>
    intro l _ h
    rcases l with _ | ⟨x, l⟩
    · simp
    · have := h x (List.mem_cons_self); omega
  | succ n ih =>
    intro l hn h
    have h1 := ih (l.filter (fun x => decide (x ≠ n))) (hn.filter _) (fun x hx => by
      rw [List.mem_filter] at hx
      have := h x hx.1
      have : x ≠ n := by simpa using hx.2
      omega)
    have h2 : ∀ l : List Nat, l.Nodup → l.length ≤ (l.filter (fun x => decide (x ≠ n))).length + 1 := by
      intro l
      induction l with
      | nil => simp
      | cons x l ih2 =>
        intro hn
        obtain ⟨h3, h4⟩ := List.nodup_cons.1 hn
        have := ih2 h4
        by_cases e : x = n
        · subst e
          have : l.filter (fun y => decide (y ≠ x)) = l := List.filter_eq_self.2 (fun y hy => by simp; intro e; subst e; exact h3 hy)
          rw [List.filter_cons, if_neg (by simp), this]; simp
        · rw [List.filter_cons, if_pos (by simpa using e)]; simp only [List.length_cons]; omega
    have := h2 l hn
    omega
theorem nodup_le_of {α : Type} {l : List α} {n : Nat} (hn : l.Nodup) (f : α → Nat) (hf : ∀ x ∈ l, ∀ y ∈ l, f x = f y → x = y) (hlt : ∀ x ∈ l, f x < n) : l.length ≤ n := by
  have : (l.map f).Nodup := by
    rw [List.nodup_iff_pairwise_ne] at hn ⊢
    rw [List.pairwise_map]
    exact List.Pairwise.imp_of_mem (fun {a b} ha hb h e => h (hf a ha b hb e)) hn
  have h2 := nodup_le n (l.map f) this (fun x hx => by obtain ⟨y, hy, rfl⟩ := List.mem_map.1 hx; exact hlt y hy)
  simpa using h2

/-! ### the automaton of what is found -/
section
variable {α : Type} [DecidableEq α]
/-- The row of one. -/
def srow (S : α → List α) (l : List α) (x : α) : List Int := (S x).map fun t => ((num l t : Nat) : Int)
theorem srow_length (S : α → List α) (l : List α) (x : α) : (srow S l x).length = (S x).length := List.length_map _
theorem srow_grow {S : α → List α} {l m : List α} {x : α} (h : ∀ t ∈ S x, t ∈ l) : srow S (l ++ m) x = srow S l x :=
  List.map_congr_left fun t ht => by rw [idx_append (h t ht)]
/-- The row of one, as far as letter c; what is found grows on the way. -/
def prow (S : α → List α) (l : List α) (x : α) (n c : Nat) : List Int := ((S x).take c).map (fun t => ((num (addAll l ((S x).take c)) t : Nat) : Int)) ++ List.replicate (n - c) 0
theorem prow_zero (S : α → List α) (l : List α) (x : α) (n : Nat) : prow S l x n 0 = List.replicate n 0 := by simp [prow]
theorem prow_length {S : α → List α} {l : List α} {x : α} {n c : Nat} (h : (S x).length = n) (hc : c ≤ n) : (prow S l x n c).length = n := by
  unfold prow; rw [List.length_append, List.length_map, List.length_take, List.length_replicate]; omega
theorem addAll_succ {S : α → List α} {l : List α} {x t : α} {c : Nat} (h : (S x)[c]? = some t) : addAll l ((S x).take (c + 1)) = addTo (addAll l ((S x).take c)) t := by
  obtain ⟨h1, h2⟩ := List.getElem?_eq_some_iff.1 h
  rw [addAll_take_succ l (S x) h1, h2]
theorem prow_step {S : α → List α} {l : List α} {x t : α} {n c : Nat} (h : (S x)[c]? = some t) (hn : c < n) :
    (prow S l x n c).set c ((num (addTo (addAll l ((S x).take c)) t) t : Nat) : Int) = prow S l x n (c + 1) := by
  have hc := (List.getElem?_eq_some_iff.1 h).1
  have ht := (List.getElem?_eq_some_iff.1 h).2
  obtain ⟨m, hm⟩ := addTo_prefix (addAll l ((S x).take c)) t
  unfold prow
  rw [addAll_succ h, List.set_append_right _ _ (by rw [List.length_map, List.length_take]; omega)]
  rw [show n - c = (n - (c + 1)) + 1 by omega, List.replicate_succ, List.length_map, List.length_take, show c - min c (S x).length = 0 by omega, List.set_cons_zero]
  rw [← List.take_append_getElem hc, List.map_append, ht]
  have e : ((S x).take c).map (fun t' => ((num (addTo (addAll l ((S x).take c)) t) t' : Nat) : Int)) = ((S x).take c).map (fun t' => ((num (addAll l ((S x).take c)) t' : Nat) : Int)) :=
    List.map_congr_left fun y hy => by rw [hm, idx_append (mem_addAll.2 (.inr hy))]
  rw [e]
  simp
theorem prow_full {S : α → List α} {l : List α} {x : α} {n : Nat} (h : (S x).length = n) : prow S l x n n = srow S (addAll l (S x)) x := by
  unfold prow srow
  rw [List.take_of_length_le (by omega), Nat.sub_self, List.replicate_zero, List.append_nil]
theorem rows_next {S : α → List α} {a : α} {i : Nat} {l : List α} (h : Part S a i l) {x : α} (hx : l[i]? = some x) :
    ((addAll l (S x)).take (i + 1)).map (srow S (addAll l (S x))) = (l.take i).map (srow S l) ++ [srow S (addAll l (S x)) x] := by
  obtain ⟨hi, he⟩ := List.getElem?_eq_some_iff.1 hx
  obtain ⟨m, hm⟩ := addAll_prefix l (S x)
  have e1 : (addAll l (S x)).take (i + 1) = l.take i ++ [x] := by
    rw [hm, List.take_append_of_le_length (by omega), ← List.take_append_getElem hi, he]
  rw [e1, List.map_append, List.map_singleton]
  congr 1
  refine List.map_congr_left fun y hy => ?_
  rw [hm]
  obtain ⟨k, hk, rfl⟩ := List.getElem_of_mem hy
  rw [List.length_take] at hk
  refine srow_grow fun t ht => h.closed k (by omega) _ ?_ t ht
  rw [List.getElem_take]; exact List.getElem?_eq_getElem (by omega)
theorem flags_next {S : α → List α} {i : Nat} {l : List α} {x : α} (f : α → Bool) (hx : l[i]? = some x) :
    ((addAll l (S x)).take (i + 1)).map f = (l.take i).map f ++ [f x] := by
  obtain ⟨hi, he⟩ := List.getElem?_eq_some_iff.1 hx
  obtain ⟨m, hm⟩ := addAll_prefix l (S x)
  rw [hm, List.take_append_of_le_length (by omega), ← List.take_append_getElem hi, he, List.map_append]; rfl
def autOf (L : Int) (S : α → List α) (l : List α) (f : α → Bool) : Aut := ⟨L, 0, l.map (srow S l), l.map f⟩
theorem autOf_good {L : Int} {S : α → List α} {a : α} {l : List α} {f : α → Bool} (h : Whole S a l) (h1 : 1 ≤ L) (h6 : L ≤ 6) (hS : ∀ x ∈ l, ((S x).length : Int) = L) : Good (autOf L S l f) := by
  have hn := h.n1
  refine ⟨h1, h6, by simpa [autOf] using h.n1, by simpa [autOf] using h.n40, by simp [autOf], fun r hr => ?_, ?_, fun r hr x hx => ?_⟩
  · obtain ⟨x, hx, rfl⟩ := List.mem_map.1 hr
    rw [srow_length]; exact hS x hx
  · refine ⟨Int.le_refl _, ?_⟩
    simp only [autOf, List.length_map]; omega
  · obtain ⟨y, hy, rfl⟩ := List.mem_map.1 hr
    obtain ⟨t, ht, rfl⟩ := List.mem_map.1 hx
    have := idx_lt (h.closed y hy t ht)
    refine ⟨by omega, ?_⟩
    simp only [autOf, List.length_map]; omega
/-- The next one by a letter. -/
def via (S : α → List α) (x : α) (a : Nat) : α := (S x)[a]?.getD x
def viaAll (S : α → List α) (x : α) (w : List Int) : α := w.foldl (fun x a => via S x a.toNat) x
theorem autOf_step {L : Int} {S : α → List α} {a : α} {l : List α} {f : α → Bool} (h : Whole S a l) (hS : ∀ x ∈ l, ((S x).length : Int) = L) {x : α} (hx : x ∈ l) {c : Nat} (hc : (c : Int) < L) :
    via S x c ∈ l ∧ step (autOf L S l f) (num l x) c = num l (via S x c) := by
  have hl := hS x hx
  have hc' : c < (S x).length := by omega
  have e : via S x c = (S x)[c] := by unfold via; rw [List.getElem?_eq_getElem hc']; rfl
  refine ⟨by rw [e]; exact h.closed x hx _ (List.getElem_mem hc'), ?_⟩
  unfold step autOf
  simp only [List.getElem?_map]
  rw [idx_get hx]
  simp only [Option.map_some, Option.getD_some, srow, List.getElem?_map]
  rw [List.getElem?_eq_getElem hc', e]
  simp
theorem autOf_run {L : Int} {S : α → List α} {a : α} {l : List α} {f : α → Bool} (h : Whole S a l) (hS : ∀ x ∈ l, ((S x).length : Int) = L) {w : List Int} (hw : Word L w) {x : α} (hx : x ∈ l) :
    viaAll S x w ∈ l ∧ runA (autOf L S l f) (num l x) w = num l (viaAll S x w) := by
  induction w generalizing x with
  | nil => exact ⟨hx, rfl⟩
  | cons b w ih =>
    have hb := hw b (List.mem_cons_self)
    obtain ⟨h1, h2⟩ := autOf_step (f := f) h hS hx (c := b.toNat) (by omega)
    obtain ⟨h3, h4⟩ := ih (fun y hy => hw y (List.mem_cons_of_mem _ hy)) h1
    refine ⟨h3, ?_⟩
    show runA _ (step _ _ _) w = _
    rw [h2, h4]; rfl
theorem autOf_acc {L : Int} {S : α → List α} {a : α} {l : List α} {f : α → Bool} (h : Whole S a l) (hS : ∀ x ∈ l, ((S x).length : Int) = L) {w : List Int} (hw : Word L w) :
    accA (autOf L S l f) w = f (viaAll S a w) := by
  have ha : a ∈ l := List.mem_of_getElem? h.hd
  have h0 : num l a = 0 := idx_of h.nd h.hd
  obtain ⟨h1, h2⟩ := autOf_run (f := f) h hS hw ha
  unfold accA finA
  rw [h0] at h2
  show ((autOf L S l f).fin[runA _ 0 w]?).getD false = _
  rw [h2]
  simp only [autOf, List.getElem?_map]
  rw [idx_get h1]; rfl
end

/-! ### Not, and the products -/
def notA (d : Aut) : Aut := ⟨d.L, d.s, d.next, d.fin.map (!·)⟩
def notOut (d : Aut) : Aut × Nat := if dchk d = 0 then (notA d, 0) else (zeroA, dchk d)
theorem notA_good {d : Aut} (g : Good d) : Good (notA d) := ⟨g.l1, g.l6, g.n1, g.n40, by simpa [notA] using g.fin, g.row, g.st, g.go⟩
theorem notA_run (d : Aut) (q : Nat) (w : List Int) : runA (notA d) q w = runA d q w := rfl
theorem notA_fin {d : Aut} (g : Good d) {q : Nat} (hq : q < d.next.length) : finA (notA d) q = !finA d q := by
  unfold finA notA
  simp only [List.getElem?_map]
  rw [List.getElem?_eq_getElem (by rw [g.fin]; exact hq)]
  rfl
theorem notA_acc {d : Aut} (g : Good d) {w : List Int} (hw : Word d.L w) : accA (notA d) w = !accA d w := notA_fin g (g.run_lt hw g.s_lt)
theorem notA_notA (d : Aut) : notA (notA d) = d := by
  unfold notA; simp [Function.comp_def]
/-- The pairs that follow a pair. -/
def S2 (a b : Aut) (p : Nat × Nat) : List (Nat × Nat) := (List.range a.L.toNat).map fun c => (step a p.1 c, step b p.2 c)
theorem S2_length (a b : Aut) (p : Nat × Nat) : (S2 a b p).length = a.L.toNat := by simp [S2]
theorem S2_get (a b : Aut) (p : Nat × Nat) {c : Nat} (hc : (c : Int) < a.L) : (S2 a b p)[c]? = some (step a p.1 c, step b p.2 c) := by
  unfold S2; rw [List.getElem?_map, List.getElem?_range (by omega)]; rfl
def start2 (a b : Aut) : Nat × Nat := (a.s.toNat, b.s.toNat)
def chkD2 (a b : Aut) : Nat := if dchk a ≠ 0 then dchk a else if dchk b ≠ 0 then dchk b else if a.L ≠ b.L then 3 else 0
structure Good2 (a b : Aut) : Prop where
  ga : Good a
  gb : Good b
  eL : a.L = b.L
theorem chkD2_iff {a b : Aut} : chkD2 a b = 0 ↔ Good2 a b := by
  unfold chkD2
  constructor
  · intro h
    split at h
    · omega
    split at h
    · omega
    split at h
    · omega
    rename_i h1 h2 h3
    exact ⟨dchk_iff.1 (by omega), dchk_iff.1 (by omega), by omega⟩
  · intro g
    rw [if_neg (by have := dchk_iff.2 g.ga; omega), if_neg (by have := dchk_iff.2 g.gb; omega), if_neg (by have := g.eL; omega)]
theorem chkD2_le (a b : Aut) : chkD2 a b ≤ 4 := by
  unfold chkD2; have := dchk_le a; have := dchk_le b; repeat' split
  all_goals omega
def prodOut (g : Bool → Bool → Bool) (a b : Aut) : Aut × Nat :=
  if chkD2 a b ≠ 0 then (zeroA, chkD2 a b) else
    match found (S2 a b) (start2 a b) with
    | none => (zeroA, 4)
    | some l => (autOf a.L (S2 a b) l (fun p => g (finA a p.1) (finA b p.2)), 0)
theorem prodOut_bad {g : Bool → Bool → Bool} {a b : Aut} (h : chkD2 a b ≠ 0) : prodOut g a b = (zeroA, chkD2 a b) := by unfold prodOut; rw [if_pos h]
theorem prodOut_full {g : Bool → Bool → Bool} {a b : Aut} (h : chkD2 a b = 0) (hf : found (S2 a b) (start2 a b) = none) : prodOut g a b = (zeroA, 4) := by
  unfold prodOut; rw [if_neg (by omega), hf]
theorem prodOut_some {g : Bool → Bool → Bool} {a b : Aut} (h : chkD2 a b = 0) {l : List (Nat × Nat)} (hf : found (S2 a b) (start2 a b) = some l) :
    prodOut g a b = (autOf a.L (S2 a b) l (fun p => g (finA a p.1) (finA b p.2)), 0) := by
  unfold prodOut; rw [if_neg (by omega), hf]
/-- The pairs that are reached are pairs of states. -/
theorem rch_lt {a b : Aut} (g : Good2 a b) {p : Nat × Nat} (h : Rch (S2 a b) (start2 a b) p) : p.1 < a.next.length ∧ p.2 < b.next.length := by
  induction h with
  | base => exact ⟨g.ga.s_lt, g.gb.s_lt⟩
  | next _ ht ih =>
    unfold S2 at ht
    obtain ⟨c, hc, rfl⟩ := List.mem_map.1 ht
    rw [List.mem_range] at hc
    have := g.eL
    exact ⟨g.ga.step_lt ih.1 (by omega), g.gb.step_lt ih.2 (by omega)⟩
theorem S2_len {a b : Aut} (g : Good2 a b) (p : Nat × Nat) : ((S2 a b p).length : Int) = a.L := by
  rw [S2_length]; have := g.ga.l1; omega
theorem via2 (a b : Aut) (p : Nat × Nat) {c : Nat} (hc : (c : Int) < a.L) : via (S2 a b) p c = (step a p.1 c, step b p.2 c) := by
  unfold via; rw [S2_get a b p hc]; rfl
theorem viaAll2 {a b : Aut} {w : List Int} (hw : Word a.L w) (p : Nat × Nat) : viaAll (S2 a b) p w = (runA a p.1 w, runA b p.2 w) := by
  induction w generalizing p with
  | nil => rfl
  | cons x w ih =>
    have hx := hw x (List.mem_cons_self)
    show viaAll _ (via _ _ _) w = _
    rw [ih (fun y hy => hw y (List.mem_cons_of_mem _ hy)), via2 a b p (by omega)]; rfl
theorem prod_good {a b : Aut} (g : Good2 a b) {l : List (Nat × Nat)} (hf : found (S2 a b) (start2 a b) = some l) (f : Nat × Nat → Bool) : Good (autOf a.L (S2 a b) l f) :=
  autOf_good (found_whole hf) g.ga.l1 g.ga.l6 (fun x _ => S2_len g x)
theorem prod_acc {a b : Aut} (g : Good2 a b) {l : List (Nat × Nat)} (hf : found (S2 a b) (start2 a b) = some l) (h : Bool → Bool → Bool) {w : List Int} (hw : Word a.L w) :
    accA (autOf a.L (S2 a b) l (fun p => h (finA a p.1) (finA b p.2))) w = h (accA a w) (accA b w) := by
  rw [autOf_acc (found_whole hf) (fun x _ => S2_len g x) hw, viaAll2 hw]; rfl

/-! ### what exploring gives -/
/-- An automaton of what is found, or none. -/
def explOut {α : Type} [DecidableEq α] (L : Int) (S : α → List α) (a : α) (f : α → Bool) : Aut × Nat :=
  match found S a with
  | none => (zeroA, 4)
  | some l => (autOf L S l f, 0)
theorem explOut_none {α : Type} [DecidableEq α] {L : Int} {S : α → List α} {a : α} {f : α → Bool} (h : found S a = none) : explOut L S a f = (zeroA, 4) := by unfold explOut; rw [h]
theorem explOut_some {α : Type} [DecidableEq α] {L : Int} {S : α → List α} {a : α} {f : α → Bool} {l : List α} (h : found S a = some l) : explOut L S a f = (autOf L S l f, 0) := by unfold explOut; rw [h]
theorem prodOut_expl {g : Bool → Bool → Bool} {a b : Aut} (h : chkD2 a b = 0) : prodOut g a b = explOut a.L (S2 a b) (start2 a b) (fun p => g (finA a p.1) (finA b p.2)) := by
  rcases hf : found (S2 a b) (start2 a b) with _ | l
  · rw [explOut_none hf, prodOut_full h hf]
  · rw [explOut_some hf, prodOut_some h hf]
end Go.Proofs.YtbciefeipiphiaaDoor.Df

namespace Go.Proofs.YtbciefeipiphiaaDoor.Df

theorem nodup_map {α β : Type} {l : List α} (hn : l.Nodup) (f : α → β) (hf : ∀ x ∈ l, ∀ y ∈ l, f x = f y → x = y) : (l.map f).Nodup := by
  rw [List.nodup_iff_pairwise_ne] at hn ⊢
  rw [List.pairwise_map]
  exact List.Pairwise.imp_of_mem (fun {a b} ha hb h e => h (hf a ha b hb e)) hn
theorem nodup_sub {α : Type} [DecidableEq α] {l m : List α} (hn : l.Nodup) (hs : ∀ x ∈ l, x ∈ m) : l.length ≤ m.length :=
  nodup_le_of hn (num m) (fun x hx y hy e => by
    have h1 := idx_get (hs x hx)
    have h2 := idx_get (hs y hy)
    rw [e] at h1
    exact Option.some.inj (h1.symm.trans h2)) (fun x hx => idx_lt (hs x hx))
theorem rch_swap {a b : Aut} (hL : a.L = b.L) {p : Nat × Nat} (h : Rch (S2 a b) (start2 a b) p) : Rch (S2 b a) (start2 b a) (p.2, p.1) := by
  induction h with
  | base => exact .base
  | next _ ht ih =>
    unfold S2 at ht
    obtain ⟨c, hc, rfl⟩ := List.mem_map.1 ht
    refine .next ih ?_
    unfold S2
    exact List.mem_map.2 ⟨c, by rw [← hL]; exact hc, rfl⟩
theorem swap_le {a b : Aut} (hL : a.L = b.L) {l l' : List (Nat × Nat)} (hn : l.Nodup) (hr : ∀ x ∈ l, Rch (S2 a b) (start2 a b) x) (hw : Whole (S2 b a) (start2 b a) l') : l.length ≤ l'.length := by
  have h := nodup_sub (l := l.map fun p => (p.2, p.1)) (m := l') (nodup_map hn _ (fun x _ y _ e => Prod.ext (Prod.mk.inj e).2 (Prod.mk.inj e).1)) (fun x hx => by
    obtain ⟨p, hp, rfl⟩ := List.mem_map.1 hx
    exact hw.mem_iff.2 (rch_swap hL (hr p hp)))
  simpa using h
theorem found_swap {a b : Aut} (hL : a.L = b.L) (h : found (S2 a b) (start2 a b) = none) : found (S2 b a) (start2 b a) = none := by
  rcases found_cases (S2 b a) (start2 b a) with ⟨m, _, hw⟩ | ⟨h1, _⟩
  · rcases found_cases (S2 a b) (start2 a b) with ⟨m2, h2, _⟩ | ⟨_, m2, hn, hl, hr⟩
    · rw [h] at h2; cases h2
    · have := swap_le hL hn hr hw
      have := hw.n40
      omega
  · exact h1
theorem found_swap_len {a b : Aut} (hL : a.L = b.L) {l l' : List (Nat × Nat)} (h : found (S2 a b) (start2 a b) = some l) (h' : found (S2 b a) (start2 b a) = some l') : l.length = l'.length :=
  Nat.le_antisymm (swap_le hL (found_whole h).nd (found_whole h).rch (found_whole h')) (swap_le hL.symm (found_whole h').nd (found_whole h').rch (found_whole h))
/-- With itself. -/
theorem rch_diag {a : Aut} {p : Nat × Nat} (h : Rch (S2 a a) (start2 a a) p) : p.1 = p.2 := by
  induction h with
  | base => rfl
  | next _ ht ih =>
    unfold S2 at ht
    obtain ⟨c, hc, rfl⟩ := List.mem_map.1 ht
    simp only [ih]
theorem good2_self {a : Aut} (g : Good a) : Good2 a a := ⟨g, g, rfl⟩
theorem found_of_le {a b : Aut} (f : Nat × Nat → Nat) {n : Nat} (hf : ∀ p q, Rch (S2 a b) (start2 a b) p → Rch (S2 a b) (start2 a b) q → f p = f q → p = q) (hlt : ∀ p, Rch (S2 a b) (start2 a b) p → f p < n) (hn : n ≤ 40) :
    ∃ l, found (S2 a b) (start2 a b) = some l := by
  rcases found_cases (S2 a b) (start2 a b) with ⟨m, h, _⟩ | ⟨_, m, h1, h2, h3⟩
  · exact ⟨m, h⟩
  · have := nodup_le_of h1 f (fun x hx y hy e => hf x y (h3 x hx) (h3 y hy) e) (fun x hx => hlt x (h3 x hx))
    omega
theorem found_self {a : Aut} (g : Good a) : ∃ l, found (S2 a a) (start2 a a) = some l :=
  found_of_le (fun p => p.1) (fun p q hp hq e => Prod.ext e (by rw [← rch_diag hp, ← rch_diag hq]; exact e)) (fun p hp => (rch_lt (good2_self g) hp).1) g.n40
/-- With a product that it is in. -/
theorem rch_with {a b : Aut} (g : Good2 a b) {l : List (Nat × Nat)} (hf : found (S2 a b) (start2 a b) = some l) (f : Nat × Nat → Bool) {p : Nat × Nat}
    (h : Rch (S2 a (autOf a.L (S2 a b) l f)) (start2 a (autOf a.L (S2 a b) l f)) p) : ∃ q, l[p.2]? = some (p.1, q) := by
  have hw := found_whole hf
  induction h with
  | base => exact ⟨b.s.toNat, hw.hd⟩
  | next _ ht ih =>
    rename_i x t _
    obtain ⟨q, hq⟩ := ih
    obtain ⟨c, hc, rfl⟩ := List.mem_map.1 (show t ∈ (List.range a.L.toNat).map fun c => (step a x.1 c, step (autOf a.L (S2 a b) l f) x.2 c) from ht)
    rw [List.mem_range] at hc
    have hm : (x.1, q) ∈ l := List.mem_of_getElem? hq
    have hk : num l (x.1, q) = x.2 := idx_of hw.nd hq
    obtain ⟨h1, h2⟩ := autOf_step (f := f) hw (fun y _ => S2_len g y) hm (c := c) (by omega)
    rw [hk] at h2
    have hv := via2 a b (x.1, q) (c := c) (by omega)
    rw [hv] at h1 h2
    refine ⟨step b q c, ?_⟩
    show l[step (autOf a.L (S2 a b) l f) x.2 c]? = _
    rw [h2]
    exact idx_get h1
theorem found_with {a b : Aut} (g : Good2 a b) {l : List (Nat × Nat)} (hf : found (S2 a b) (start2 a b) = some l) (f : Nat × Nat → Bool) :
    ∃ m, found (S2 a (autOf a.L (S2 a b) l f)) (start2 a (autOf a.L (S2 a b) l f)) = some m := by
  refine found_of_le (fun p => p.2) (n := l.length) (fun p q hp hq e => ?_) (fun p hp => ?_) (found_whole hf).n40
  · obtain ⟨x, hx⟩ := rch_with g hf f hp
    obtain ⟨y, hy⟩ := rch_with g hf f hq
    rw [show p.2 = q.2 from e, hy] at hx
    simp only [Option.some.injEq, Prod.mk.injEq] at hx
    exact Prod.ext hx.1.symm e
  · obtain ⟨x, hx⟩ := rch_with g hf f hp
    exact (List.getElem?_eq_some_iff.1 hx).1
theorem good2_with {a b : Aut} (g : Good2 a b) {l : List (Nat × Nat)} (hf : found (S2 a b) (start2 a b) = some l) (f : Nat × Nat → Bool) : Good2 a (autOf a.L (S2 a b) l f) := ⟨g.ga, prod_good g hf f, rfl⟩
/-- More than 40 pairs are more than 40 pairs of states. -/
theorem found_none_mul {a b : Aut} (g : Good2 a b) (h : found (S2 a b) (start2 a b) = none) : 40 < a.next.length * b.next.length := by
  rcases found_cases (S2 a b) (start2 a b) with ⟨m, h1, _⟩ | ⟨_, m, h1, h2, h3⟩
  · rw [h] at h1; cases h1
  · have := nodup_le_of h1 (fun p => p.1 * b.next.length + p.2) (n := a.next.length * b.next.length) (fun p hp q hq e => by
      have k1 := (rch_lt g (h3 p hp)).2
      have k2 := (rch_lt g (h3 q hq)).2
      have e : p.1 * b.next.length + p.2 = q.1 * b.next.length + q.2 := e
      have e1 : p.1 = q.1 := by
        rcases Nat.lt_trichotomy p.1 q.1 with hlt | he | hlt
        · have := Nat.mul_le_mul_right b.next.length (show p.1 + 1 ≤ q.1 from hlt)
          rw [Nat.succ_mul] at this; omega
        · exact he
        · have := Nat.mul_le_mul_right b.next.length (show q.1 + 1 ≤ p.1 from hlt)
          rw [Nat.succ_mul] at this; omega
      rw [e1] at e
      exact Prod.ext e1 (by omega)) (fun p hp => by
      obtain ⟨k1, k2⟩ := rch_lt g (h3 p hp)
      have := Nat.mul_le_mul_right b.next.length (show p.1 + 1 ≤ a.next.length from k1)
      rw [Nat.succ_mul] at this
      show p.1 * b.next.length + p.2 < _
      omega)
    omega
/-- A product, by its two ends. -/
theorem prod_two (a b : Aut) : (∃ k, ∀ h, prodOut h a b = (zeroA, k + 1)) ∨ (Good2 a b ∧ ∃ l, found (S2 a b) (start2 a b) = some l) := by
  rcases h : chkD2 a b with _ | k
  · rcases hf : found (S2 a b) (start2 a b) with _ | l
    · exact .inl ⟨3, fun g => prodOut_full h hf⟩
    · exact .inr ⟨chkD2_iff.1 h, l, rfl⟩
  · exact .inl ⟨k, fun g => by rw [prodOut_bad (by omega), h]⟩
theorem prod_ok {a b : Aut} (g : Good2 a b) {l : List (Nat × Nat)} (hf : found (S2 a b) (start2 a b) = some l) (h : Bool → Bool → Bool) : prodOut h a b = (autOf a.L (S2 a b) l (fun p => h (finA a p.1) (finA b p.2)), 0) :=
  prodOut_some (chkD2_iff.2 g) hf
theorem chkD2_bad_b {a b : Aut} (h : dchk b ≠ 0) : chkD2 a b ≠ 0 := by
  unfold chkD2; repeat' split
  all_goals omega
theorem chkD2_bad_a {a b : Aut} (h : dchk a ≠ 0) : chkD2 a b ≠ 0 := by unfold chkD2; rw [if_pos h]; exact h
theorem chkD2_bad_L {a b : Aut} (h : a.L ≠ b.L) : chkD2 a b ≠ 0 := by
  unfold chkD2; repeat' split
  all_goals omega
theorem prod_err {a b : Aut} (h : chkD2 a b ≠ 0) : ∃ k, ∀ g, prodOut g a b = (zeroA, k + 1) := ⟨chkD2 a b - 1, fun g => by rw [prodOut_bad h]; congr 1; omega⟩
/-- The errors of a product do not depend on the order. -/
theorem prod_swap {a b : Aut} {k : Nat} (h : ∀ g, prodOut g a b = (zeroA, k + 1)) : ∃ j, ∀ g, prodOut g b a = (zeroA, j + 1) := by
  rcases prod_two b a with h1 | ⟨g, l, hf⟩
  · exact h1
  · exfalso
    have g' : Good2 a b := ⟨g.gb, g.ga, g.eL.symm⟩
    rcases hf' : found (S2 a b) (start2 a b) with _ | l'
    · have := found_swap g'.eL hf'
      rw [hf] at this; cases this
    · have := prod_ok g' hf' (fun x y => x && y)
      rw [h] at this
      have := congrArg Prod.snd this
      simp at this
/-! ### de Morgan -/
theorem not_prod {a b : Aut} (g : Good2 a b) {k : Nat} (h : ∀ f, prodOut f a b = (zeroA, k + 1)) : (∃ j, ∀ f, prodOut f (notA a) (notA b) = (zeroA, j + 1)) ∧ (∃ j, ∀ f, prodOut f a (notA b) = (zeroA, j + 1)) := by
  have hn : found (S2 a b) (start2 a b) = none := by
    rcases hf : found (S2 a b) (start2 a b) with _ | l
    · rfl
    · have := prod_ok g hf (fun x y => x && y)
      rw [h] at this
      have := congrArg Prod.snd this
      simp at this
  have g1 : Good2 (notA a) (notA b) := ⟨notA_good g.ga, notA_good g.gb, g.eL⟩
  have g2 : Good2 a (notA b) := ⟨g.ga, notA_good g.gb, g.eL⟩
  exact ⟨⟨3, fun f => prodOut_full (chkD2_iff.2 g1) hn⟩, ⟨3, fun f => prodOut_full (chkD2_iff.2 g2) hn⟩⟩
theorem autOf_congr {L : Int} {S : Nat × Nat → List (Nat × Nat)} {l : List (Nat × Nat)} {f g : Nat × Nat → Bool} (h : ∀ x ∈ l, f x = g x) : autOf L S l f = autOf L S l g := by
  unfold autOf; rw [List.map_congr_left h]
theorem notA_autOf (L : Int) (S : Nat × Nat → List (Nat × Nat)) (l : List (Nat × Nat)) (f : Nat × Nat → Bool) : notA (autOf L S l f) = autOf L S l (fun x => !f x) := by
  unfold notA autOf; simp
theorem morgan_either {a b : Aut} (g : Good2 a b) {l : List (Nat × Nat)} (hf : found (S2 a b) (start2 a b) = some l) :
    prodOut (fun x y => x || y) (notA a) (notA b) = (notA (autOf a.L (S2 a b) l (fun p => finA a p.1 && finA b p.2)), 0) := by
  have g1 : Good2 (notA a) (notA b) := ⟨notA_good g.ga, notA_good g.gb, g.eL⟩
  have hf1 : found (S2 (notA a) (notA b)) (start2 (notA a) (notA b)) = some l := hf
  rw [prod_ok g1 hf1, notA_autOf]
  congr 1
  refine autOf_congr fun p hp => ?_
  obtain ⟨h1, h2⟩ := rch_lt g ((found_whole hf).rch p hp)
  rw [notA_fin g.ga h1, notA_fin g.gb h2]
  cases finA a p.1 <;> cases finA b p.2 <;> rfl
theorem morgan_with {a b : Aut} (g : Good2 a b) {l : List (Nat × Nat)} (hf : found (S2 a b) (start2 a b) = some l) :
    prodOut (fun x y => x && y) a (notA b) = (autOf a.L (S2 a b) l (fun p => finA a p.1 && !finA b p.2), 0) := by
  have g1 : Good2 a (notA b) := ⟨g.ga, notA_good g.gb, g.eL⟩
  have hf1 : found (S2 a (notA b)) (start2 a (notA b)) = some l := hf
  rw [prod_ok g1 hf1]
  congr 1
  refine autOf_congr fun p hp => ?_
  obtain ⟨h1, h2⟩ := rch_lt g ((found_whole hf).rch p hp)
  rw [notA_fin g.gb h2]
theorem notOut_ok {d : Aut} (g : Good d) : notOut d = (notA d, 0) := by unfold notOut; rw [if_pos (dchk_iff.2 g)]
theorem notOut_bad {d : Aut} (h : dchk d ≠ 0) : notOut d = (zeroA, dchk d) := by unfold notOut; rw [if_neg h]
end Go.Proofs.YtbciefeipiphiaaDoor.Df

namespace Go.Proofs.YtbciefeipiphiaaDoor.Rc
open Go.Proofs.YtbciefeipiphiaaDoor.Df Go.Proofs.YtbciefeipiphiaaDoor.Wo

/-- The states that follow a state. -/
def S1 (d : Aut) (q : Nat) : List Nat := (List.range d.L.toNat).map (step d q)
theorem S1_length (d : Aut) (q : Nat) : (S1 d q).length = d.L.toNat := by simp [S1]
theorem S1_get (d : Aut) (q : Nat) {c : Nat} (hc : (c : Int) < d.L) : (S1 d q)[c]? = some (step d q c) := by
  unfold S1; rw [List.getElem?_map, List.getElem?_range (by omega)]; rfl
theorem mem_S1 {d : Aut} {q t : Nat} : t ∈ S1 d q ↔ ∃ c : Nat, (c : Int) < d.L ∧ step d q c = t := by
  unfold S1
  rw [List.mem_map]
  constructor
  · rintro ⟨c, hc, rfl⟩
    rw [List.mem_range] at hc
    exact ⟨c, by omega, rfl⟩
  · rintro ⟨c, hc, rfl⟩
    exact ⟨c, List.mem_range.2 (by omega), rfl⟩
theorem S1_lt {d : Aut} (g : Df.Good d) {q t : Nat} (hq : q < d.next.length) (h : t ∈ S1 d q) : t < d.next.length := by
  obtain ⟨c, hc, rfl⟩ := mem_S1.1 h
  exact g.step_lt hq hc
theorem rch_lt1 {d : Aut} (g : Df.Good d) {s t : Nat} (hs : s < d.next.length) (h : Rch (S1 d) s t) : t < d.next.length := by
  induction h with
  | base => exact hs
  | next _ ht ih => exact S1_lt g ih ht
theorem rch_trans {α : Type} {S : α → List α} {a b c : α} (h : Rch S a b) (h2 : Rch S b c) : Rch S a c := by
  induction h2 with
  | base => exact h
  | next _ ht ih => exact .next ih ht
/-- What is reached is what some word leads to. -/
theorem rch_word {d : Aut} {s t : Nat} : Rch (S1 d) s t ↔ ∃ w, Word d.L w ∧ runA d s w = t := by
  constructor
  · intro h
    induction h with
    | base => exact ⟨[], by intro a ha; simp at ha, rfl⟩
    | next _ ht ih =>
      obtain ⟨w, hw, rfl⟩ := ih
      obtain ⟨c, hc, rfl⟩ := mem_S1.1 ht
      refine ⟨w ++ [(c : Int)], fun a ha => ?_, by rw [runA_append]; rfl⟩
      rcases List.mem_append.1 ha with ha | ha
      · exact hw a ha
      · simp at ha; subst ha; exact ⟨by omega, hc⟩
  · rintro ⟨w, hw, rfl⟩
    have h : ∀ (w : List Int) (q : Nat), Word d.L w → Rch (S1 d) s q → Rch (S1 d) s (runA d q w) := by
      intro w
      induction w with
      | nil => intro q _ h; exact h
      | cons a w ih =>
        intro q hw h
        have ha := hw a List.mem_cons_self
        exact ih _ (fun b hb => hw b (List.mem_cons_of_mem _ hb)) (.next h (mem_S1.2 ⟨a.toNat, by omega, rfl⟩))
    exact h w s hw .base
theorem found1 {d : Aut} (g : Df.Good d) {s : Nat} (hs : s < d.next.length) : ∃ l, found (S1 d) s = some l := by
  rcases found_cases (S1 d) s with ⟨m, h, _⟩ | ⟨_, m, h1, h2, h3⟩
  · exact ⟨m, h⟩
  · have := nodup_le_of h1 id (fun x _ y _ e => e) (fun x hx => rch_lt1 g hs (h3 x hx))
    have := g.n40
    omega
/-- All that is reached from a state, in the order in which it is found. -/
def rset (d : Aut) (s : Nat) : List Nat := (found (S1 d) s).getD []
theorem rset_whole {d : Aut} (g : Df.Good d) {s : Nat} (hs : s < d.next.length) : Whole (S1 d) s (rset d s) := by
  obtain ⟨l, hl⟩ := found1 g hs
  unfold rset; rw [hl]; exact found_whole hl
theorem mem_rset {d : Aut} (g : Df.Good d) {s t : Nat} (hs : s < d.next.length) : t ∈ rset d s ↔ Rch (S1 d) s t := (rset_whole g hs).mem_iff
theorem rset_lt {d : Aut} (g : Df.Good d) {s t : Nat} (hs : s < d.next.length) (h : t ∈ rset d s) : t < d.next.length := rch_lt1 g hs ((mem_rset g hs).1 h)
/-- Reached and Alive: the lists. -/
def upto (n : Nat) (p : Nat → Bool) : List Int := ((List.range n).filter p).map fun (s : Nat) => (s : Int)
theorem upto_zero (p : Nat → Bool) : upto 0 p = [] := rfl
theorem upto_succ (n : Nat) (p : Nat → Bool) : upto (n + 1) p = upto n p ++ (if p n = true then [(n : Int)] else []) := by
  unfold upto
  rw [List.range_succ, List.filter_append, List.map_append]
  congr 1
  by_cases h : p n = true
  · simp [h]
  · simp [h]
theorem upto_length (n : Nat) (p : Nat → Bool) : (upto n p).length ≤ n := by
  unfold upto
  rw [List.length_map]
  exact Nat.le_trans (List.length_filter_le _ _) (by simp)
def isReached (d : Aut) (s t : Nat) : Bool := decide (t ∈ rset d s)
def isAlive (d : Aut) (s : Nat) : Bool := (rset d s).any (finA d)
theorem isAlive_iff {d : Aut} (g : Df.Good d) {s : Nat} (hs : s < d.next.length) : isAlive d s = true ↔ ∃ w, Word d.L w ∧ finA d (runA d s w) = true := by
  unfold isAlive
  rw [List.any_eq_true]
  constructor
  · rintro ⟨t, ht, hf⟩
    obtain ⟨w, hw, rfl⟩ := rch_word.1 ((mem_rset g hs).1 ht)
    exact ⟨w, hw, hf⟩
  · rintro ⟨w, hw, hf⟩
    exact ⟨_, (mem_rset g hs).2 (rch_word.2 ⟨w, hw, rfl⟩), hf⟩
def reachedOut (d : Aut) : List Int := if dchk d = 0 then upto d.next.length (isReached d d.s.toNat) else []
def aliveOut (d : Aut) : List Int := if dchk d = 0 then upto d.next.length (isAlive d) else []

/-! ### the table of all pairs -/
/-- By ways through states below k. -/
inductive Via (d : Aut) (k : Nat) : Nat → Nat → Prop
  | refl (i : Nat) : Via d k i i
  | edge {i t : Nat} : t ∈ S1 d i → Via d k i t
  | comp {i m j : Nat} : Via d k i m → m < k → Via d k m j → Via d k i j
theorem via_sound {d : Aut} {k i j : Nat} (h : Via d k i j) : Rch (S1 d) i j := by
  induction h with
  | refl i => exact .base
  | edge h => exact .next .base h
  | comp _ _ _ h1 h2 => exact rch_trans h1 h2
theorem via_full {d : Aut} (g : Df.Good d) {i j : Nat} (hi : i < d.next.length) (h : Rch (S1 d) i j) : Via d d.next.length i j := by
  induction h with
  | base => exact .refl i
  | next hr ht ih => exact .comp ih (rch_lt1 g hi hr) (.edge ht)
theorem via_succ {d : Aut} {k i j : Nat} (h : Via d (k + 1) i j) : Via d k i j ∨ (Via d k i k ∧ Via d k k j) := by
  induction h with
  | refl i => exact .inl (.refl i)
  | edge h => exact .inl (.edge h)
  | comp _ hm _ h1 h2 =>
    rename_i i m j _ _
    by_cases e : m = k
    · subst e
      refine .inr ⟨?_, ?_⟩
      · rcases h1 with h1 | h1
        · exact h1
        · exact h1.1
      · rcases h2 with h2 | h2
        · exact h2
        · exact h2.2
    · have hm' : m < k := by omega
      rcases h1 with h1 | ⟨h1, h3⟩
      · rcases h2 with h2 | ⟨h2, h4⟩
        · exact .inl (.comp h1 hm' h2)
        · exact .inr ⟨.comp h1 hm' h2, h4⟩
      · rcases h2 with h2 | ⟨h2, h4⟩
        · exact .inr ⟨h1, .comp h3 hm' h2⟩
        · exact .inr ⟨h1, h4⟩
theorem via_zero {d : Aut} {i j : Nat} (h : Via d 0 i j) : j = i ∨ j ∈ S1 d i := by
  induction h with
  | refl i => exact .inl rfl
  | edge h => exact .inr h
  | comp _ hm _ _ _ => omega
/-- The table, midway: what it has is reached; phase k, all rows below i and of row i all below j have the ways through k too. -/
structure Tabl (d : Aut) (m : Nat → Nat → Bool) (k i j : Nat) : Prop where
  sound : ∀ x y, x < d.next.length → m x y = true → Rch (S1 d) x y
  all : ∀ x y, x < d.next.length → y < d.next.length → Via d k x y → m x y = true
  done : ∀ x y, x < d.next.length → y < d.next.length → (x < i ∨ x = i ∧ y < j) → Via d (k + 1) x y → m x y = true
theorem tabl_step {d : Aut} {m m' : Nat → Nat → Bool} {k i j : Nat} (h : Tabl d m k i j) (hk : k < d.next.length) (hi : i < d.next.length) (hj : j < d.next.length)
    (hm : ∀ x y, m' x y = (m x y || (decide (x = i) && decide (y = j) && m i k && m k j))) : Tabl d m' k i (j + 1) := by
  have up : ∀ x y, m x y = true → m' x y = true := fun x y e => by rw [hm, e]; rfl
  refine ⟨fun x y hx e => ?_, fun x y hx hy e => up _ _ (h.all x y hx hy e), fun x y hx hy hp e => ?_⟩
  · rw [hm] at e
    rcases Bool.or_eq_true _ _ ▸ e with e | e
    · exact h.sound x y hx e
    · simp only [Bool.and_eq_true, decide_eq_true_eq] at e
      obtain ⟨⟨⟨rfl, rfl⟩, e1⟩, e2⟩ := e
      exact rch_trans (h.sound _ _ hi e1) (h.sound _ _ hk e2)
  · by_cases hq : x < i ∨ x = i ∧ y < j
    · exact up _ _ (h.done x y hx hy hq e)
    · have hx' : x = i := by omega
      have hy' : y = j := by omega
      subst hx' hy'
      rcases via_succ e with e | ⟨e1, e2⟩
      · exact up _ _ (h.all x y hx hy e)
      · rw [hm, h.all x k hx hk e1, h.all k y hk hy e2]; simp
theorem tabl_row {d : Aut} {m : Nat → Nat → Bool} {k i : Nat} (h : Tabl d m k i d.next.length) : Tabl d m k (i + 1) 0 :=
  ⟨h.sound, h.all, fun x y hx hy hp e => h.done x y hx hy (by omega) e⟩
theorem tabl_phase {d : Aut} {m : Nat → Nat → Bool} {k : Nat} (h : Tabl d m k d.next.length 0) : Tabl d m (k + 1) 0 0 :=
  ⟨h.sound, fun x y hx hy e => h.done x y hx hy (.inl hx) e, fun x y _ _ hp => by omega⟩
theorem tabl_end {d : Aut} (g : Df.Good d) {m : Nat → Nat → Bool} (h : Tabl d m d.next.length 0 0) {x y : Nat} (hx : x < d.next.length) (hy : y < d.next.length) : m x y = isReached d x y := by
  rw [Bool.eq_iff_iff]
  unfold isReached
  rw [decide_eq_true_eq, mem_rset g hx]
  exact ⟨h.sound x y hx, fun e => h.all x y hx hy (via_full g hx e)⟩
theorem tabl_start {d : Aut} {m : Nat → Nat → Bool} (h : ∀ x y, x < d.next.length → (m x y = true ↔ y = x ∨ y ∈ S1 d x)) : Tabl d m 0 0 0 :=
  ⟨fun x y hx e => by
    rcases (h x y hx).1 e with rfl | e
    · exact .base
    · exact .next .base e, fun x y hx _ e => (h x y hx).2 (via_zero e), fun x y _ _ hp => by omega⟩

/-! ### words by their length -/
/-- Is a final state come to in just k steps? -/
def inK (d : Aut) : Nat → Nat → Bool
  | 0, s => finA d s
  | k + 1, s => (List.range d.L.toNat).any fun a => inK d k (step d s a)
theorem inK_iff {d : Aut} {k s : Nat} : inK d k s = true ↔ ∃ w, Word d.L w ∧ w.length = k ∧ finA d (runA d s w) = true := by
  induction k generalizing s with
  | zero =>
    constructor
    · intro h; exact ⟨[], by intro a ha; simp at ha, rfl, h⟩
    · rintro ⟨w, _, hl, hf⟩
      obtain rfl := List.eq_nil_of_length_eq_zero hl
      exact hf
  | succ k ih =>
    show ((List.range d.L.toNat).any fun a => inK d k (step d s a)) = true ↔ _
    rw [List.any_eq_true]
    constructor
    · rintro ⟨a, ha, h⟩
      obtain ⟨w, hw, hl, hf⟩ := ih.1 h
      rw [List.mem_range] at ha
      refine ⟨(a : Int) :: w, fun b hb => ?_, by simp [hl], hf⟩
      rcases List.mem_cons.1 hb with rfl | hb
      · exact ⟨by omega, by omega⟩
      · exact hw b hb
    · rintro ⟨w, hw, hl, hf⟩
      rcases w with _ | ⟨a, w⟩
      · simp at hl
      · have ha := hw a List.mem_cons_self
        exact ⟨a.toNat, List.mem_range.2 (by omega), ih.2 ⟨w, fun b hb => hw b (List.mem_cons_of_mem _ hb), by simpa using hl, hf⟩⟩
/-- The shortest one is shorter than there are states. -/
theorem short {d : Aut} (g : Df.Good d) {s k : Nat} (hs : s < d.next.length) (h : inK d k s = true) (hmin : ∀ j, j < k → inK d j s = false) : k < d.next.length := by
  obtain ⟨w, hw, hl, hf⟩ := inK_iff.1 h
  have hn : ((List.range (k + 1)).map fun i => runA d s (w.take i)).Nodup := by
    refine nodup_map List.nodup_range _ (fun i hi j hj e => ?_)
    rw [List.mem_range] at hi hj
    have key : ∀ i j : Nat, i < j → j < k + 1 → runA d s (w.take i) = runA d s (w.take j) → False := by
      intro i j hij hj e
      have hf2 : finA d (runA d s (w.take i ++ w.drop j)) = true := by
        rw [runA_append, e, ← runA_append, List.take_append_drop]; exact hf
      have h1 := hmin (w.take i ++ w.drop j).length (by rw [List.length_append, List.length_take, List.length_drop]; omega)
      rw [inK_iff.2 ⟨_, fun a ha => ?_, rfl, hf2⟩] at h1
      · cases h1
      · rcases List.mem_append.1 ha with ha | ha
        · exact hw a (List.mem_of_mem_take ha)
        · exact hw a (List.mem_of_mem_drop ha)
    rcases Nat.lt_trichotomy i j with hlt | he | hlt
    · exact (key i j hlt hj e).elim
    · exact he
    · exact (key j i hlt hi e.symm).elim
  have := nodup_le _ _ hn (fun x hx => by
    obtain ⟨i, _, rfl⟩ := List.mem_map.1 hx
    exact g.run_lt (fun a ha => hw a (List.mem_of_mem_take ha)) hs)
  rw [List.length_map, List.length_range] at this
  omega
/-- How many words of n letters are accepted from a state. -/
def cnt (d : Aut) : Nat → Nat → Nat
  | 0, s => if finA d s = true then 1 else 0
  | k + 1, s => ((List.range d.L.toNat).map fun a => cnt d k (step d s a)).sum
theorem sum_le {α : Type} (l : List α) (f : α → Nat) (b : Nat) (h : ∀ x ∈ l, f x ≤ b) : (l.map f).sum ≤ l.length * b := by
  induction l with
  | nil => simp
  | cons x l ih =>
    have h1 := h x List.mem_cons_self
    have h2 := ih (fun y hy => h y (List.mem_cons_of_mem _ hy))
    rw [List.map_cons, List.sum_cons, List.length_cons, Nat.succ_mul]
    omega
theorem cnt_le {d : Aut} (g : Df.Good d) (k s : Nat) : cnt d k s ≤ 6 ^ k := by
  induction k generalizing s with
  | zero => unfold cnt; split <;> simp
  | succ k ih =>
    have h := sum_le (List.range d.L.toNat) (fun a => cnt d k (step d s a)) (6 ^ k) (fun a _ => ih _)
    rw [List.length_range] at h
    have h6 : d.L.toNat ≤ 6 := by have := g.l6; omega
    calc cnt d (k + 1) s ≤ d.L.toNat * 6 ^ k := h
      _ ≤ 6 * 6 ^ k := Nat.mul_le_mul_right _ h6
      _ = 6 ^ (k + 1) := by rw [Nat.pow_succ, Nat.mul_comm]
end Go.Proofs.YtbciefeipiphiaaDoor.Rc

namespace Go.Proofs.YtbciefeipiphiaaDoor.Rc
open Go.Proofs.YtbciefeipiphiaaDoor.Df Go.Proofs.YtbciefeipiphiaaDoor.Wo

/-! ### the first word -/
/-- The least one below n that is so. -/
def least (n : Nat) (p : Nat → Bool) : Option Nat := (List.range n).find? p
theorem least_some {n k : Nat} {p : Nat → Bool} (h : least n p = some k) : k < n ∧ p k = true ∧ ∀ j, j < k → p j = false := by
  unfold least at h
  have h1 := List.find?_some h
  have h2 := List.mem_of_find?_eq_some h
  rw [List.mem_range] at h2
  refine ⟨h2, h1, fun j hj => ?_⟩
  obtain ⟨h3, as, bs, h4, h5⟩ := List.find?_eq_some_iff_append.1 h
  have h6 : as.length = k := by
    have e : (List.range n)[as.length]? = some k := by rw [h4, List.getElem?_append_right (Nat.le_refl _)]; simp
    obtain ⟨h7, h8⟩ := List.getElem?_eq_some_iff.1 e
    simpa using h8
  have h9 : as[j]? = some j := by
    have e : (List.range n)[j]? = some j := List.getElem?_range (by omega)
    rw [h4, List.getElem?_append_left (by omega)] at e
    exact e
  have := h5 j (List.mem_of_getElem? h9)
  simpa using this
theorem least_none {n : Nat} {p : Nat → Bool} (h : least n p = none) {j : Nat} (hj : j < n) : p j = false := by
  unfold least at h
  have := List.find?_eq_none.1 h j (List.mem_range.2 hj)
  simpa using this
theorem least_is {n k : Nat} {p : Nat → Bool} (hk : k < n) (hp : p k = true) (hmin : ∀ j, j < k → p j = false) : least n p = some k := by
  rcases h : least n p with _ | m
  · rw [least_none h hk] at hp; cases hp
  · obtain ⟨h1, h2, h3⟩ := least_some h
    rcases Nat.lt_trichotomy m k with hlt | rfl | hlt
    · rw [hmin m hlt] at h2; cases h2
    · rfl
    · rw [h3 k hlt] at hp; cases hp
/-- The first of the words of k letters that are accepted from a state. -/
def pick (d : Aut) : Nat → Nat → List Int
  | 0, _ => []
  | k + 1, s => match least d.L.toNat (fun a => inK d k (step d s a)) with
    | none => []
    | some a => (a : Int) :: pick d k (step d s a)
theorem least_letter {d : Aut} {k s : Nat} (h : inK d (k + 1) s = true) : ∃ a, least d.L.toNat (fun a => inK d k (step d s a)) = some a := by
  rcases hl : least d.L.toNat (fun a => inK d k (step d s a)) with _ | a
  · have h' : ((List.range d.L.toNat).any fun a => inK d k (step d s a)) = true := h
    obtain ⟨a, ha, hp⟩ := List.any_eq_true.1 h'
    rw [List.mem_range] at ha
    have hz : inK d k (step d s a) = false := least_none hl ha
    rw [hz] at hp; cases hp
  · exact ⟨a, rfl⟩
theorem pick_succ {d : Aut} {k s a : Nat} (h : least d.L.toNat (fun a => inK d k (step d s a)) = some a) : pick d (k + 1) s = (a : Int) :: pick d k (step d s a) := by
  rw [pick, h]
theorem pick_ok {d : Aut} {k s : Nat} (h : inK d k s = true) : Word d.L (pick d k s) ∧ (pick d k s).length = k ∧ finA d (runA d s (pick d k s)) = true := by
  induction k generalizing s with
  | zero => exact ⟨by intro a ha; simp [pick] at ha, rfl, h⟩
  | succ k ih =>
    obtain ⟨a, ha⟩ := least_letter h
    obtain ⟨h1, h2, _⟩ := least_some ha
    obtain ⟨h3, h4, h5⟩ := ih h2
    rw [pick_succ ha]
    refine ⟨fun b hb => ?_, by simp [h4], h5⟩
    rcases List.mem_cons.1 hb with rfl | hb
    · exact ⟨by omega, by omega⟩
    · exact h3 b hb
theorem pick_least {d : Aut} {k s : Nat} (h : inK d k s = true) {v : List Int} (hv : Word d.L v) (hl : v.length = k) (hf : finA d (runA d s v) = true) : lx v (pick d k s) = false := by
  induction k generalizing s v with
  | zero =>
    obtain rfl := List.eq_nil_of_length_eq_zero hl
    rfl
  | succ k ih =>
    obtain ⟨a, ha⟩ := least_letter h
    obtain ⟨h1, h2, h3⟩ := least_some ha
    rcases v with _ | ⟨b, v⟩
    · simp at hl
    have hb := hv b List.mem_cons_self
    have hv' : Word d.L v := fun c hc => hv c (List.mem_cons_of_mem _ hc)
    have hl' : v.length = k := by simpa using hl
    have hf' : finA d (runA d (step d s b.toNat) v) = true := hf
    have hb2 : inK d k (step d s b.toNat) = true := inK_iff.2 ⟨v, hv', hl', hf'⟩
    rw [pick_succ ha, lx]
    by_cases e : b = (a : Int)
    · rw [if_pos e]
      subst e
      exact ih h2 hv' hl' hf'
    · rw [if_neg e]
      refine decide_eq_false (fun hlt => ?_)
      have := h3 b.toNat (by omega)
      rw [this] at hb2; cases hb2
/-- The first word that is accepted from a state: among those of at most as many letters as there are states. -/
def firstW (d : Aut) (s : Nat) : Option (List Int) := (least (d.next.length + 1) (fun k => inK d k s)).map (fun k => pick d k s)
theorem firstW_none {d : Aut} (g : Df.Good d) {s : Nat} (hs : s < d.next.length) (h : firstW d s = none) {v : List Int} (hv : Word d.L v) : finA d (runA d s v) = false := by
  have hn : least (d.next.length + 1) (fun k => inK d k s) = none := by
    unfold firstW at h
    simpa using h
  rcases hf : finA d (runA d s v) with _ | _
  · rfl
  · exfalso
    have h0 : inK d v.length s = true := inK_iff.2 ⟨v, hv, rfl, hf⟩
    obtain ⟨k, hk⟩ : ∃ k, least (v.length + 1) (fun k => inK d k s) = some k := by
      rcases hl : least (v.length + 1) (fun k => inK d k s) with _ | k
      · have hz : inK d v.length s = false := least_none hl (Nat.lt_succ_self _)
        rw [hz] at h0; cases h0
      · exact ⟨k, rfl⟩
    obtain ⟨_, h2, h3⟩ := least_some hk
    have := short g hs h2 h3
    have hz : inK d k s = false := least_none hn (by omega)
    rw [hz] at h2; cases h2
theorem firstW_some {d : Aut} (g : Df.Good d) {s : Nat} (hs : s < d.next.length) {w : List Int} (h : firstW d s = some w) :
    Word d.L w ∧ w.length < d.next.length ∧ finA d (runA d s w) = true ∧ ∀ v, Word d.L v → finA d (runA d s v) = true → lss v w = false := by
  unfold firstW at h
  obtain ⟨k, hk, rfl⟩ := Option.map_eq_some_iff.1 h
  obtain ⟨_, h2, h3⟩ := least_some hk
  obtain ⟨p1, p2, p3⟩ := pick_ok h2
  refine ⟨p1, by rw [p2]; exact short g hs h2 h3, p3, fun v hv hf => ?_⟩
  unfold lss
  rw [p2]
  by_cases e : v.length = k
  · rw [if_pos e]; exact pick_least h2 hv e hf
  · rw [if_neg e]
    refine decide_eq_false (fun hlt => ?_)
    have hz : inK d v.length s = false := h3 _ hlt
    rw [inK_iff.2 ⟨v, hv, rfl, hf⟩] at hz; cases hz
/-- There is one first word only. -/
theorem firstW_unique {d : Aut} (g : Df.Good d) {s : Nat} (hs : s < d.next.length) {w : List Int} (hw : Word d.L w) (hf : finA d (runA d s w) = true) (hmin : ∀ v, Word d.L v → finA d (runA d s v) = true → lss v w = false) : firstW d s = some w := by
  rcases h : firstW d s with _ | u
  · rw [firstW_none g hs h hw] at hf; cases hf
  · obtain ⟨h1, _, h3, h4⟩ := firstW_some g hs h
    rw [lss_total (h4 w hw hf) (hmin u h1 h3)]
theorem firstW_is_none {d : Aut} (g : Df.Good d) {s : Nat} (hs : s < d.next.length) (h : ∀ v, Word d.L v → finA d (runA d s v) = false) : firstW d s = none := by
  rcases hf : firstW d s with _ | u
  · rfl
  · obtain ⟨h1, _, h3, _⟩ := firstW_some g hs hf
    rw [h u h1] at h3; cases h3

/-! ### counts -/
theorem sum_add {α : Type} (l : List α) (f g : α → Nat) : (l.map fun x => f x + g x).sum = (l.map f).sum + (l.map g).sum := by
  induction l with
  | nil => rfl
  | cons x l ih => simp only [List.map_cons, List.sum_cons, ih]; omega
theorem sum_congr {α : Type} {l : List α} {f g : α → Nat} (h : ∀ x ∈ l, f x = g x) : (l.map f).sum = (l.map g).sum := by rw [List.map_congr_left h]
/-- What is in and what is out is all. -/
theorem cnt_not {d : Aut} (g : Df.Good d) (k : Nat) {s : Nat} (hs : s < d.next.length) : cnt d k s + cnt (notA d) k s = d.L.toNat ^ k := by
  induction k generalizing s with
  | zero =>
    show (if finA d s = true then 1 else 0) + (if finA (notA d) s = true then 1 else 0) = 1
    rw [notA_fin g hs]
    cases finA d s <;> rfl
  | succ k ih =>
    show ((List.range d.L.toNat).map fun a => cnt d k (step d s a)).sum + ((List.range d.L.toNat).map fun a => cnt (notA d) k (step d s a)).sum = _
    rw [← sum_add]
    rw [sum_congr (g := fun _ => d.L.toNat ^ k) (fun a ha => ih (g.step_lt hs (by rw [List.mem_range] at ha; omega)))]
    have : ∀ (n b : Nat), ((List.range n).map fun _ => b).sum = n * b := by
      intro n b
      induction n with
      | zero => simp
      | succ n ih => rw [List.range_succ, List.map_append, List.sum_append, ih, Nat.succ_mul]; simp
    rw [this, Nat.pow_succ, Nat.mul_comm]
/-- Counts of an automaton that is numbered by what is found. -/
def cntS {α : Type} (S : α → List α) (f : α → Bool) : Nat → α → Nat
  | 0, x => if f x = true then 1 else 0
  | k + 1, x => ((S x).map (cntS S f k)).sum
theorem cnt_autOf {α : Type} [DecidableEq α] {L : Int} {S : α → List α} {a : α} {l : List α} {f : α → Bool} (h : Whole S a l) (hS : ∀ x ∈ l, ((S x).length : Int) = L) (k : Nat) {x : α} (hx : x ∈ l) :
    cnt (autOf L S l f) k (num l x) = cntS S f k x := by
  induction k generalizing x with
  | zero =>
    show (if finA (autOf L S l f) (num l x) = true then 1 else 0) = if f x = true then 1 else 0
    have : finA (autOf L S l f) (num l x) = f x := by
      unfold finA autOf
      simp only [List.getElem?_map]
      rw [idx_get hx]; rfl
    rw [this]
  | succ k ih =>
    show ((List.range L.toNat).map fun c => cnt (autOf L S l f) k (step (autOf L S l f) (num l x) c)).sum = ((S x).map (cntS S f k)).sum
    have hl := hS x hx
    have e : (S x).map (cntS S f k) = (List.range L.toNat).map fun c => cntS S f k (via S x c) := by
      refine List.ext_getElem? fun c => ?_
      rw [List.getElem?_map, List.getElem?_map]
      by_cases hc : c < L.toNat
      · rw [List.getElem?_range hc]
        have hc' : c < (S x).length := by omega
        have : via S x c = (S x)[c] := by unfold via; rw [List.getElem?_eq_getElem hc']; rfl
        rw [List.getElem?_eq_getElem hc', Option.map_some, Option.map_some, this]
      · rw [List.getElem?_eq_none (by omega), List.getElem?_eq_none (by simp; omega)]; rfl
    rw [e]
    refine sum_congr fun c hc => ?_
    rw [List.mem_range] at hc
    obtain ⟨h1, h2⟩ := autOf_step (f := f) h hS hx (c := c) (by omega)
    rw [h2, ih h1]
theorem cntS_one {a b : Aut} (g : Good2 a b) (k : Nat) (p : Nat × Nat) : cntS (S2 a b) (fun p => finA a p.1) k p = cnt a k p.1 ∧ cntS (S2 a b) (fun p => finA b p.2) k p = cnt b k p.2 := by
  induction k generalizing p with
  | zero => exact ⟨rfl, rfl⟩
  | succ k ih =>
    constructor
    · show ((S2 a b p).map (cntS (S2 a b) (fun p => finA a p.1) k)).sum = ((List.range a.L.toNat).map fun c => cnt a k (step a p.1 c)).sum
      unfold S2
      rw [List.map_map]
      exact sum_congr fun c _ => (ih _).1
    · show ((S2 a b p).map (cntS (S2 a b) (fun p => finA b p.2) k)).sum = ((List.range b.L.toNat).map fun c => cnt b k (step b p.2 c)).sum
      rw [← g.eL]
      unfold S2
      rw [List.map_map]
      exact sum_congr fun c _ => (ih _).2
theorem cntS_add {α : Type} (S : α → List α) (f1 f2 f3 f4 : α → Bool) (h : ∀ x, (if f1 x = true then 1 else 0) + (if f2 x = true then 1 else 0) = (if f3 x = true then 1 else 0) + (if f4 x = true then 1 else 0 : Nat)) (k : Nat) (x : α) :
    cntS S f1 k x + cntS S f2 k x = cntS S f3 k x + cntS S f4 k x := by
  induction k generalizing x with
  | zero => exact h x
  | succ k ih =>
    show ((S x).map (cntS S f1 k)).sum + ((S x).map (cntS S f2 k)).sum = ((S x).map (cntS S f3 k)).sum + ((S x).map (cntS S f4 k)).sum
    rw [← sum_add, ← sum_add]
    exact sum_congr fun y _ => ih y
/-- Those of either, and of both, are those of the one and those of the other one. -/
theorem cnt_adds {a b : Aut} (g : Good2 a b) {l : List (Nat × Nat)} (hf : found (S2 a b) (start2 a b) = some l) (k : Nat) :
    cnt (autOf a.L (S2 a b) l (fun p => finA a p.1 && finA b p.2)) k 0 + cnt (autOf a.L (S2 a b) l (fun p => finA a p.1 || finA b p.2)) k 0 = cnt a k a.s.toNat + cnt b k b.s.toNat := by
  have hw := found_whole hf
  have hm : start2 a b ∈ l := List.mem_of_getElem? hw.hd
  have h0 : num l (start2 a b) = 0 := idx_of hw.nd hw.hd
  have h1 := cnt_autOf (L := a.L) (f := fun p => finA a p.1 && finA b p.2) hw (fun x _ => S2_len g x) k hm
  have h2 := cnt_autOf (L := a.L) (f := fun p => finA a p.1 || finA b p.2) hw (fun x _ => S2_len g x) k hm
  rw [h0] at h1 h2
  obtain ⟨h3, h4⟩ := cntS_one g k (start2 a b)
  rw [h1, h2, cntS_add (S2 a b) _ _ (fun p => finA a p.1) (fun p => finA b p.2) (fun p => by cases finA a p.1 <;> cases finA b p.2 <;> rfl), h3, h4]
  rfl

/-! ### trimmed -/
def trimA (d : Aut) : Aut := autOf d.L (S1 d) (rset d d.s.toNat) (finA d)
theorem S1_len {d : Aut} (g : Df.Good d) (q : Nat) : ((S1 d q).length : Int) = d.L := by rw [S1_length]; have := g.l1; omega
theorem trim_good {d : Aut} (g : Df.Good d) : Df.Good (trimA d) := autOf_good (rset_whole g g.s_lt) g.l1 g.l6 (fun x _ => S1_len g x)
theorem via1 {d : Aut} (q : Nat) {c : Nat} (hc : (c : Int) < d.L) : via (S1 d) q c = step d q c := by unfold via; rw [S1_get d q hc]; rfl
theorem viaAll1 {d : Aut} {w : List Int} (hw : Word d.L w) (q : Nat) : viaAll (S1 d) q w = runA d q w := by
  induction w generalizing q with
  | nil => rfl
  | cons x w ih =>
    have hx := hw x List.mem_cons_self
    show viaAll _ (via _ _ _) w = _
    rw [ih (fun y hy => hw y (List.mem_cons_of_mem _ hy)), via1 q (by omega)]; rfl
theorem trim_acc {d : Aut} (g : Df.Good d) {w : List Int} (hw : Word d.L w) : accA (trimA d) w = accA d w := by
  unfold trimA
  rw [autOf_acc (rset_whole g g.s_lt) (fun x _ => S1_len g x) hw, viaAll1 hw]; rfl
/-- What is numbered by what is found is found again in the order of its numbers. -/
theorem addTo_map {α β : Type} [DecidableEq α] [DecidableEq β] {l : List α} {t : α} {φ : α → β} {m : List α} (hi : ∀ x ∈ m, ∀ y ∈ m, φ x = φ y → x = y) (hl : ∀ x ∈ l, x ∈ m) (ht : t ∈ m) : addTo (l.map φ) (φ t) = (addTo l t).map φ := by
  unfold addTo
  by_cases h : t ∈ l
  · rw [if_pos h, if_pos (List.mem_map.2 ⟨t, h, rfl⟩)]
  · rw [if_neg h, if_neg (fun k => ?_), List.map_append]; rfl
    obtain ⟨y, hy, e⟩ := List.mem_map.1 k
    exact h (hi y (hl y hy) t ht e ▸ hy)
theorem addAll_map {α β : Type} [DecidableEq α] [DecidableEq β] {l ts : List α} {φ : α → β} {m : List α} (hi : ∀ x ∈ m, ∀ y ∈ m, φ x = φ y → x = y) (hl : ∀ x ∈ l, x ∈ m) (ht : ∀ t ∈ ts, t ∈ m) : addAll (l.map φ) (ts.map φ) = (addAll l ts).map φ := by
  induction ts generalizing l with
  | nil => rfl
  | cons t ts ih =>
    show addAll (addTo (l.map φ) (φ t)) (ts.map φ) = (addAll (addTo l t) ts).map φ
    rw [addTo_map hi hl (ht t List.mem_cons_self)]
    refine ih (fun x hx => ?_) (fun y hy => ht y (List.mem_cons_of_mem _ hy))
    rcases mem_addTo.1 hx with h | rfl
    · exact hl x h
    · exact ht _ List.mem_cons_self
theorem S1_autOf {α : Type} [DecidableEq α] {L : Int} {S : α → List α} {a : α} {l : List α} {f : α → Bool} (h : Whole S a l) (hS : ∀ x ∈ l, ((S x).length : Int) = L) {x : α} (hx : x ∈ l) : S1 (autOf L S l f) (num l x) = (S x).map (num l) := by
  have hl := hS x hx
  refine List.ext_getElem? fun c => ?_
  rw [List.getElem?_map]
  by_cases hc : (c : Int) < L
  · rw [S1_get (autOf L S l f) (num l x) (c := c) hc]
    obtain ⟨_, h2⟩ := autOf_step (f := f) h hS hx (c := c) hc
    have hc' : c < (S x).length := by omega
    have : via S x c = (S x)[c] := by unfold via; rw [List.getElem?_eq_getElem hc']; rfl
    rw [h2, this, List.getElem?_eq_getElem hc', Option.map_some]
  · rw [List.getElem?_eq_none (by rw [S1_length]; show L.toNat ≤ c; omega), List.getElem?_eq_none (by omega)]; rfl
theorem expl_map {α : Type} [DecidableEq α] {L : Int} {S : α → List α} {a : α} {l : List α} {f : α → Bool} (h : Whole S a l) (hS : ∀ x ∈ l, ((S x).length : Int) = L) :
    ∀ (n i : Nat) (k : List α), expl S n i k = some l → (∀ x ∈ k, x ∈ l) → expl (S1 (autOf L S l f)) n i (k.map (num l)) = some (l.map (num l)) := by
  have hi : ∀ x ∈ l, ∀ y ∈ l, num l x = num l y → x = y := fun x hx y hy e => by
    have h1 := idx_get hx
    rw [e, idx_get hy] at h1
    exact (Option.some.inj h1).symm
  intro n
  induction n with
  | zero =>
    intro i k e _
    rw [expl] at e ⊢
    obtain rfl := Option.some.inj e
    rfl
  | succ n ih =>
    intro i k e hk
    rcases hx : k[i]? with _ | x
    · rw [expl, hx] at e
      rw [expl, List.getElem?_map, hx]
      obtain rfl := Option.some.inj e
      rfl
    · have hm := hk x (List.mem_of_getElem? hx)
      rw [expl, hx] at e
      rw [expl, List.getElem?_map, hx]
      simp only [Option.map_some] at e ⊢
      rw [S1_autOf h hS hm, addAll_map hi hk (h.closed x hm), List.length_map]
      by_cases hl : 40 < (addAll k (S x)).length
      · rw [if_pos hl] at e; cases e
      · rw [if_neg hl] at e ⊢
        refine ih _ _ e (fun y hy => ?_)
        rcases mem_addAll.1 hy with hy | hy
        · exact hk y hy
        · exact h.closed x hm y hy
theorem map_num {α : Type} [DecidableEq α] {l : List α} (hn : l.Nodup) : l.map (num l) = List.range l.length := by
  refine List.ext_getElem? fun k => ?_
  rw [List.getElem?_map]
  by_cases hk : k < l.length
  · rw [List.getElem?_range hk, List.getElem?_eq_getElem hk, Option.map_some, idx_of hn (List.getElem?_eq_getElem hk)]
  · rw [List.getElem?_eq_none (by omega), List.getElem?_eq_none (by simp; omega)]; rfl
theorem rset_trim {d : Aut} (g : Df.Good d) : rset (trimA d) 0 = List.range (rset d d.s.toNat).length := by
  have hw := rset_whole g g.s_lt
  obtain ⟨l, hl⟩ := found1 g g.s_lt
  have hr : rset d d.s.toNat = l := by unfold rset; rw [hl]; rfl
  have he : expl (S1 d) 41 0 [d.s.toNat] = some l := hl
  have hs : d.s.toNat ∈ l := by rw [← hr]; exact List.mem_of_getElem? hw.hd
  rw [hr] at hw
  have h1 := expl_map (L := d.L) (f := finA d) hw (fun x _ => S1_len g x) 41 0 [d.s.toNat] he (fun x hx => by simp at hx; subst hx; exact hs)
  rw [List.map_singleton, idx_of hw.nd hw.hd, map_num hw.nd] at h1
  have h2 : found (S1 (trimA d)) 0 = some (List.range l.length) := by
    show expl (S1 (autOf d.L (S1 d) (rset d d.s.toNat) (finA d))) 41 0 [0] = _
    rw [hr]; exact h1
  unfold rset
  rw [h2]
  show List.range l.length = _
  unfold rset at hr
  rw [hr]
theorem num_range {n x : Nat} (h : x < n) : num (List.range n) x = x := idx_of List.nodup_range (List.getElem?_range h)
/-- An automaton, by its steps. -/
theorem good_form {d : Aut} (g : Df.Good d) : d.next = (List.range d.next.length).map (fun q => (S1 d q).map fun (t : Nat) => (t : Int)) ∧ d.fin = (List.range d.next.length).map (finA d) := by
  constructor
  · refine List.ext_getElem? fun q => ?_
    rw [List.getElem?_map]
    by_cases hq : q < d.next.length
    · rw [List.getElem?_range hq, List.getElem?_eq_getElem hq, Option.map_some]
      congr 1
      refine List.ext_getElem? fun c => ?_
      rw [List.getElem?_map]
      have hr := g.row _ (List.getElem_mem hq)
      by_cases hc : (c : Int) < d.L
      · obtain ⟨r, hr1, _, _, hr2, _⟩ := g.at_ hq hc
        rw [List.getElem?_eq_getElem hq] at hr1
        obtain rfl := Option.some.inj hr1
        rw [hr2, S1_get d q hc]; rfl
      · rw [List.getElem?_eq_none (by omega), List.getElem?_eq_none (by rw [S1_length]; omega)]; rfl
    · rw [List.getElem?_eq_none (by omega), List.getElem?_eq_none (by simp; omega)]; rfl
  · refine List.ext_getElem? fun q => ?_
    rw [List.getElem?_map]
    by_cases hq : q < d.next.length
    · rw [List.getElem?_range hq, g.fin_at hq]; rfl
    · rw [List.getElem?_eq_none (by rw [g.fin]; omega), List.getElem?_eq_none (by simp; omega)]; rfl
/-- Trimmed again it is as it was. -/
theorem trim_trim {d : Aut} (g : Df.Good d) : trimA (trimA d) = trimA d := by
  have gt := trim_good g
  have hn : (trimA d).next.length = (rset d d.s.toNat).length := by unfold trimA autOf; simp
  obtain ⟨h1, h2⟩ := good_form gt
  have hs : (trimA d).s.toNat = 0 := rfl
  have e : trimA (trimA d) = ⟨(trimA d).L, 0, (rset (trimA d) 0).map (srow (S1 (trimA d)) (rset (trimA d) 0)), (rset (trimA d) 0).map (finA (trimA d))⟩ := by
    show autOf (trimA d).L (S1 (trimA d)) (rset (trimA d) (trimA d).s.toNat) (finA (trimA d)) = _
    rw [hs]; rfl
  have hsr : ∀ q, q < (trimA d).next.length → srow (S1 (trimA d)) (List.range (trimA d).next.length) q = (S1 (trimA d) q).map fun (t : Nat) => (t : Int) := fun q hq => by
    unfold srow
    exact List.map_congr_left fun t ht => by rw [num_range (S1_lt gt hq ht)]
  rw [e, rset_trim g, ← hn]
  have e3 : (List.range (trimA d).next.length).map (srow (S1 (trimA d)) (List.range (trimA d).next.length)) = (trimA d).next := by
    conv => rhs; rw [h1]
    exact List.map_congr_left fun q hq => hsr q (List.mem_range.1 hq)
  rw [e3, ← h2]
  rfl
theorem trim_reached {d : Aut} (g : Df.Good d) : (upto (trimA d).next.length (isReached (trimA d) 0)).length = (trimA d).next.length := by
  have hn : (trimA d).next.length = (rset d d.s.toNat).length := by unfold trimA autOf; simp
  unfold upto
  rw [List.length_map, List.filter_eq_self.2 (fun t ht => ?_), List.length_range]
  unfold isReached
  rw [rset_trim g, ← hn]
  exact decide_eq_true ht
theorem reached_length {d : Aut} (g : Df.Good d) : (upto d.next.length (isReached d d.s.toNat)).length = (trimA d).next.length := by
  have hn : (trimA d).next.length = (rset d d.s.toNat).length := by unfold trimA autOf; simp
  unfold upto
  rw [List.length_map, hn]
  have hf : ((List.range d.next.length).filter (isReached d d.s.toNat)).Nodup := List.nodup_range.filter _
  refine Nat.le_antisymm (nodup_sub hf (fun x hx => ?_)) (nodup_sub (rset_whole g g.s_lt).nd (fun x hx => ?_))
  · have := (List.mem_filter.1 hx).2
    exact of_decide_eq_true this
  · exact List.mem_filter.2 ⟨List.mem_range.2 (rset_lt g g.s_lt hx), decide_eq_true hx⟩
end Go.Proofs.YtbciefeipiphiaaDoor.Rc

namespace Go.Proofs.YtbciefeipiphiaaDoor.Sm
open Go.Proofs.YtbciefeipiphiaaDoor.Df Go.Proofs.YtbciefeipiphiaaDoor.Wo Go.Proofs.YtbciefeipiphiaaDoor.Rc

/-! ### a system of n states: how far two states are alike -/
/-- A word leads on. -/
def runF (σ : Nat → Nat → Nat) (x : Nat) (w : List Nat) : Nat := w.foldl σ x
/-- Told apart by a word of just k letters below L. -/
def apF (L : Nat) (σ : Nat → Nat → Nat) (φ : Nat → Bool) : Nat → Nat → Nat → Bool
  | 0, x, y => φ x != φ y
  | k + 1, x, y => (List.range L).any fun c => apF L σ φ k (σ x c) (σ y c)
theorem apF_iff {L : Nat} {σ : Nat → Nat → Nat} {φ : Nat → Bool} {k x y : Nat} : apF L σ φ k x y = true ↔ ∃ w : List Nat, (∀ a ∈ w, a < L) ∧ w.length = k ∧ φ (runF σ x w) ≠ φ (runF σ y w) := by
  induction k generalizing x y with
  | zero =>
    show (φ x != φ y) = true ↔ _
    rw [bne_iff_ne]
    constructor
    · intro h; exact ⟨[], by simp, rfl, h⟩
    · rintro ⟨w, _, hl, h⟩
      obtain rfl := List.eq_nil_of_length_eq_zero hl
      exact h
  | succ k ih =>
    show ((List.range L).any fun c => apF L σ φ k (σ x c) (σ y c)) = true ↔ _
    rw [List.any_eq_true]
    constructor
    · rintro ⟨c, hc, h⟩
      obtain ⟨w, hw, hl, h2⟩ := ih.1 h
      refine ⟨c :: w, fun a ha => ?_, by simp [hl], h2⟩
      rcases List.mem_cons.1 ha with rfl | ha
      · exact List.mem_range.1 hc
      · exact hw a ha
    · rintro ⟨w, hw, hl, h2⟩
      rcases w with _ | ⟨c, w⟩
      · simp at hl
      · exact ⟨c, List.mem_range.2 (hw c List.mem_cons_self), ih.2 ⟨w, fun a ha => hw a (List.mem_cons_of_mem _ ha), by simpa using hl, h2⟩⟩
section
variable {L : Nat} {σ : Nat → Nat → Nat} {φ : Nat → Bool}
theorem apF_false {k x y : Nat} : apF L σ φ k x y = false ↔ ∀ w : List Nat, (∀ a ∈ w, a < L) → w.length = k → φ (runF σ x w) = φ (runF σ y w) := by
  constructor
  · intro h w hw hl
    rcases Decidable.em (φ (runF σ x w) = φ (runF σ y w)) with e | e
    · exact e
    · rw [apF_iff.2 ⟨w, hw, hl, e⟩] at h; cases h
  · intro h
    rcases e : apF L σ φ k x y with _ | _
    · rfl
    · obtain ⟨w, hw, hl, h2⟩ := apF_iff.1 e
      exact absurd (h w hw hl) h2
/-- Alike as far as all words shorter than k. -/
def relF (L : Nat) (σ : Nat → Nat → Nat) (φ : Nat → Bool) (k x y : Nat) : Bool := (List.range k).all fun j => !apF L σ φ j x y
theorem relF_iff {k x y : Nat} : relF L σ φ k x y = true ↔ ∀ j, j < k → apF L σ φ j x y = false := by
  unfold relF
  rw [List.all_eq_true]
  constructor
  · intro h j hj
    have := h j (List.mem_range.2 hj)
    simpa using this
  · intro h j hj
    rw [h j (List.mem_range.1 hj)]; rfl
theorem relF_refl (k x : Nat) : relF L σ φ k x x = true := relF_iff.2 fun _ _ => apF_false.2 fun _ _ _ => rfl
theorem relF_symm {k x y : Nat} (h : relF L σ φ k x y = true) : relF L σ φ k y x = true := relF_iff.2 fun j hj => apF_false.2 fun w hw hl => ((apF_false.1 (relF_iff.1 h j hj)) w hw hl).symm
theorem relF_trans {k x y z : Nat} (h1 : relF L σ φ k x y = true) (h2 : relF L σ φ k y z = true) : relF L σ φ k x z = true :=
  relF_iff.2 fun j hj => apF_false.2 fun w hw hl => ((apF_false.1 (relF_iff.1 h1 j hj)) w hw hl).trans ((apF_false.1 (relF_iff.1 h2 j hj)) w hw hl)
theorem relF_less {k j x y : Nat} (h : relF L σ φ k x y = true) (hj : j ≤ k) : relF L σ φ j x y = true := relF_iff.2 fun i hi => relF_iff.1 h i (by omega)
/-- The first one of its kind. -/
def repF (L : Nat) (σ : Nat → Nat → Nat) (φ : Nat → Bool) (k x : Nat) : Bool := (List.range x).all fun y => !relF L σ φ k y x
theorem repF_iff {k x : Nat} : repF L σ φ k x = true ↔ ∀ y, y < x → relF L σ φ k y x = false := by
  unfold repF
  rw [List.all_eq_true]
  constructor
  · intro h y hy
    have := h y (List.mem_range.2 hy)
    simpa using this
  · intro h y hy
    rw [h y (List.mem_range.1 hy)]; rfl
/-- Each one has a first one of its kind. -/
theorem rep_of (k : Nat) : ∀ x, ∃ y, y ≤ x ∧ relF L σ φ k y x = true ∧ repF L σ φ k y = true := by
  intro x
  induction x using Nat.strongRecOn with
  | ind x ih =>
    by_cases h : repF L σ φ k x = true
    · exact ⟨x, Nat.le_refl _, relF_refl _ _, h⟩
    · have h' : ¬ ∀ y, y < x → relF L σ φ k y x = false := fun q => h (repF_iff.2 q)
      obtain ⟨y, hy⟩ := Classical.not_forall.1 h'
      obtain ⟨hy1, hy2⟩ := Classical.not_imp.1 hy
      obtain ⟨z, hz1, hz2, hz3⟩ := ih y hy1
      have hyx : relF L σ φ k y x = true := by
        rcases e : relF L σ φ k y x with _ | _
        · exact absurd e hy2
        · rfl
      exact ⟨z, by omega, relF_trans hz2 hyx, hz3⟩
theorem rep_unique {k x y : Nat} (hx : repF L σ φ k x = true) (hy : repF L σ φ k y = true) (h : relF L σ φ k x y = true) : x = y := by
  rcases Nat.lt_trichotomy x y with hlt | e | hlt
  · rw [repF_iff.1 hy x hlt] at h; cases h
  · exact e
  · have h' := relF_symm h
    rw [repF_iff.1 hx y hlt] at h'; cases h'
theorem relF_up {k x y : Nat} (h : relF L σ φ k x y = true) (ha : apF L σ φ k x y = false) : relF L σ φ (k + 1) x y = true := relF_iff.2 fun j hj => by
  rcases Nat.lt_or_eq_of_le (Nat.le_of_lt_succ hj) with h1 | rfl
  · exact relF_iff.1 h j h1
  · exact ha
theorem relF_down {k x y : Nat} (ha : apF L σ φ k x y = true) : relF L σ φ (k + 1) x y = false := by
  rcases e : relF L σ φ (k + 1) x y with _ | _
  · rfl
  · rw [relF_iff.1 e k (by omega)] at ha; cases ha
theorem repF_up {k x : Nat} (h : repF L σ φ k x = true) : repF L σ φ (k + 1) x = true := repF_iff.2 fun y hy => by
  rcases e : relF L σ φ (k + 1) y x with _ | _
  · rfl
  · have := repF_iff.1 h y hy
    rw [relF_less e (by omega)] at this; cases this
theorem filter_lt {α : Type} {l : List α} {p q : α → Bool} (h : ∀ x ∈ l, p x = true → q x = true) {z : α} (hz : z ∈ l) (hq : q z = true) (hp : p z = false) : (l.filter p).length < (l.filter q).length := by
  induction l with
  | nil => cases hz
  | cons a l ih =>
    have hle : (l.filter p).length ≤ (l.filter q).length := by
      clear ih hz
      induction l with
      | nil => simp
      | cons b l ih =>
        have hb := h b (by simp)
        have := ih (fun x hx => h x (by rcases List.mem_cons.1 hx with rfl | hx <;> simp_all))
        rcases e : p b with _ | _ <;> rcases e2 : q b with _ | _ <;> simp_all <;> omega
    rcases List.mem_cons.1 hz with rfl | hz'
    · simp [hp, hq]; omega
    · have := ih (fun x hx => h x (List.mem_cons_of_mem _ hx)) hz'
      have ha := h a List.mem_cons_self
      rcases e : p a with _ | _ <;> rcases e2 : q a with _ | _ <;> simp_all <;> omega
/-- How many kinds there are at level k. -/
def kinds (L : Nat) (σ : Nat → Nat → Nat) (φ : Nat → Bool) (N k : Nat) : Nat := ((List.range N).filter (repF L σ φ k)).length
theorem kinds_step {N k x y : Nat} (hx : x < N) (hy : y < N) (h : relF L σ φ k x y = true) (ha : apF L σ φ k x y = true) : kinds L σ φ N k < kinds L σ φ N (k + 1) := by
  obtain ⟨x', hx1, hx2, hx3⟩ := rep_of (L := L) (σ := σ) (φ := φ) (k + 1) x
  obtain ⟨y', hy1, hy2, hy3⟩ := rep_of (L := L) (σ := σ) (φ := φ) (k + 1) y
  have hne : x' ≠ y' := by
    rintro rfl
    have := relF_trans (relF_symm hx2) hy2
    rw [relF_down ha] at this; cases this
  have hal : relF L σ φ k x' y' = true := relF_trans (relF_trans (relF_less hx2 (by omega)) h) (relF_symm (relF_less hy2 (by omega)))
  unfold kinds
  rcases e : repF L σ φ k x' with _ | _
  · exact filter_lt (fun z _ hz => repF_up hz) (List.mem_range.2 (by omega)) hx3 e
  · rcases e2 : repF L σ φ k y' with _ | _
    · exact filter_lt (fun z _ hz => repF_up hz) (List.mem_range.2 (by omega)) hy3 e2
    · exact absurd (rep_unique e e2 hal) hne
theorem kinds_le (N k : Nat) : kinds L σ φ N k ≤ N := by
  have := List.length_filter_le (repF L σ φ k) (List.range N)
  simpa [kinds] using this
theorem kinds_zero {N : Nat} (h : 0 < N) : 1 ≤ kinds L σ φ N 0 := by
  have h0 : (0 : Nat) ∈ (List.range N).filter (repF L σ φ 0) := List.mem_filter.2 ⟨List.mem_range.2 h, rfl⟩
  exact List.length_pos_of_mem h0
/-- At every level below the least that tells them apart, some two are newly told apart. -/
theorem chain {N : Nat} (hσ : ∀ x c, x < N → c < L → σ x c < N) {m : Nat} : ∀ {x y : Nat}, x < N → y < N → relF L σ φ m x y = true → apF L σ φ m x y = true →
    ∀ j, j ≤ m → ∃ x' y', x' < N ∧ y' < N ∧ relF L σ φ j x' y' = true ∧ apF L σ φ j x' y' = true := by
  induction m with
  | zero =>
    intro x y hx hy h ha j hj
    obtain rfl : j = 0 := by omega
    exact ⟨x, y, hx, hy, h, ha⟩
  | succ m ih =>
    intro x y hx hy h ha j hj
    rcases Nat.lt_or_eq_of_le hj with h1 | rfl
    · have ha' : ((List.range L).any fun c => apF L σ φ m (σ x c) (σ y c)) = true := ha
      obtain ⟨c, hc, hm⟩ := List.any_eq_true.1 ha'
      have hc' := List.mem_range.1 hc
      refine ih (hσ x c hx hc') (hσ y c hy hc') (relF_iff.2 fun i hi => ?_) hm j (by omega)
      rcases e : apF L σ φ i (σ x c) (σ y c) with _ | _
      · rfl
      · have : apF L σ φ (i + 1) x y = true := List.any_eq_true.2 ⟨c, hc, e⟩
        rw [relF_iff.1 h (i + 1) (by omega)] at this; cases this
    · exact ⟨x, y, hx, hy, h, ha⟩
theorem kinds_many {N : Nat} (hN : 0 < N) {m : Nat} (h : ∀ j, j ≤ m → ∃ x' y', x' < N ∧ y' < N ∧ relF L σ φ j x' y' = true ∧ apF L σ φ j x' y' = true) : m + 2 ≤ kinds L σ φ N (m + 1) := by
  induction m with
  | zero =>
    obtain ⟨x, y, hx, hy, h1, h2⟩ := h 0 (by omega)
    have := kinds_step hx hy h1 h2
    have := kinds_zero (L := L) (σ := σ) (φ := φ) hN
    simp only [Nat.zero_add] at *; omega
  | succ m ih =>
    obtain ⟨x, y, hx, hy, h1, h2⟩ := h (m + 1) (by omega)
    have := kinds_step hx hy h1 h2
    have := ih (fun j hj => h j (by omega))
    omega
theorem least_apart {x y k : Nat} (h : apF L σ φ k x y = true) : ∃ m, m ≤ k ∧ relF L σ φ m x y = true ∧ apF L σ φ m x y = true := by
  induction k using Nat.strongRecOn with
  | ind k ih =>
    by_cases hr : relF L σ φ k x y = true
    · exact ⟨k, Nat.le_refl _, hr, h⟩
    · have : ¬ ∀ j, j < k → apF L σ φ j x y = false := fun q => hr (relF_iff.2 q)
      obtain ⟨j, hj⟩ := Classical.not_forall.1 this
      obtain ⟨h1, h2⟩ := Classical.not_imp.1 hj
      obtain ⟨m, hm, h3⟩ := ih j h1 (by rcases e : apF L σ φ j x y with _ | _; exact absurd e h2; rfl)
      exact ⟨m, by omega, h3⟩
/-- Two of N that are told apart at all are told apart by a word of at most N less two letters. -/
theorem apart_short {N : Nat} (hσ : ∀ x c, x < N → c < L → σ x c < N) {x y k : Nat} (hx : x < N) (hy : y < N) (h : apF L σ φ k x y = true) : ∃ m, m ≤ k ∧ m + 2 ≤ N ∧ relF L σ φ m x y = true ∧ apF L σ φ m x y = true := by
  obtain ⟨m, hm, h1, h2⟩ := least_apart h
  have := kinds_many (by omega : 0 < N) (chain hσ hx hy h1 h2)
  have := kinds_le (L := L) (σ := σ) (φ := φ) N (m + 1)
  exact ⟨m, hm, by omega, h1, h2⟩
end
end Go.Proofs.YtbciefeipiphiaaDoor.Sm

namespace Go.Proofs.YtbciefeipiphiaaDoor.Sm
open Go.Proofs.YtbciefeipiphiaaDoor.Df Go.Proofs.YtbciefeipiphiaaDoor.Wo Go.Proofs.YtbciefeipiphiaaDoor.Rc

/-! ### two automata, read side by side -/
/-- Told apart by a word of just k letters. -/
def ap2 (a b : Aut) : Nat → Nat → Nat → Bool
  | 0, x, y => finA a x != finA b y
  | k + 1, x, y => (List.range a.L.toNat).any fun c => ap2 a b k (step a x c) (step b y c)
theorem ap2_iff {a b : Aut} {k x y : Nat} : ap2 a b k x y = true ↔ ∃ w, Word a.L w ∧ w.length = k ∧ finA a (runA a x w) ≠ finA b (runA b y w) := by
  induction k generalizing x y with
  | zero =>
    show (finA a x != finA b y) = true ↔ _
    rw [bne_iff_ne]
    constructor
    · intro h; exact ⟨[], by intro a ha; simp at ha, rfl, h⟩
    · rintro ⟨w, _, hl, hf⟩
      obtain rfl := List.eq_nil_of_length_eq_zero hl
      exact hf
  | succ k ih =>
    show ((List.range a.L.toNat).any fun c => ap2 a b k (step a x c) (step b y c)) = true ↔ _
    rw [List.any_eq_true]
    constructor
    · rintro ⟨c, hc, h⟩
      obtain ⟨w, hw, hl, hf⟩ := ih.1 h
      rw [List.mem_range] at hc
      refine ⟨(c : Int) :: w, fun e he => ?_, by simp [hl], hf⟩
      rcases List.mem_cons.1 he with rfl | he
      · exact ⟨by omega, by omega⟩
      · exact hw e he
    · rintro ⟨w, hw, hl, hf⟩
      rcases w with _ | ⟨c, w⟩
      · simp at hl
      · have hc := hw c List.mem_cons_self
        exact ⟨c.toNat, List.mem_range.2 (by omega), ih.2 ⟨w, fun e he => hw e (List.mem_cons_of_mem _ he), by simpa using hl, hf⟩⟩
theorem ap2_false {a b : Aut} {k x y : Nat} : ap2 a b k x y = false ↔ ∀ w, Word a.L w → w.length = k → finA a (runA a x w) = finA b (runA b y w) := by
  constructor
  · intro h w hw hl
    rcases Decidable.em (finA a (runA a x w) = finA b (runA b y w)) with e | e
    · exact e
    · rw [ap2_iff.2 ⟨w, hw, hl, e⟩] at h; cases h
  · intro h
    rcases e : ap2 a b k x y with _ | _
    · rfl
    · obtain ⟨w, hw, hl, h2⟩ := ap2_iff.1 e
      exact absurd (h w hw hl) h2
/-- Both in one system: those of b come after those of a. -/
def sig (a b : Aut) (x c : Nat) : Nat := if x < a.next.length then step a x c else a.next.length + step b (x - a.next.length) c
def phi (a b : Aut) (x : Nat) : Bool := if x < a.next.length then finA a x else finA b (x - a.next.length)
theorem sig_l {a b : Aut} {x c : Nat} (hx : x < a.next.length) : sig a b x c = step a x c := if_pos hx
theorem sig_r {a b : Aut} {y c : Nat} : sig a b (a.next.length + y) c = a.next.length + step b y c := by
  unfold sig; rw [if_neg (by omega)]; congr 2; omega
theorem phi_l {a b : Aut} {x : Nat} (hx : x < a.next.length) : phi a b x = finA a x := if_pos hx
theorem phi_r {a b : Aut} {y : Nat} : phi a b (a.next.length + y) = finA b y := by
  unfold phi; rw [if_neg (by omega)]; congr 1; omega
theorem any_congr' {α : Type} {l : List α} {p q : α → Bool} (h : ∀ x ∈ l, p x = q x) : l.any p = l.any q := by
  induction l with
  | nil => rfl
  | cons a l ih => simp only [List.any_cons]; rw [h a List.mem_cons_self, ih fun x hx => h x (List.mem_cons_of_mem _ hx)]
theorem ap2_union {a b : Aut} (g : Good2 a b) {k x y : Nat} (hx : x < a.next.length) : ap2 a b k x y = apF a.L.toNat (sig a b) (phi a b) k x (a.next.length + y) := by
  have h1 := g.ga.l1
  induction k generalizing x y with
  | zero =>
    show (finA a x != finA b y) = (phi a b x != phi a b (a.next.length + y))
    rw [phi_l hx, phi_r]
  | succ k ih =>
    show ((List.range a.L.toNat).any fun c => ap2 a b k (step a x c) (step b y c)) = ((List.range a.L.toNat).any fun c => apF a.L.toNat (sig a b) (phi a b) k (sig a b x c) (sig a b (a.next.length + y) c))
    refine any_congr' fun c hc => ?_
    have hc' := List.mem_range.1 hc
    rw [sig_l hx, sig_r]
    exact ih (g.ga.step_lt hx (by omega))
theorem ap2_self {a : Aut} {k x y : Nat} : ap2 a a k x y = apF a.L.toNat (step a) (finA a) k x y := by
  induction k generalizing x y with
  | zero => rfl
  | succ k ih =>
    show ((List.range a.L.toNat).any fun c => ap2 a a k (step a x c) (step a y c)) = ((List.range a.L.toNat).any fun c => apF a.L.toNat (step a) (finA a) k (step a x c) (step a y c))
    exact any_congr' fun c _ => ih
/-- Two states of two automata that are told apart at all are told apart by a short word. -/
theorem short2 {a b : Aut} (g : Good2 a b) {k x y : Nat} (hx : x < a.next.length) (hy : y < b.next.length) (h : ap2 a b k x y = true) :
    ∃ m, m ≤ k ∧ m + 2 ≤ a.next.length + b.next.length ∧ (∀ j, j < m → ap2 a b j x y = false) ∧ ap2 a b m x y = true := by
  rw [ap2_union g hx] at h
  have h1 := g.ga.l1
  have he := g.eL
  obtain ⟨m, h1, h2, h3, h4⟩ := apart_short (N := a.next.length + b.next.length) (fun z c hz hc => by
    unfold sig
    split
    · rename_i h; have := g.ga.step_lt h (a := c) (by omega); omega
    · have := g.gb.step_lt (q := z - a.next.length) (a := c) (by omega) (by omega); omega) (by omega) (by omega) h
  refine ⟨m, h1, h2, fun j hj => ?_, by rw [ap2_union g hx]; exact h4⟩
  rw [ap2_union g hx]
  exact relF_iff.1 h3 j hj
/-- Two states of one automaton. -/
theorem short1 {a : Aut} (g : Df.Good a) {k x y : Nat} (hx : x < a.next.length) (hy : y < a.next.length) (h : ap2 a a k x y = true) :
    ∃ m, m ≤ k ∧ m + 2 ≤ a.next.length ∧ (∀ j, j < m → ap2 a a j x y = false) ∧ ap2 a a m x y = true := by
  rw [ap2_self] at h
  have h1 := g.l1
  obtain ⟨m, h1, h2, h3, h4⟩ := apart_short (N := a.next.length) (fun z c hz hc => g.step_lt hz (by omega)) hx hy h
  refine ⟨m, h1, h2, fun j hj => ?_, by rw [ap2_self]; exact h4⟩
  rw [ap2_self]
  exact relF_iff.1 h3 j hj

/-! ### alike -/
/-- From the one and from the other the same words are accepted. -/
def Alike (a b : Aut) (x y : Nat) : Prop := ∀ w, Word a.L w → finA a (runA a x w) = finA b (runA b y w)
def sameB (a b : Aut) (x y : Nat) : Bool := (List.range (a.next.length + b.next.length)).all fun k => !ap2 a b k x y
theorem same_iff {a b : Aut} (g : Good2 a b) {x y : Nat} (hx : x < a.next.length) (hy : y < b.next.length) : sameB a b x y = true ↔ Alike a b x y := by
  unfold sameB
  rw [List.all_eq_true]
  constructor
  · intro h w hw
    rcases Decidable.em (finA a (runA a x w) = finA b (runA b y w)) with e | e
    · exact e
    · obtain ⟨m, _, h2, _, h4⟩ := short2 g hx hy (ap2_iff.2 ⟨w, hw, rfl, e⟩)
      have := h m (List.mem_range.2 (by omega))
      rw [h4] at this; cases this
  · intro h k _
    rw [ap2_false.2 fun w hw _ => h w hw]; rfl
theorem Alike.refl (a : Aut) (x : Nat) : Alike a a x x := fun _ _ => rfl
theorem Alike.symm {a b : Aut} {x y : Nat} (h : Alike a b x y) (e : a.L = b.L) : Alike b a y x := fun w hw => (h w (by rw [e]; exact hw)).symm
theorem Alike.trans {a b c : Aut} {x y z : Nat} (h : Alike a b x y) (h2 : Alike b c y z) (e : a.L = b.L) : Alike a c x z := fun w hw => (h w hw).trans (h2 w (by rw [← e]; exact hw))
theorem Alike.step {a b : Aut} {x y : Nat} (h : Alike a b x y) {c : Nat} (hc : (c : Int) < a.L) : Alike a b (step a x c) (step b y c) := fun w hw => by
  have := h ((c : Int) :: w) (fun e he => by
    rcases List.mem_cons.1 he with rfl | he
    · exact ⟨by omega, hc⟩
    · exact hw e he)
  exact this
theorem Alike.run {a b : Aut} {x y : Nat} (h : Alike a b x y) {v : List Int} (hv : Word a.L v) : Alike a b (runA a x v) (runA b y v) := fun w hw => by
  have := h (v ++ w) (fun e he => by
    rcases List.mem_append.1 he with he | he
    · exact hv e he
    · exact hw e he)
  rw [runA_append, runA_append] at this
  exact this
/-- The first one of b that is alike. -/
def kin (a b : Aut) (x : Nat) : Nat := (least b.next.length (sameB a b x)).getD 0
theorem kin_spec {a b : Aut} (g : Good2 a b) {x y : Nat} (hx : x < a.next.length) (hy : y < b.next.length) (h : Alike a b x y) :
    kin a b x ≤ y ∧ kin a b x < b.next.length ∧ Alike a b x (kin a b x) ∧ ∀ j, j < kin a b x → ¬ Alike a b x j := by
  rcases e : least b.next.length (sameB a b x) with _ | k
  · have := least_none e hy
    rw [(same_iff g hx hy).2 h] at this; cases this
  · obtain ⟨h1, h2, h3⟩ := least_some e
    have hk : kin a b x = k := by unfold kin; rw [e]; rfl
    rw [hk]
    have h4 : ∀ j, j < k → ¬ Alike a b x j := fun j hj ha => by
      have := h3 j hj
      rw [(same_iff g hx (by omega)).2 ha] at this; cases this
    refine ⟨?_, h1, (same_iff g hx h1).1 h2, h4⟩
    rcases Nat.lt_or_ge y k with hlt | hge
    · exact absurd h (h4 y hlt)
    · exact hge
/-- What is alike has the same kin. -/
theorem kin_congr {a a' b : Aut} (g : Good2 a b) (g' : Good2 a' b) {x x' y : Nat} (hx : x < a.next.length) (hx' : x' < a'.next.length) (hy : y < b.next.length) (h : Alike a b x y) (h' : Alike a a' x x') : kin a b x = kin a' b x' := by
  have e : a.L = a'.L := g.eL.trans g'.eL.symm
  have h2 : Alike a' b x' y := (h'.symm e).trans h e.symm
  obtain ⟨_, p1, p2, p3⟩ := kin_spec g hx hy h
  obtain ⟨_, q1, q2, q3⟩ := kin_spec g' hx' hy h2
  rcases Nat.lt_trichotomy (kin a b x) (kin a' b x') with hlt | e' | hlt
  · exact absurd ((h'.symm e).trans p2 e.symm) (q3 _ hlt)
  · exact e'
  · exact absurd (h'.trans q2 e) (p3 _ hlt)

/-! ### the smallest automaton -/
theorem Good2.self {d : Aut} (g : Df.Good d) : Good2 d d := ⟨g, g, rfl⟩
theorem stand_spec {d : Aut} (g : Df.Good d) {x : Nat} (hx : x < d.next.length) : kin d d x ≤ x ∧ kin d d x < d.next.length ∧ Alike d d x (kin d d x) := by
  obtain ⟨h1, h2, h3, _⟩ := kin_spec (Good2.self g) hx hx (Alike.refl d x)
  exact ⟨h1, h2, h3⟩
theorem stand_stand {d : Aut} (g : Df.Good d) {x : Nat} (hx : x < d.next.length) : kin d d (kin d d x) = kin d d x := by
  obtain ⟨_, h2, h3⟩ := stand_spec g hx
  exact (kin_congr (Good2.self g) (Good2.self g) hx h2 hx (Alike.refl d x) h3).symm
/-- Each way goes to the first one of its kind. -/
def quo (d : Aut) : Aut := ⟨d.L, ((kin d d d.s.toNat : Nat) : Int), (List.range d.next.length).map fun q => (S1 d q).map fun t => ((kin d d t : Nat) : Int), d.fin⟩
theorem quo_len (d : Aut) : (quo d).next.length = d.next.length := by simp [quo]
theorem quo_row {d : Aut} {q : Nat} (hq : q < d.next.length) : (quo d).next[q]? = some ((S1 d q).map fun t => ((kin d d t : Nat) : Int)) := by
  show ((List.range d.next.length).map fun q => (S1 d q).map fun t => ((kin d d t : Nat) : Int))[q]? = _
  rw [List.getElem?_map, List.getElem?_range hq]; rfl
theorem quo_step {d : Aut} {q c : Nat} (hq : q < d.next.length) (hc : (c : Int) < d.L) : step (quo d) q c = kin d d (step d q c) := by
  unfold step
  rw [quo_row hq, Option.getD_some, List.getElem?_map, S1_get d q hc]
  rfl
theorem quo_fin (d : Aut) (q : Nat) : finA (quo d) q = finA d q := rfl
theorem quo_good {d : Aut} (g : Df.Good d) : Df.Good (quo d) := by
  refine ⟨g.l1, g.l6, ?_, ?_, ?_, ?_, ?_, ?_⟩
  · rw [quo_len]; exact g.n1
  · rw [quo_len]; exact g.n40
  · rw [quo_len]; exact g.fin
  · intro r hr
    obtain ⟨q, _, rfl⟩ := List.mem_map.1 hr
    rw [List.length_map]
    exact S1_len g q
  · have := (stand_spec g g.s_lt).2.1
    refine ⟨?_, ?_⟩
    · show (0 : Int) ≤ ((kin d d d.s.toNat : Nat) : Int); omega
    · rw [quo_len]; show ((kin d d d.s.toNat : Nat) : Int) < _; omega
  · intro r hr x hx
    obtain ⟨q, hq, rfl⟩ := List.mem_map.1 hr
    obtain ⟨t, ht, rfl⟩ := List.mem_map.1 hx
    have := (stand_spec g (S1_lt g (List.mem_range.1 hq) ht)).2.1
    refine ⟨by omega, ?_⟩
    rw [quo_len]; omega
theorem quo_alike {d : Aut} (g : Df.Good d) {x : Nat} (hx : x < d.next.length) : Alike (quo d) d x x := by
  intro w
  induction w generalizing x with
  | nil => intro _; rfl
  | cons c w ih =>
    intro hw
    have hc := hw c List.mem_cons_self
    have hc' : ((c.toNat : Nat) : Int) < d.L := by have := hc.2; have : c < d.L := this; omega
    have hw' : Word d.L w := fun e he => hw e (List.mem_cons_of_mem _ he)
    have hs := g.step_lt hx hc'
    obtain ⟨_, h2, h3⟩ := stand_spec g hs
    show finA (quo d) (runA (quo d) (step (quo d) x c.toNat) w) = finA d (runA d (step d x c.toNat) w)
    rw [quo_step hx hc', ih h2 hw', h3 w hw']
theorem quo_acc {d : Aut} (g : Df.Good d) {w : List Int} (hw : Word d.L w) : accA (quo d) w = accA d w := by
  show finA (quo d) (runA (quo d) (kin d d d.s.toNat) w) = finA d (runA d d.s.toNat w)
  obtain ⟨_, h2, h3⟩ := stand_spec g g.s_lt
  rw [quo_alike g h2 w hw, h3 w hw]
def minA (d : Aut) : Aut := trimA (quo d)
theorem min_good {d : Aut} (g : Df.Good d) : Df.Good (minA d) := trim_good (quo_good g)
theorem min_acc {d : Aut} (g : Df.Good d) {w : List Int} (hw : Word d.L w) : accA (minA d) w = accA d w := by
  unfold minA
  rw [trim_acc (quo_good g) hw, quo_acc g hw]
theorem min_L (d : Aut) : (minA d).L = d.L := rfl
theorem trim_states {d : Aut} (g : Df.Good d) : (trimA d).next.length ≤ d.next.length := by
  have hn : (trimA d).next.length = (rset d d.s.toNat).length := by unfold trimA autOf; simp
  rw [hn]
  exact nodup_le _ _ (rset_whole g g.s_lt).nd fun x hx => rset_lt g g.s_lt hx
theorem min_states {d : Aut} (g : Df.Good d) : (minA d).next.length ≤ d.next.length := by
  have := trim_states (quo_good g)
  rw [quo_len] at this
  exact this
end Go.Proofs.YtbciefeipiphiaaDoor.Sm

namespace Go.Proofs.YtbciefeipiphiaaDoor.Sm
open Go.Proofs.YtbciefeipiphiaaDoor.Df Go.Proofs.YtbciefeipiphiaaDoor.Wo Go.Proofs.YtbciefeipiphiaaDoor.Rc

/-! ### what is found is found alike under another name -/
theorem num_map {α β : Type} [DecidableEq α] [DecidableEq β] {l : List α} {φ : α → β} (hi : ∀ x ∈ l, ∀ y ∈ l, φ x = φ y → x = y) {t : α} (ht : t ∈ l) : num (l.map φ) (φ t) = num l t := by
  induction l with
  | nil => cases ht
  | cons a l ih =>
    unfold num at *
    rw [List.map_cons, List.idxOf_cons, List.idxOf_cons]
    by_cases e : a = t
    · subst e; simp
    · have hne : φ a ≠ φ t := fun h => e (hi a List.mem_cons_self t ht h)
      have ht' : t ∈ l := by
        rcases List.mem_cons.1 ht with h | h
        · exact absurd h.symm e
        · exact h
      have := ih (fun x hx y hy => hi x (List.mem_cons_of_mem _ hx) y (List.mem_cons_of_mem _ hy)) ht'
      rw [this, beq_eq_false_iff_ne.2 hne, beq_eq_false_iff_ne.2 e]
theorem expl_as {α β : Type} [DecidableEq α] [DecidableEq β] {S : α → List α} {T : β → List β} {l : List α} {φ : α → β} (hc : ∀ x ∈ l, ∀ t ∈ S x, t ∈ l) (hi : ∀ x ∈ l, ∀ y ∈ l, φ x = φ y → x = y) (hT : ∀ x ∈ l, T (φ x) = (S x).map φ) :
    ∀ (n i : Nat) (k : List α), expl S n i k = some l → (∀ x ∈ k, x ∈ l) → expl T n i (k.map φ) = some (l.map φ) := by
  intro n
  induction n with
  | zero =>
    intro i k e _
    rw [expl] at e ⊢
    obtain rfl := Option.some.inj e
    rfl
  | succ n ih =>
    intro i k e hk
    rcases hx : k[i]? with _ | x
    · rw [expl, hx] at e
      rw [expl, List.getElem?_map, hx]
      obtain rfl := Option.some.inj e
      rfl
    · have hm := hk x (List.mem_of_getElem? hx)
      rw [expl, hx] at e
      rw [expl, List.getElem?_map, hx]
      simp only [Option.map_some] at e ⊢
      rw [hT x hm, addAll_map hi hk (hc x hm), List.length_map]
      by_cases hl : 40 < (addAll k (S x)).length
      · rw [if_pos hl] at e; cases e
      · rw [if_neg hl] at e ⊢
        refine ih _ _ e (fun y hy => ?_)
        rcases mem_addAll.1 hy with hy | hy
        · exact hk y hy
        · exact hc x hm y hy
theorem trim_as {a b : Aut} (ga : Df.Good a) (hL : a.L = b.L) {φ : Nat → Nat} (hs : φ a.s.toNat = b.s.toNat) (hi : ∀ x ∈ rset a a.s.toNat, ∀ y ∈ rset a a.s.toNat, φ x = φ y → x = y)
    (hT : ∀ x ∈ rset a a.s.toNat, S1 b (φ x) = (S1 a x).map φ) (hf : ∀ x ∈ rset a a.s.toNat, finA b (φ x) = finA a x) : trimA b = trimA a := by
  have hw := rset_whole ga ga.s_lt
  obtain ⟨l, hl⟩ := found1 ga ga.s_lt
  have hr : rset a a.s.toNat = l := by unfold rset; rw [hl]; rfl
  rw [hr] at hw hi hT hf
  have hb : rset b b.s.toNat = l.map φ := by
    have h1 := expl_as hw.closed hi hT 41 0 [a.s.toNat] hl (fun x hx => by simp at hx; subst hx; exact List.mem_of_getElem? hw.hd)
    rw [List.map_singleton, hs] at h1
    have h2 : found (S1 b) b.s.toNat = some (l.map φ) := h1
    unfold rset; rw [h2]; rfl
  unfold trimA
  rw [hb, hr]
  unfold autOf
  rw [List.map_map, List.map_map, ← hL]
  congr 1
  · refine List.map_congr_left fun x hx => ?_
    show srow (S1 b) (l.map φ) (φ x) = srow (S1 a) l x
    unfold srow
    rw [hT x hx, List.map_map]
    refine List.map_congr_left fun t ht => ?_
    show ((num (l.map φ) (φ t) : Nat) : Int) = _
    rw [num_map hi (hw.closed x hx t ht)]
  · exact List.map_congr_left fun x hx => hf x hx

/-! ### Myhill, Nerode -/
/-- What is reached in the one by a word is alike to what the same word leads to. -/
theorem quo_reached {d : Aut} (g : Df.Good d) {x : Nat} (h : x ∈ rset (quo d) (quo d).s.toNat) : x < d.next.length ∧ kin d d x = x ∧ ∃ w, Word d.L w ∧ Alike d d x (runA d d.s.toNat w) := by
  have gq := quo_good g
  have hlt : x < d.next.length := by
    have := rset_lt gq gq.s_lt h
    rw [quo_len] at this; exact this
  have hr := (mem_rset gq gq.s_lt).1 h
  refine ⟨hlt, ?_, ?_⟩
  · cases hr with
    | base => exact stand_stand g g.s_lt
    | @next z _ hz ht =>
      obtain ⟨c, hc, e⟩ := mem_S1.1 ht
      have hzl := rch_lt1 gq gq.s_lt hz
      rw [quo_len] at hzl
      have hc' : (c : Int) < d.L := hc
      rw [← e, quo_step hzl hc']
      exact stand_stand g (g.step_lt hzl hc')
  · obtain ⟨w, hw, e⟩ := rch_word.1 hr
    have hw' : Word d.L w := hw
    refine ⟨w, hw', ?_⟩
    have h0 : (quo d).s.toNat < d.next.length := by have := gq.s_lt; rw [quo_len] at this; exact this
    have h1 : Alike (quo d) d (quo d).s.toNat d.s.toNat := by
      obtain ⟨_, h2, h3⟩ := stand_spec g g.s_lt
      exact (quo_alike g h0).trans (h3.symm rfl) rfl
    have h2 := h1.run (v := w) hw
    rw [e] at h2
    exact ((quo_alike g hlt).symm rfl).trans h2 rfl
theorem quo_S1 {d : Aut} (g : Df.Good d) {x : Nat} (hx : x < d.next.length) : S1 (quo d) x = (S1 d x).map (kin d d) := by
  unfold S1
  rw [List.map_map]
  refine List.map_congr_left fun c hc => ?_
  have h1 := g.l1
  have hc' : c < d.L.toNat := List.mem_range.1 hc
  exact quo_step hx (by omega)
/-- Two that accept the same have the same smallest one. -/
theorem min_unique {a b : Aut} (g : Good2 a b) (h : ∀ w, Word a.L w → accA a w = accA b w) : minA b = minA a := by
  have gab := g
  have ga := g.ga
  have gb := g.gb
  have hs : Alike a b a.s.toNat b.s.toNat := h
  have gaa : Good2 a a := Good2.self ga
  have gbb : Good2 b b := Good2.self gb
  have gqa := quo_good ga
  -- each one that is reached has a partner
  have hp : ∀ x, x ∈ rset (quo a) (quo a).s.toNat → x < a.next.length ∧ kin a a x = x ∧ kin a b x < b.next.length ∧ Alike a b x (kin a b x) := fun x hx => by
    obtain ⟨h1, h2, w, hw, h3⟩ := quo_reached ga hx
    have h4 : Alike a b x (runA b b.s.toNat w) := h3.trans (hs.run hw) rfl
    have h5 : runA b b.s.toNat w < b.next.length := gb.run_lt (by rw [← g.eL]; exact hw) gb.s_lt
    obtain ⟨_, p1, p2, _⟩ := kin_spec g h1 h5 h4
    exact ⟨h1, h2, p1, p2⟩
  unfold minA
  refine trim_as (a := quo a) (b := quo b) (φ := kin a b) gqa g.eL ?_ ?_ ?_ ?_
  · show kin a b (kin a a a.s.toNat) = kin b b b.s.toNat
    obtain ⟨_, h2, h3⟩ := stand_spec ga ga.s_lt
    have := kin_congr g gbb h2 gb.s_lt gb.s_lt ((h3.symm rfl).trans hs rfl) ((h3.symm rfl).trans hs rfl)
    exact this
  · intro x hx y hy e
    obtain ⟨x1, x2, x3, x4⟩ := hp x hx
    obtain ⟨y1, y2, y3, y4⟩ := hp y hy
    have hxy : Alike a a x y := x4.trans (by rw [e]; exact y4.symm g.eL) g.eL
    have := kin_congr gaa gaa x1 y1 x1 (Alike.refl a x) hxy
    rw [x2, y2] at this
    exact this
  · intro x hx
    obtain ⟨x1, x2, x3, x4⟩ := hp x hx
    rw [quo_S1 gb x3, quo_S1 ga x1, List.map_map]
    unfold S1
    rw [List.map_map, List.map_map, ← g.eL]
    refine List.map_congr_left fun c hc => ?_
    have h1 := ga.l1
    have hc' : c < a.L.toNat := List.mem_range.1 hc
    have hcL : (c : Int) < a.L := by omega
    have hcb : (c : Int) < b.L := by rw [← g.eL]; exact hcL
    show kin b b (step b (kin a b x) c) = kin a b (kin a a (step a x c))
    have k1 := ga.step_lt x1 hcL
    have k2 := gb.step_lt x3 hcb
    have k3 : Alike a b (step a x c) (step b (kin a b x) c) := x4.step hcL
    obtain ⟨_, p2, p3⟩ := stand_spec ga k1
    have k4 : Alike a b (kin a a (step a x c)) (step b (kin a b x) c) := (p3.symm rfl).trans k3 rfl
    exact (kin_congr g gbb p2 k2 k2 k4 k4).symm
  · intro x hx
    obtain ⟨x1, x2, x3, x4⟩ := hp x hx
    show finA b (kin a b x) = finA a x
    exact (x4 [] (fun e he => by simp at he)).symm
/-- Two accept the same just if they have the same smallest one. -/
theorem min_iff {a b : Aut} (g : Good2 a b) : minA a = minA b ↔ ∀ w, Word a.L w → accA a w = accA b w := by
  constructor
  · intro h w hw
    rw [← min_acc g.ga hw, h, min_acc g.gb (by rw [← g.eL]; exact hw)]
  · intro h
    exact (min_unique g h).symm
theorem min_min {d : Aut} (g : Df.Good d) : minA (minA d) = minA d :=
  min_unique (a := d) (b := minA d) ⟨g, min_good g, rfl⟩ fun _ hw => (min_acc g hw).symm
theorem min_reached {d : Aut} (g : Df.Good d) : (upto (minA d).next.length (isReached (minA d) 0)).length = (minA d).next.length := trim_reached (quo_good g)
/-- No two states of the smallest one are alike. -/
theorem min_apart {d : Aut} (g : Df.Good d) {i j : Nat} (hi : i < (minA d).next.length) (hj : j < (minA d).next.length) (h : Alike (minA d) (minA d) i j) : i = j := by
  have gq := quo_good g
  have hw := rset_whole gq gq.s_lt
  have hn : (minA d).next.length = (rset (quo d) (quo d).s.toNat).length := by unfold minA trimA autOf; simp
  rw [hn] at hi hj
  have key : ∀ i (hi : i < (rset (quo d) (quo d).s.toNat).length), Alike (minA d) d i ((rset (quo d) (quo d).s.toNat)[i]) := by
    intro i hi w hwd
    have hwd' : Word (quo d).L w := hwd
    have hm := List.getElem_mem hi
    have hnum : num (rset (quo d) (quo d).s.toNat) ((rset (quo d) (quo d).s.toNat)[i]) = i := idx_of hw.nd (List.getElem?_eq_getElem hi)
    obtain ⟨p1, p2⟩ := autOf_run (f := finA (quo d)) hw (fun x _ => S1_len gq x) hwd' hm
    rw [hnum, viaAll1 hwd'] at p2
    rw [viaAll1 hwd'] at p1
    have e : runA (minA d) i w = num (rset (quo d) (quo d).s.toNat) (runA (quo d) ((rset (quo d) (quo d).s.toNat)[i]) w) := p2
    obtain ⟨q1, _, _⟩ := quo_reached g hm
    have q2 := quo_alike g q1 w hwd'
    rw [← q2, e]
    show ((rset (quo d) (quo d).s.toNat).map (finA (quo d)))[num (rset (quo d) (quo d).s.toNat) (runA (quo d) ((rset (quo d) (quo d).s.toNat)[i]) w)]?.getD false = _
    rw [List.getElem?_map, idx_get p1]; rfl
  have hk := ((key i hi).symm rfl).trans (h.trans (key j hj) rfl) rfl
  obtain ⟨x1, x2, _⟩ := quo_reached g (List.getElem_mem hi)
  obtain ⟨y1, y2, _⟩ := quo_reached g (List.getElem_mem hj)
  have := kin_congr (Good2.self g) (Good2.self g) x1 y1 x1 (Alike.refl d _) hk
  rw [x2, y2] at this
  exact (List.getElem_inj hw.nd).1 this
end Go.Proofs.YtbciefeipiphiaaDoor.Sm

namespace Go.Proofs.YtbciefeipiphiaaDoor.Sm
open Go.Proofs.YtbciefeipiphiaaDoor.Df Go.Proofs.YtbciefeipiphiaaDoor.Wo Go.Proofs.YtbciefeipiphiaaDoor.Rc

/-- The first of the words of k letters that tell two states apart. -/
def pick2 (a b : Aut) : Nat → Nat → Nat → List Int
  | 0, _, _ => []
  | k + 1, x, y => match least a.L.toNat (fun c => ap2 a b k (step a x c) (step b y c)) with
    | none => []
    | some c => (c : Int) :: pick2 a b k (step a x c) (step b y c)
theorem least_letter2 {a b : Aut} {k x y : Nat} (h : ap2 a b (k + 1) x y = true) : ∃ c, least a.L.toNat (fun c => ap2 a b k (step a x c) (step b y c)) = some c := by
  rcases hl : least a.L.toNat (fun c => ap2 a b k (step a x c) (step b y c)) with _ | c
  · have h' : ((List.range a.L.toNat).any fun c => ap2 a b k (step a x c) (step b y c)) = true := h
    obtain ⟨c, hc, hp⟩ := List.any_eq_true.1 h'
    rw [List.mem_range] at hc
    have hz : ap2 a b k (step a x c) (step b y c) = false := least_none hl hc
    rw [hz] at hp; cases hp
  · exact ⟨c, rfl⟩
theorem pick2_succ {a b : Aut} {k x y c : Nat} (h : least a.L.toNat (fun c => ap2 a b k (step a x c) (step b y c)) = some c) : pick2 a b (k + 1) x y = (c : Int) :: pick2 a b k (step a x c) (step b y c) := by
  rw [pick2, h]
theorem pick2_ok {a b : Aut} {k x y : Nat} (h : ap2 a b k x y = true) : Word a.L (pick2 a b k x y) ∧ (pick2 a b k x y).length = k ∧ finA a (runA a x (pick2 a b k x y)) ≠ finA b (runA b y (pick2 a b k x y)) := by
  induction k generalizing x y with
  | zero => exact ⟨by intro e he; simp [pick2] at he, rfl, bne_iff_ne.1 h⟩
  | succ k ih =>
    obtain ⟨c, hc⟩ := least_letter2 h
    obtain ⟨h1, h2, _⟩ := least_some hc
    obtain ⟨h3, h4, h5⟩ := ih h2
    rw [pick2_succ hc]
    refine ⟨fun e he => ?_, by simp [h4], h5⟩
    rcases List.mem_cons.1 he with rfl | he
    · exact ⟨by omega, by omega⟩
    · exact h3 e he
theorem pick2_least {a b : Aut} {k x y : Nat} (h : ap2 a b k x y = true) {v : List Int} (hv : Word a.L v) (hl : v.length = k) (hf : finA a (runA a x v) ≠ finA b (runA b y v)) : lx v (pick2 a b k x y) = false := by
  induction k generalizing x y v with
  | zero =>
    obtain rfl := List.eq_nil_of_length_eq_zero hl
    rfl
  | succ k ih =>
    obtain ⟨c, hc⟩ := least_letter2 h
    obtain ⟨h1, h2, h3⟩ := least_some hc
    rcases v with _ | ⟨e, v⟩
    · simp at hl
    have he := hv e List.mem_cons_self
    have hv' : Word a.L v := fun z hz => hv z (List.mem_cons_of_mem _ hz)
    have hl' : v.length = k := by simpa using hl
    have hf' : finA a (runA a (step a x e.toNat) v) ≠ finA b (runA b (step b y e.toNat) v) := hf
    have hb2 : ap2 a b k (step a x e.toNat) (step b y e.toNat) = true := ap2_iff.2 ⟨v, hv', hl', hf'⟩
    rw [pick2_succ hc, lx]
    by_cases q : e = (c : Int)
    · rw [if_pos q]
      subst q
      exact ih h2 hv' hl' hf'
    · rw [if_neg q]
      refine decide_eq_false (fun hlt => ?_)
      have := h3 e.toNat (by omega)
      rw [this] at hb2; cases hb2
/-- The first word that tells two states apart. -/
def diffW (a b : Aut) (x y : Nat) : Option (List Int) := (least (a.next.length + b.next.length) (fun k => ap2 a b k x y)).map (fun k => pick2 a b k x y)
theorem diffW_none {a b : Aut} (g : Good2 a b) {x y : Nat} (hx : x < a.next.length) (hy : y < b.next.length) : diffW a b x y = none ↔ Alike a b x y := by
  constructor
  · intro h
    have hn : least (a.next.length + b.next.length) (fun k => ap2 a b k x y) = none := by
      unfold diffW at h
      simpa using h
    refine (same_iff g hx hy).1 ?_
    unfold sameB
    rw [List.all_eq_true]
    intro k hk
    have hz : ap2 a b k x y = false := least_none hn (List.mem_range.1 hk)
    rw [hz]; rfl
  · intro h
    rcases hd : diffW a b x y with _ | w
    · rfl
    · unfold diffW at hd
      obtain ⟨k, hk, _⟩ := Option.map_eq_some_iff.1 hd
      obtain ⟨_, h2, _⟩ := least_some hk
      rw [ap2_false.2 fun w hw _ => h w hw] at h2; cases h2
theorem diffW_some {a b : Aut} (g : Good2 a b) {x y : Nat} (hx : x < a.next.length) (hy : y < b.next.length) {w : List Int} (h : diffW a b x y = some w) :
    Word a.L w ∧ w.length + 2 ≤ a.next.length + b.next.length ∧ finA a (runA a x w) ≠ finA b (runA b y w) ∧ ∀ v, Word a.L v → finA a (runA a x v) ≠ finA b (runA b y v) → lss v w = false := by
  unfold diffW at h
  obtain ⟨k, hk, rfl⟩ := Option.map_eq_some_iff.1 h
  obtain ⟨_, h2, h3⟩ := least_some hk
  obtain ⟨p1, p2, p3⟩ := pick2_ok h2
  obtain ⟨m, q1, q2, _, q4⟩ := short2 g hx hy h2
  have hmk : m = k := by
    rcases Nat.lt_or_eq_of_le q1 with hlt | e
    · have hz : ap2 a b m x y = false := h3 m hlt
      rw [hz] at q4; cases q4
    · exact e
  refine ⟨p1, by omega, p3, fun v hv hf => ?_⟩
  unfold lss
  rw [p2]
  by_cases e : v.length = k
  · rw [if_pos e]; exact pick2_least h2 hv e hf
  · rw [if_neg e]
    refine decide_eq_false (fun hlt => ?_)
    have hz : ap2 a b v.length x y = false := h3 _ hlt
    rw [ap2_iff.2 ⟨v, hv, rfl, hf⟩] at hz; cases hz
/-- Within one automaton it is shorter than there are states. -/
theorem diffW_short {a : Aut} (g : Df.Good a) {x y : Nat} (hx : x < a.next.length) (hy : y < a.next.length) {w : List Int} (h : diffW a a x y = some w) : w.length + 2 ≤ a.next.length := by
  unfold diffW at h
  obtain ⟨k, hk, rfl⟩ := Option.map_eq_some_iff.1 h
  obtain ⟨_, h2, h3⟩ := least_some hk
  obtain ⟨_, p2, _⟩ := pick2_ok h2
  obtain ⟨m, q1, q2, _, q4⟩ := short1 g hx hy h2
  rcases Nat.lt_or_eq_of_le q1 with hlt | e
  · have hz : ap2 a a m x y = false := h3 m hlt
    rw [hz] at q4; cases q4
  · omega
/-- There is one first word only. -/
theorem diffW_unique {a b : Aut} (g : Good2 a b) {x y : Nat} (hx : x < a.next.length) (hy : y < b.next.length) {w : List Int} (hw : Word a.L w) (hf : finA a (runA a x w) ≠ finA b (runA b y w))
    (hmin : ∀ v, Word a.L v → finA a (runA a x v) ≠ finA b (runA b y v) → lss v w = false) : diffW a b x y = some w := by
  rcases h : diffW a b x y with _ | u
  · exact absurd ((diffW_none g hx hy).1 h w hw) hf
  · obtain ⟨h1, _, h3, h4⟩ := diffW_some g hx hy h
    rw [lss_total (h4 w hw hf) (hmin u h1 h3)]
/-- Turned, it is the same word. -/
theorem diffW_turn {a b : Aut} (g : Good2 a b) {x y : Nat} (hx : x < a.next.length) (hy : y < b.next.length) : diffW b a y x = diffW a b x y := by
  have g' : Good2 b a := ⟨g.gb, g.ga, g.eL.symm⟩
  have hL : ∀ {v}, Word b.L v → Word a.L v := fun h => by rw [g.eL]; exact h
  rcases h : diffW b a y x with _ | w
  · exact ((diffW_none g hx hy).2 (((diffW_none g' hy hx).1 h).symm g.eL.symm)).symm
  · obtain ⟨h1, _, h3, h4⟩ := diffW_some g' hy hx h
    exact (diffW_unique g hx hy (hL h1) (fun e => h3 e.symm) fun v hv hf => h4 v (by rw [← g.eL]; exact hv) fun e => hf e.symm).symm
/-- Of two states of two clones of one automaton, alike is what it is within the one. -/
theorem diff_apart {d : Aut} (g : Df.Good d) {i j : Nat} (hi : i < (minA d).next.length) (hj : j < (minA d).next.length) (h : i ≠ j) : ∃ w, diffW (minA d) (minA d) i j = some w ∧ w.length < (minA d).next.length := by
  have gm := min_good g
  rcases e : diffW (minA d) (minA d) i j with _ | w
  · exact absurd (min_apart g hi hj ((diffW_none (Good2.self gm) hi hj).1 e)) h
  · have := diffW_short gm hi hj e
    exact ⟨w, rfl, by omega⟩
end Go.Proofs.YtbciefeipiphiaaDoor.Sm

namespace Go.Proofs.YtbciefeipiphiaaDoor.Sm
open Go.Proofs.YtbciefeipiphiaaDoor.Df Go.Proofs.YtbciefeipiphiaaDoor.Wo Go.Proofs.YtbciefeipiphiaaDoor.Rc

/-- In how many steps two states are told apart; -1: never. -/
def lev (a b : Aut) (x y : Nat) : Int := match least (a.next.length + b.next.length) (fun k => ap2 a b k x y) with
  | none => -1
  | some k => ((k : Nat) : Int)
theorem lev_cases (a b : Aut) (x y : Nat) : lev a b x y = -1 ∨ ∃ k : Nat, lev a b x y = (k : Int) := by
  unfold lev
  rcases least (a.next.length + b.next.length) (fun k => ap2 a b k x y) with _ | k
  · exact .inl rfl
  · exact .inr ⟨k, rfl⟩
theorem lev_eq {a b : Aut} (g : Good2 a b) {x y k : Nat} (hx : x < a.next.length) (hy : y < b.next.length) : lev a b x y = (k : Int) ↔ ap2 a b k x y = true ∧ ∀ j, j < k → ap2 a b j x y = false := by
  constructor
  · intro h
    unfold lev at h
    rcases e : least (a.next.length + b.next.length) (fun k => ap2 a b k x y) with _ | m
    · rw [e] at h; have h : (-1 : Int) = (k : Int) := h; omega
    · rw [e] at h
      have h : ((m : Nat) : Int) = (k : Int) := h
      obtain rfl : m = k := by omega
      obtain ⟨_, h2, h3⟩ := least_some e
      exact ⟨h2, h3⟩
  · rintro ⟨h1, h2⟩
    obtain ⟨m, q1, q2, _, q4⟩ := short2 g hx hy h1
    have hmk : m = k := by
      rcases Nat.lt_or_eq_of_le q1 with hlt | e
      · rw [h2 m hlt] at q4; cases q4
      · exact e
    subst hmk
    have e : least (a.next.length + b.next.length) (fun k => ap2 a b k x y) = some m := least_is (by omega) h1 h2
    unfold lev; rw [e]
theorem lev_lt {a b : Aut} (g : Good2 a b) {x y k : Nat} (hx : x < a.next.length) (hy : y < b.next.length) (h : lev a b x y = (k : Int)) : k + 2 ≤ a.next.length + b.next.length := by
  obtain ⟨h1, h2⟩ := (lev_eq g hx hy).1 h
  obtain ⟨m, q1, q2, _, q4⟩ := short2 g hx hy h1
  rcases Nat.lt_or_eq_of_le q1 with hlt | e
  · rw [h2 m hlt] at q4; cases q4
  · omega
theorem lev_never {a b : Aut} (g : Good2 a b) {x y : Nat} (hx : x < a.next.length) (hy : y < b.next.length) : lev a b x y = -1 ↔ Alike a b x y := by
  rw [← diffW_none g hx hy]
  unfold lev diffW
  rcases least (a.next.length + b.next.length) (fun k => ap2 a b k x y) with _ | k
  · exact ⟨fun _ => rfl, fun _ => rfl⟩
  · constructor
    · intro h; have h : ((k : Nat) : Int) = -1 := h; omega
    · intro h; cases h
theorem lev_zero {a b : Aut} (g : Good2 a b) {x y : Nat} (hx : x < a.next.length) (hy : y < b.next.length) : lev a b x y = 0 ↔ finA a x ≠ finA b y := by
  have := lev_eq g hx hy (k := 0)
  constructor
  · intro h; exact bne_iff_ne.1 ((this.1 h).1)
  · intro h; exact this.2 ⟨bne_iff_ne.2 h, fun j hj => by omega⟩
/-- One level higher: some letter leads to a pair of the level below, and the pair is of no lower level. -/
theorem lev_down {a b : Aut} (g : Good2 a b) {x y k : Nat} (hx : x < a.next.length) (hy : y < b.next.length) (h : lev a b x y = ((k + 1 : Nat) : Int)) : ∃ c : Nat, (c : Int) < a.L ∧ lev a b (step a x c) (step b y c) = (k : Int) := by
  obtain ⟨h1, h2⟩ := (lev_eq g hx hy).1 h
  have h1' : ((List.range a.L.toNat).any fun c => ap2 a b k (step a x c) (step b y c)) = true := h1
  obtain ⟨c, hc, hp⟩ := List.any_eq_true.1 h1'
  have hc' := List.mem_range.1 hc
  have hcL : (c : Int) < a.L := by omega
  refine ⟨c, hcL, (lev_eq g (g.ga.step_lt hx hcL) (g.gb.step_lt hy (by rw [← g.eL]; exact hcL))).2 ⟨hp, fun j hj => ?_⟩⟩
  rcases e : ap2 a b j (step a x c) (step b y c) with _ | _
  · rfl
  · have : ap2 a b (j + 1) x y = true := List.any_eq_true.2 ⟨c, hc, e⟩
    rw [h2 (j + 1) (by omega)] at this; cases this
theorem lev_up {a b : Aut} (g : Good2 a b) {x y k c : Nat} (hx : x < a.next.length) (hy : y < b.next.length) (hc : (c : Int) < a.L) (h : lev a b (step a x c) (step b y c) = (k : Int)) (hn : ∀ j : Nat, j ≤ k → lev a b x y ≠ (j : Int)) : lev a b x y = ((k + 1 : Nat) : Int) := by
  obtain ⟨h1, _⟩ := (lev_eq g (g.ga.step_lt hx hc) (g.gb.step_lt hy (by rw [← g.eL]; exact hc))).1 h
  have hup : ap2 a b (k + 1) x y = true := List.any_eq_true.2 ⟨c, List.mem_range.2 (by omega), h1⟩
  obtain ⟨m, q1, _, q3, q4⟩ := short2 g hx hy hup
  have hm := (lev_eq g hx hy).2 ⟨q4, q3⟩
  rcases Nat.lt_or_eq_of_le q1 with hlt | e
  · exact absurd hm (hn m (by omega))
  · rw [← e]; exact hm
/-- If none is of a level, none is of a higher one. -/
theorem lev_gap {a b : Aut} (g : Good2 a b) {k : Nat} (h : ∀ x y, x < a.next.length → y < b.next.length → lev a b x y ≠ (k : Int)) :
    ∀ j, k ≤ j → ∀ x y, x < a.next.length → y < b.next.length → lev a b x y ≠ (j : Int) := by
  intro j
  induction j with
  | zero => intro hk x y hx hy; obtain rfl : k = 0 := by omega
            exact h x y hx hy
  | succ j ih =>
    intro hk x y hx hy e
    rcases Nat.lt_or_eq_of_le hk with hlt | rfl
    · obtain ⟨c, hc, hl⟩ := lev_down g hx hy e
      exact ih (by omega) _ _ (g.ga.step_lt hx hc) (g.gb.step_lt hy (by rw [← g.eL]; exact hc)) hl
    · exact h x y hx hy e

/-! ### the table -/
/-- What the table holds of a pair in round k: before, and after the pair's turn. -/
def val (a b : Aut) (k : Nat) (done : Bool) (x y : Nat) : Int := if lev a b x y < (k : Int) ∨ (lev a b x y = (k : Int) ∧ done = true) then lev a b x y else -1
theorem val_known {a b : Aut} {k : Nat} {e : Bool} {x y : Nat} (h : 0 ≤ val a b k e x y) : val a b k e x y = lev a b x y := by
  unfold val at h ⊢
  split
  · rfl
  · rename_i hn; rw [if_neg hn] at h; omega
theorem val_neg {a b : Aut} {k : Nat} {x y : Nat} (h : val a b k false x y < 0) {j : Nat} (hj : j < k) : lev a b x y ≠ (j : Int) := by
  intro e
  unfold val at h
  rw [if_pos (.inl (by omega))] at h
  omega
theorem val_hit {a b : Aut} {k : Nat} {e : Bool} {x y : Nat} : val a b (k + 1) e x y = (k : Int) ↔ lev a b x y = (k : Int) := by
  unfold val
  constructor
  · intro h
    split at h
    · exact h
    · omega
  · intro h
    rw [if_pos (.inl (by omega))]; exact h
theorem val_old {a b : Aut} {k : Nat} {x y : Nat} (h : 0 ≤ val a b k false x y) : val a b k true x y = val a b k false x y := by
  have h1 : lev a b x y < (k : Int) := by
    unfold val at h
    split at h
    · rename_i q
      rcases q with q | q
      · exact q
      · exact absurd q.2 (by decide)
    · omega
  unfold val
  rw [if_pos (.inl h1), if_pos (.inl h1)]
/-- A pair whose turn it is, and a letter that leads to the level below. -/
theorem val_set {a b : Aut} (g : Good2 a b) {k x y c : Nat} (hx : x < a.next.length) (hy : y < b.next.length) (h : val a b (k + 1) false x y < 0) (hc : (c : Int) < a.L) (hl : lev a b (step a x c) (step b y c) = (k : Int)) : val a b (k + 1) true x y = ((k + 1 : Nat) : Int) := by
  have e := lev_up g hx hy hc hl fun j hj => val_neg h (by omega)
  unfold val
  rw [if_pos (.inr ⟨e, rfl⟩)]; exact e
/-- A pair whose turn it is, and no such letter. -/
theorem val_keep {a b : Aut} (g : Good2 a b) {k x y : Nat} (hx : x < a.next.length) (hy : y < b.next.length) (h : ∀ c : Nat, (c : Int) < a.L → lev a b (step a x c) (step b y c) ≠ (k : Int)) : val a b (k + 1) true x y = val a b (k + 1) false x y ∧ lev a b x y ≠ ((k + 1 : Nat) : Int) := by
  have hn : lev a b x y ≠ ((k + 1 : Nat) : Int) := fun e => by
    obtain ⟨c, hc, hl⟩ := lev_down g hx hy e
    exact h c hc hl
  refine ⟨?_, hn⟩
  unfold val
  by_cases q : lev a b x y < ((k + 1 : Nat) : Int)
  · rw [if_pos (.inl q), if_pos (.inl q)]
  · rw [if_neg (fun z => z.elim q fun z => hn z.1), if_neg (fun z => z.elim q fun z => hn z.1)]
theorem val_next (a b : Aut) (k x y : Nat) : val a b k true x y = val a b (k + 1) false x y := by
  unfold val
  by_cases q : lev a b x y < (k : Int) ∨ (lev a b x y = (k : Int) ∧ true = true)
  · rw [if_pos q, if_pos (.inl (by rcases q with q | q <;> omega))]
  · rw [if_neg q, if_neg (fun z => by
      rcases z with z | z
      · rcases Int.lt_or_eq_of_le (by omega : lev a b x y ≤ (k : Int)) with q1 | q1
        · exact q (.inl q1)
        · exact q (.inr ⟨q1, rfl⟩)
      · exact absurd z.2 (by decide))]
theorem val_start {a b : Aut} (g : Good2 a b) {x y : Nat} (hx : x < a.next.length) (hy : y < b.next.length) : val a b 1 false x y = if finA a x ≠ finA b y then 0 else -1 := by
  by_cases h : finA a x ≠ finA b y
  · have e := (lev_zero g hx hy).2 h
    rw [if_pos h]
    unfold val
    rw [if_pos (.inl (by omega)), e]
  · rw [if_neg h]
    have e : lev a b x y ≠ 0 := fun e => h ((lev_zero g hx hy).1 e)
    unfold val
    split
    · rename_i q
      rcases lev_cases a b x y with q1 | ⟨k, q1⟩
      · exact q1
      · rcases q with q | q
        · omega
        · exact absurd q.2 (by decide)
    · rfl
/-- When a round finds nothing, the table is whole. -/
theorem val_end {a b : Aut} (g : Good2 a b) {k : Nat} (h : ∀ x y, x < a.next.length → y < b.next.length → lev a b x y ≠ (k : Int)) {x y : Nat} (hx : x < a.next.length) (hy : y < b.next.length) (e : Bool) : val a b k e x y = lev a b x y := by
  unfold val
  split
  · rfl
  · rename_i q
    rcases lev_cases a b x y with q1 | ⟨j, q1⟩
    · exact q1.symm
    · have hj : ¬ j < k := fun hlt => q (.inl (by omega))
      exact absurd q1 (lev_gap g h j (by omega) x y hx hy)
/-- The word is read off the table: at each step the first letter that leads to the level below. -/
theorem pick2_lev {a b : Aut} (g : Good2 a b) {k x y : Nat} (hx : x < a.next.length) (hy : y < b.next.length) (h : lev a b x y = ((k + 1 : Nat) : Int)) {c : Nat} (hc : (c : Int) < a.L) (hl : lev a b (step a x c) (step b y c) = (k : Int))
    (hmin : ∀ e, e < c → lev a b (step a x e) (step b y e) ≠ (k : Int)) : pick2 a b (k + 1) x y = (c : Int) :: pick2 a b k (step a x c) (step b y c) := by
  have hL := g.ga.l1
  obtain ⟨_, h2⟩ := (lev_eq g hx hy).1 h
  refine pick2_succ (least_is (by omega) ((lev_eq g (g.ga.step_lt hx hc) (g.gb.step_lt hy (by rw [← g.eL]; exact hc))).1 hl).1 fun e he => ?_)
  have heL : (e : Int) < a.L := by omega
  rcases q : ap2 a b k (step a x e) (step b y e) with _ | _
  · rfl
  · refine absurd ((lev_eq g (g.ga.step_lt hx heL) (g.gb.step_lt hy (by rw [← g.eL]; exact heL))).2 ⟨q, fun j hj => ?_⟩) (hmin e he)
    rcases q2 : ap2 a b j (step a x e) (step b y e) with _ | _
    · rfl
    · have : ap2 a b (j + 1) x y = true := List.any_eq_true.2 ⟨e, List.mem_range.2 (by omega), q2⟩
      rw [h2 (j + 1) (by omega)] at this; cases this
theorem diffW_lev {a b : Aut} {x y k : Nat} (h : lev a b x y = (k : Int)) : diffW a b x y = some (pick2 a b k x y) := by
  unfold lev at h
  unfold diffW
  rcases e : least (a.next.length + b.next.length) (fun k => ap2 a b k x y) with _ | m
  · rw [e] at h; have h : (-1 : Int) = (k : Int) := h; omega
  · rw [e] at h
    have h : ((m : Nat) : Int) = (k : Int) := h
    obtain rfl : m = k := by omega
    rfl
end Go.Proofs.YtbciefeipiphiaaDoor.Sm

namespace Go.Proofs.YtbciefeipiphiaaDoor.Sm
open Go.Proofs.YtbciefeipiphiaaDoor.Df Go.Proofs.YtbciefeipiphiaaDoor.Wo Go.Proofs.YtbciefeipiphiaaDoor.Rc

theorem autOf_trim {α : Type} [DecidableEq α] {L : Int} {S : α → List α} {a : α} {l : List α} {f : α → Bool} (hl : found S a = some l) (h1 : 1 ≤ L) (h6 : L ≤ 6) (hS : ∀ x ∈ l, ((S x).length : Int) = L) : trimA (autOf L S l f) = autOf L S l f := by
  have hw := found_whole hl
  have gm := autOf_good (f := f) hw h1 h6 hS
  have hn : (autOf L S l f).next.length = l.length := by unfold autOf; simp
  have hr : rset (autOf L S l f) 0 = List.range (autOf L S l f).next.length := by
    have h1 := expl_map (f := f) hw hS 41 0 [a] hl (fun x hx => by simp at hx; subst hx; exact List.mem_of_getElem? hw.hd)
    rw [List.map_singleton, idx_of hw.nd hw.hd, map_num hw.nd] at h1
    have h2 : found (S1 (autOf L S l f)) 0 = some (List.range l.length) := h1
    unfold rset
    rw [h2, hn]; rfl
  have h0 : (autOf L S l f).s = 0 := rfl
  generalize autOf L S l f = m at *
  have hs : m.s = 0 → trimA m = m := fun hs => by
    obtain ⟨h1, h2⟩ := good_form gm
    have hs' : m.s.toNat = 0 := by rw [hs]; rfl
    have e : trimA m = ⟨m.L, 0, (rset m 0).map (srow (S1 m) (rset m 0)), (rset m 0).map (finA m)⟩ := by
      show autOf m.L (S1 m) (rset m m.s.toNat) (finA m) = _
      rw [hs']; rfl
    have hsr : ∀ q, q < m.next.length → srow (S1 m) (List.range m.next.length) q = (S1 m q).map fun (t : Nat) => (t : Int) := fun q hq => by
      unfold srow
      exact List.map_congr_left fun t ht => by rw [num_range (S1_lt gm hq ht)]
    rw [e, hr]
    have e3 : (List.range m.next.length).map (srow (S1 m) (List.range m.next.length)) = m.next := by
      conv => rhs; rw [h1]
      exact List.map_congr_left fun q hq => hsr q (List.mem_range.1 hq)
    rw [e3, ← h2, ← hs]
  exact hs h0
/-- What is numbered as found and has no two alike is the smallest of its own. -/
theorem min_self {m : Aut} (g : Df.Good m) (ht : trimA m = m) (hd : ∀ i j, i < m.next.length → j < m.next.length → Alike m m i j → i = j) : minA m = m := by
  have hk : ∀ x, x < m.next.length → kin m m x = x := fun x hx => by
    obtain ⟨_, h2, h3⟩ := stand_spec g hx
    exact (hd x _ hx h2 h3).symm
  have hq : quo m = m := by
    obtain ⟨h1, _⟩ := good_form g
    have e1 : ((kin m m m.s.toNat : Nat) : Int) = m.s := by rw [hk _ g.s_lt]; exact g.s_eq
    have e2 : ((List.range m.next.length).map fun q => (S1 m q).map fun t => ((kin m m t : Nat) : Int)) = m.next := by
      conv => rhs; rw [h1]
      refine List.map_congr_left fun q hq => List.map_congr_left fun t ht => ?_
      rw [hk t (S1_lt g (List.mem_range.1 hq) ht)]
    unfold quo
    rw [e1, e2]
  unfold minA
  rw [hq, ht]
theorem min_of {d m : Aut} (g : Good2 d m) (ht : trimA m = m) (hd : ∀ i j, i < m.next.length → j < m.next.length → Alike m m i j → i = j) (h : ∀ w, Word d.L w → accA d w = accA m w) : m = minA d := by
  rw [← min_self g.gb ht hd]
  exact min_unique g h
/-- What is found, with no two alike, is the smallest. -/
theorem autOf_min {α : Type} [DecidableEq α] {L : Int} {S : α → List α} {a : α} {l : List α} {f : α → Bool} (hl : found S a = some l) (hS : ∀ x ∈ l, ((S x).length : Int) = L)
    (hd : ∀ x ∈ l, ∀ y ∈ l, (∀ w, Word L w → f (viaAll S x w) = f (viaAll S y w)) → x = y) {d : Aut} (g : Df.Good d) (e : d.L = L) (h : ∀ w, Word L w → accA d w = f (viaAll S a w)) : autOf L S l f = minA d := by
  have hw := found_whole hl
  have h1 : 1 ≤ L := by rw [← e]; exact g.l1
  have h6 : L ≤ 6 := by rw [← e]; exact g.l6
  have gm := autOf_good (f := f) hw h1 h6 hS
  have hn : (autOf L S l f).next.length = l.length := by unfold autOf; simp
  refine min_of ⟨g, gm, e⟩ (autOf_trim hl h1 h6 hS) (fun i j hi hj ha => ?_) fun w hwd => ?_
  · rw [hn] at hi hj
    have key : ∀ i (hi : i < l.length) w, Word L w → finA (autOf L S l f) (runA (autOf L S l f) i w) = f (viaAll S l[i] w) := fun i hi w hwd => by
      have hm := List.getElem_mem hi
      have hnum : num l l[i] = i := idx_of hw.nd (List.getElem?_eq_getElem hi)
      obtain ⟨p1, p2⟩ := autOf_run (f := f) hw hS hwd hm
      rw [hnum] at p2
      rw [p2]
      show ((l.map f)[num l (viaAll S l[i] w)]?).getD false = _
      rw [List.getElem?_map, idx_get p1]; rfl
    have := hd l[i] (List.getElem_mem hi) l[j] (List.getElem_mem hj) fun w hwd => by
      rw [← key i hi w hwd, ← key j hj w hwd]
      exact ha w hwd
    exact (List.getElem_inj hw.nd).1 this
  · rw [h w (by rw [← e]; exact hwd), autOf_acc hw hS (by rw [← e]; exact hwd)]
end Go.Proofs.YtbciefeipiphiaaDoor.Sm

namespace Go.Proofs.YtbciefeipiphiaaDoor.Nf
open Go.Proofs.YtbciefeipiphiaaDoor.Df Go.Proofs.YtbciefeipiphiaaDoor.Wo Go.Proofs.YtbciefeipiphiaaDoor.Rc Go.Proofs.YtbciefeipiphiaaDoor.Sm

structure Nfa where
  L : Int
  n : Int
  st : List Int
  mv : List (Int × Int × Int)
  fin : List Int
def isQ (a : Nfa) (x : Int) : Prop := 0 ≤ x ∧ x < a.n
instance (a : Nfa) (x : Int) : Decidable (isQ a x) := inferInstanceAs (Decidable (0 ≤ x ∧ x < a.n))
def isMv (a : Nfa) (m : Int × Int × Int) : Prop := isQ a m.1 ∧ isQ a m.2.2 ∧ -1 ≤ m.2.1 ∧ m.2.1 < a.L
instance (a : Nfa) (m : Int × Int × Int) : Decidable (isMv a m) := inferInstanceAs (Decidable (isQ a m.1 ∧ isQ a m.2.2 ∧ -1 ≤ m.2.1 ∧ m.2.1 < a.L))
/-- What is wrong. -/
def nchk (a : Nfa) : Nat :=
  if (a.L < 1 ∨ 6 < a.L) ∨ (a.n < 1 ∨ 40 < a.n) then 1 else if (40 < a.st.length ∨ 40 < a.fin.length) ∨ 240 < a.mv.length then 4
  else if (∀ x ∈ a.st, isQ a x) ∧ (∀ x ∈ a.fin, isQ a x) ∧ ∀ m ∈ a.mv, isMv a m then 0 else 1
structure Good (a : Nfa) : Prop where
  l1 : 1 ≤ a.L
  l6 : a.L ≤ 6
  n1 : 1 ≤ a.n
  n40 : a.n ≤ 40
  s40 : a.st.length ≤ 40
  f40 : a.fin.length ≤ 40
  m240 : a.mv.length ≤ 240
  st : ∀ x ∈ a.st, isQ a x
  fin : ∀ x ∈ a.fin, isQ a x
  mv : ∀ m ∈ a.mv, isMv a m
theorem nchk_iff {a : Nfa} : nchk a = 0 ↔ Good a := by
  unfold nchk
  constructor
  · intro h
    split at h
    · cases h
    · rename_i h1
      split at h
      · cases h
      · rename_i h2
        split at h
        · rename_i h3
          exact ⟨by omega, by omega, by omega, by omega, by omega, by omega, by omega, h3.1, h3.2.1, h3.2.2⟩
        · cases h
  · intro g
    have := g.l1; have := g.l6; have := g.n1; have := g.n40; have := g.s40; have := g.f40; have := g.m240
    rw [if_neg (by omega), if_neg (by omega), if_pos ⟨g.st, g.fin, g.mv⟩]

/-! ### ways -/
/-- Reading a word can lead from s there. -/
inductive Way (a : Nfa) (s : Nat) : List Int → Nat → Prop
  | nil : Way a s [] s
  | eps {w : List Int} {t u : Nat} : Way a s w t → ((t : Int), -1, (u : Int)) ∈ a.mv → Way a s w u
  | one {w : List Int} {t u : Nat} {c : Int} : Way a s w t → ((t : Int), c, (u : Int)) ∈ a.mv → 0 ≤ c → Way a s (w ++ [c]) u
theorem Way.eps_head {a : Nfa} {s u t : Nat} {w : List Int} (hm : ((s : Int), -1, (u : Int)) ∈ a.mv) (h : Way a u w t) : Way a s w t := by
  induction h with
  | nil => exact .eps .nil hm
  | eps _ h2 ih => exact .eps ih h2
  | one _ h2 h3 ih => exact .one ih h2 h3
theorem Way.one_head {a : Nfa} {s u t : Nat} {c : Int} {w : List Int} (hm : ((s : Int), c, (u : Int)) ∈ a.mv) (hc : 0 ≤ c) (h : Way a u w t) : Way a s (c :: w) t := by
  induction h with
  | nil => exact .one (w := []) .nil hm hc
  | eps _ h2 ih => exact .eps ih h2
  | one _ h2 h3 ih => exact .one (w := c :: _) ih h2 h3
theorem Way.snoc {a : Nfa} {s t : Nat} {v : List Int} (h : Way a s v t) : ∀ {w : List Int} {c : Int}, v = w ++ [c] → ∃ u z : Nat, Way a s w u ∧ ((u : Int), c, (z : Int)) ∈ a.mv ∧ 0 ≤ c ∧ Way a z [] t := by
  induction h with
  | nil => intro w c e; simp at e
  | eps _ h2 ih =>
    intro w c e
    obtain ⟨u, z, p1, p2, p3, p4⟩ := ih e
    exact ⟨u, z, p1, p2, p3, .eps p4 h2⟩
  | one h1 h2 h3 _ =>
    intro w c e
    obtain ⟨e1, e2⟩ := List.append_inj' e rfl
    obtain rfl := e1
    obtain rfl : _ = c := by simpa using e2
    exact ⟨_, _, h1, h2, h3, .nil⟩
theorem Way.then_eps {a : Nfa} {s u t : Nat} {w v : List Int} (h : Way a s w u) (h2 : Way a u v t) : Way a s (w ++ v) t := by
  induction h2 with
  | nil => rw [List.append_nil]; exact h
  | eps _ h2 ih => exact .eps ih h2
  | one _ h2 h3 ih => rw [← List.append_assoc]; exact .one ih h2 h3

/-! ### sets of states -/
def epsS (a : Nfa) (q : Nat) : List Nat := (a.mv.filter fun m => decide (m.1 = (q : Int)) && decide (m.2.1 = -1)).map fun m => m.2.2.toNat
theorem mem_epsS {a : Nfa} (g : Good a) {q u : Nat} : u ∈ epsS a q ↔ ((q : Int), -1, (u : Int)) ∈ a.mv := by
  unfold epsS
  rw [List.mem_map]
  constructor
  · rintro ⟨⟨x, c, y⟩, hm, e⟩
    obtain ⟨h1, h2⟩ := List.mem_filter.1 hm
    have h3 := (g.mv _ h1).2.1.1
    simp only [Bool.and_eq_true, decide_eq_true_eq] at h2 h3 e
    obtain ⟨rfl, rfl⟩ := h2
    have : (u : Int) = y := by omega
    rw [this]; exact h1
  · intro h
    exact ⟨_, List.mem_filter.2 ⟨h, by simp⟩, by simp⟩
theorem eps_lt {a : Nfa} (g : Good a) {q u : Nat} (h : u ∈ epsS a q) : u < a.n.toNat := by
  have := (g.mv _ ((mem_epsS g).1 h)).2.1
  have h1 := this.1; have h2 := this.2
  simp only at h1 h2
  omega
theorem rchE_lt {a : Nfa} (g : Good a) {s t : Nat} (hs : s < a.n.toNat) (h : Rch (epsS a) s t) : t < a.n.toNat := by
  cases h with
  | base => exact hs
  | next _ ht => exact eps_lt g ht
theorem foundE {a : Nfa} (g : Good a) {s : Nat} (hs : s < a.n.toNat) : ∃ l, found (epsS a) s = some l := by
  rcases found_cases (epsS a) s with ⟨m, h, _⟩ | ⟨_, m, h1, h2, h3⟩
  · exact ⟨m, h⟩
  · have := nodup_le_of h1 id (fun x _ y _ e => e) (fun x hx => rchE_lt g hs (h3 x hx))
    have := g.n40
    omega
def eset (a : Nfa) (s : Nat) : List Nat := (found (epsS a) s).getD []
theorem mem_eset {a : Nfa} (g : Good a) {s t : Nat} (hs : s < a.n.toNat) : t ∈ eset a s ↔ Rch (epsS a) s t := by
  obtain ⟨l, hl⟩ := foundE g hs
  unfold eset
  rw [hl]
  exact (found_whole hl).mem_iff
theorem way_eps {a : Nfa} (g : Good a) {s t : Nat} : Way a s [] t ↔ Rch (epsS a) s t := by
  constructor
  · have key : ∀ {w t}, Way a s w t → w = [] → Rch (epsS a) s t := by
      intro w t h
      induction h with
      | nil => intro _; exact .base
      | eps _ h2 ih => intro e; exact .next (ih e) ((mem_epsS g).2 h2)
      | one _ _ _ => intro e; simp at e
    intro h
    exact key h rfl
  · intro h
    induction h with
    | base => exact .nil
    | next _ ht ih => exact .eps ih ((mem_epsS g).1 ht)
/-- A set, in the order of its states. -/
def setQ (a : Nfa) (p : Nat → Bool) : List Nat := (List.range a.n.toNat).filter p
theorem mem_setQ {a : Nfa} {p : Nat → Bool} {t : Nat} : t ∈ setQ a p ↔ t < a.n.toNat ∧ p t = true := by
  unfold setQ; rw [List.mem_filter, List.mem_range]
theorem setQ_ext {a : Nfa} {p q : Nat → Bool} (h : ∀ t, t < a.n.toNat → (p t = true ↔ q t = true)) : setQ a p = setQ a q := by
  refine List.filter_congr fun t ht => ?_
  exact Bool.eq_iff_iff.2 (h t (List.mem_range.1 ht))
def clo (a : Nfa) (X : List Nat) : List Nat := setQ a fun t => X.any fun s => decide (t ∈ eset a s)
theorem mem_clo {a : Nfa} (g : Good a) {X : List Nat} (hX : ∀ s ∈ X, s < a.n.toNat) {t : Nat} : t ∈ clo a X ↔ ∃ s ∈ X, Way a s [] t := by
  unfold clo
  rw [mem_setQ, List.any_eq_true]
  constructor
  · rintro ⟨_, s, hs, h⟩
    exact ⟨s, hs, (way_eps g).2 ((mem_eset g (hX s hs)).1 (of_decide_eq_true h))⟩
  · rintro ⟨s, hs, h⟩
    have h' := (way_eps g).1 h
    exact ⟨rchE_lt g (hX s hs) h', s, hs, decide_eq_true ((mem_eset g (hX s hs)).2 h')⟩
def to (a : Nfa) (X : List Nat) (c : Int) : List Nat := (a.mv.filter fun m => decide (m.2.1 = c) && decide (m.1.toNat ∈ X)).map fun m => m.2.2.toNat
theorem mem_to {a : Nfa} (g : Good a) {X : List Nat} {c : Int} {t : Nat} : t ∈ to a X c ↔ ∃ s ∈ X, ((s : Int), c, (t : Int)) ∈ a.mv := by
  unfold to
  rw [List.mem_map]
  constructor
  · rintro ⟨⟨x, d, y⟩, hm, e⟩
    obtain ⟨h1, h2⟩ := List.mem_filter.1 hm
    have h3 := (g.mv _ h1).2.1.1
    have h4 := (g.mv _ h1).1.1
    simp only [Bool.and_eq_true, decide_eq_true_eq] at h2 h3 h4 e
    obtain ⟨rfl, h5⟩ := h2
    have e1 : (t : Int) = y := by omega
    have e2 : ((x.toNat : Nat) : Int) = x := by omega
    exact ⟨x.toNat, h5, by rw [e1, e2]; exact h1⟩
  · rintro ⟨s, hs, h⟩
    exact ⟨_, List.mem_filter.2 ⟨h, by simpa using hs⟩, by simp⟩
theorem to_lt {a : Nfa} (g : Good a) {X : List Nat} {c : Int} {t : Nat} (h : t ∈ to a X c) : t < a.n.toNat := by
  obtain ⟨s, _, h⟩ := (mem_to g).1 h
  have := (g.mv _ h).2.1
  have h1 := this.1; have h2 := this.2
  simp only at h1 h2
  omega
def goN (a : Nfa) (X : List Nat) (c : Int) : List Nat := clo a (to a X c)
def beg (a : Nfa) : List Nat := clo a (a.st.map Int.toNat)
def runN (a : Nfa) (X : List Nat) (w : List Int) : List Nat := w.foldl (goN a) X
def finN (a : Nfa) (X : List Nat) : Bool := X.any fun t => decide ((t : Int) ∈ a.fin)
def accN (a : Nfa) (w : List Int) : Bool := finN a (runN a (beg a) w)
theorem st_lt {a : Nfa} (g : Good a) {s : Nat} (h : s ∈ a.st.map Int.toNat) : s < a.n.toNat := by
  obtain ⟨x, hx, rfl⟩ := List.mem_map.1 h
  have := g.st x hx
  have h1 := this.1; have h2 := this.2
  omega
theorem mem_st {a : Nfa} (g : Good a) {s : Nat} : s ∈ a.st.map Int.toNat ↔ (s : Int) ∈ a.st := by
  rw [List.mem_map]
  constructor
  · rintro ⟨x, hx, rfl⟩
    have := (g.st x hx).1
    rw [Int.toNat_of_nonneg this]; exact hx
  · intro h; exact ⟨_, h, by simp⟩
/-- The state that is reached by a word in many ways: all at once. -/
theorem mem_run {a : Nfa} (g : Good a) {w : List Int} (hw : ∀ c ∈ w, 0 ≤ c) : ∀ {t : Nat}, t ∈ runN a (beg a) w ↔ ∃ s : Nat, (s : Int) ∈ a.st ∧ Way a s w t := by
  have key : ∀ (n : Nat) (w : List Int), w.length = n → (∀ c ∈ w, 0 ≤ c) → ∀ {t : Nat}, t ∈ runN a (beg a) w ↔ ∃ s : Nat, (s : Int) ∈ a.st ∧ Way a s w t := by
    intro n
    induction n with
    | zero =>
      intro w hl _ t
      obtain rfl := List.eq_nil_of_length_eq_zero hl
      show t ∈ clo a (a.st.map Int.toNat) ↔ _
      rw [mem_clo g fun s hs => st_lt g hs]
      constructor
      · rintro ⟨s, hs, h⟩; exact ⟨s, (mem_st g).1 hs, h⟩
      · rintro ⟨s, hs, h⟩; exact ⟨s, (mem_st g).2 hs, h⟩
    | succ n ih =>
      intro w hl hw t
      have hne : w ≠ [] := fun e => by rw [e] at hl; simp at hl
      obtain ⟨v, c, rfl⟩ : ∃ v c, w = v ++ [c] := ⟨w.dropLast, w.getLast hne, (List.dropLast_concat_getLast hne).symm⟩
      have hl' : v.length = n := by simpa using hl
      have hv : ∀ c ∈ v, 0 ≤ c := fun e he => hw e (List.mem_append_left _ he)
      have hc : 0 ≤ c := hw c (by simp)
      have e : runN a (beg a) (v ++ [c]) = goN a (runN a (beg a) v) c := by unfold runN; rw [List.foldl_append]; rfl
      rw [e]
      unfold goN
      rw [mem_clo g fun s hs => to_lt g hs]
      constructor
      · rintro ⟨z, hz, h⟩
        obtain ⟨u, hu, hm⟩ := (mem_to g).1 hz
        obtain ⟨s, hs, h2⟩ := (ih v hl' hv).1 hu
        refine ⟨s, hs, ?_⟩
        have := (Way.one h2 hm hc).then_eps h
        rwa [List.append_nil] at this
      · rintro ⟨s, hs, h⟩
        obtain ⟨u, z, p1, p2, _, p4⟩ := h.snoc rfl
        exact ⟨z, (mem_to g).2 ⟨u, (ih v hl' hv).2 ⟨s, hs, p1⟩, p2⟩, p4⟩
  intro t
  exact key w.length w rfl hw
theorem accN_iff {a : Nfa} (g : Good a) {w : List Int} (hw : ∀ c ∈ w, 0 ≤ c) : accN a w = true ↔ ∃ s t : Nat, (s : Int) ∈ a.st ∧ Way a s w t ∧ (t : Int) ∈ a.fin := by
  unfold accN finN
  rw [List.any_eq_true]
  constructor
  · rintro ⟨t, ht, h⟩
    obtain ⟨s, hs, h2⟩ := (mem_run g hw).1 ht
    exact ⟨s, t, hs, h2, of_decide_eq_true h⟩
  · rintro ⟨s, t, hs, h, ht⟩
    exact ⟨t, (mem_run g hw).2 ⟨s, hs, h⟩, decide_eq_true ht⟩

/-! ### one state at a time -/
def T (a : Nfa) (X : List Nat) : List (List Nat) := (List.range a.L.toNat).map fun (c : Nat) => goN a X (c : Int)
theorem T_len {a : Nfa} (g : Good a) (X : List Nat) : ((T a X).length : Int) = a.L := by
  have := g.l1
  unfold T
  rw [List.length_map, List.length_range]; omega
def makeA (a : Nfa) (l : List (List Nat)) : Aut := autOf a.L (T a) l (finN a)
theorem viaN {a : Nfa} {w : List Int} (hw : Word a.L w) (X : List Nat) : viaAll (T a) X w = runN a X w := by
  induction w generalizing X with
  | nil => rfl
  | cons c w ih =>
    have hc := hw c List.mem_cons_self
    show viaAll _ (via _ _ _) w = runN a (goN a X c) w
    have e : via (T a) X c.toNat = goN a X c := by
      unfold via T
      rw [List.getElem?_map, List.getElem?_range (by omega)]
      show goN a X ((c.toNat : Nat) : Int) = _
      rw [Int.toNat_of_nonneg hc.1]
    rw [e, ih fun d hd => hw d (List.mem_cons_of_mem _ hd)]
theorem make_good {a : Nfa} (g : Good a) {l : List (List Nat)} (hl : found (T a) (beg a) = some l) : Df.Good (makeA a l) := autOf_good (found_whole hl) g.l1 g.l6 fun x _ => T_len g x
/-- Rabin, Scott. -/
theorem make_acc {a : Nfa} (g : Good a) {l : List (List Nat)} (hl : found (T a) (beg a) = some l) {w : List Int} (hw : Word a.L w) : accA (makeA a l) w = accN a w := by
  unfold makeA
  rw [autOf_acc (found_whole hl) (fun x _ => T_len g x) hw, viaN hw]; rfl
end Go.Proofs.YtbciefeipiphiaaDoor.Nf

namespace Go.Proofs.YtbciefeipiphiaaDoor.Nf
open Go.Proofs.YtbciefeipiphiaaDoor.Df Go.Proofs.YtbciefeipiphiaaDoor.Wo Go.Proofs.YtbciefeipiphiaaDoor.Rc Go.Proofs.YtbciefeipiphiaaDoor.Sm

/-! ### mirrors -/
def turn (m : Int × Int × Int) : Int × Int × Int := (m.2.2, m.2.1, m.1)
def mir (a : Nfa) : Nfa := ⟨a.L, a.n, a.fin, a.mv.map turn, a.st⟩
theorem mir_mir (a : Nfa) : mir (mir a) = a := by
  unfold mir
  simp only [List.map_map]
  have : a.mv.map (turn ∘ turn) = a.mv := by
    conv => rhs; rw [← List.map_id a.mv]
    rfl
  rw [this]
theorem mem_mir {a : Nfa} {x c y : Int} : (x, c, y) ∈ (mir a).mv ↔ (y, c, x) ∈ a.mv := by
  show (x, c, y) ∈ a.mv.map turn ↔ _
  rw [List.mem_map]
  constructor
  · rintro ⟨⟨p, q, r⟩, hm, e⟩
    have e : (r, q, p) = (x, c, y) := e
    obtain ⟨rfl, e2⟩ := Prod.mk.inj e
    obtain ⟨rfl, rfl⟩ := Prod.mk.inj e2
    exact hm
  · intro h; exact ⟨_, h, rfl⟩
theorem mir_good {a : Nfa} (g : Good a) : Good (mir a) := by
  refine ⟨g.l1, g.l6, g.n1, g.n40, g.f40, g.s40, by show (a.mv.map turn).length ≤ 240; rw [List.length_map]; exact g.m240, g.fin, g.st, fun m hm => ?_⟩
  obtain ⟨m', hm', rfl⟩ := List.mem_map.1 hm
  obtain ⟨h1, h2, h3, h4⟩ := g.mv m' hm'
  exact ⟨h2, h1, h3, h4⟩
theorem way_mir1 {a : Nfa} {s t : Nat} {w : List Int} (h : Way a s w t) : Way (mir a) t w.reverse s := by
  induction h with
  | nil => exact .nil
  | eps _ h2 ih => exact Way.eps_head (mem_mir.2 h2) ih
  | one _ h2 h3 ih =>
    rw [List.reverse_append]
    exact Way.one_head (mem_mir.2 h2) h3 ih
theorem way_mir {a : Nfa} {s t : Nat} {w : List Int} : Way (mir a) t w.reverse s ↔ Way a s w t := by
  constructor
  · intro h
    have := way_mir1 h
    rwa [mir_mir, List.reverse_reverse] at this
  · exact way_mir1
theorem mir_acc {a : Nfa} (g : Good a) {w : List Int} (hw : ∀ c ∈ w, 0 ≤ c) : accN (mir a) w.reverse = accN a w := by
  refine Bool.eq_iff_iff.2 ?_
  rw [accN_iff (mir_good g) fun c hc => hw c (List.mem_reverse.1 hc), accN_iff g hw]
  constructor
  · rintro ⟨s, t, hs, h, ht⟩
    exact ⟨t, s, ht, way_mir.1 h, hs⟩
  · rintro ⟨s, t, hs, h, ht⟩
    exact ⟨t, s, ht, way_mir.2 h, hs⟩

/-! ### a deterministic one -/
def ofA (d : Aut) : Nfa := ⟨d.L, (d.next.length : Int), [d.s], (List.range d.next.length).flatMap fun (q : Nat) => (List.range d.L.toNat).map fun (c : Nat) => ((q : Int), (c : Int), ((step d q c : Nat) : Int)),
  ((List.range d.next.length).filter (finA d)).map fun (q : Nat) => (q : Int)⟩
theorem mem_of {d : Aut} {x c y : Int} : (x, c, y) ∈ (ofA d).mv ↔ ∃ q k : Nat, q < d.next.length ∧ (k : Int) < d.L ∧ x = q ∧ c = k ∧ y = (step d q k : Nat) := by
  show (x, c, y) ∈ (List.range d.next.length).flatMap _ ↔ _
  rw [List.mem_flatMap]
  constructor
  · rintro ⟨q, hq, h⟩
    obtain ⟨k, hk, e⟩ := List.mem_map.1 h
    obtain ⟨rfl, e2⟩ := Prod.mk.inj e
    obtain ⟨rfl, rfl⟩ := Prod.mk.inj e2
    have := List.mem_range.1 hk
    exact ⟨q, k, List.mem_range.1 hq, by omega, rfl, rfl, rfl⟩
  · rintro ⟨q, k, hq, hk, rfl, rfl, rfl⟩
    exact ⟨q, List.mem_range.2 hq, List.mem_map.2 ⟨k, List.mem_range.2 (by omega), rfl⟩⟩
theorem of_moves (d : Aut) : (ofA d).mv.length = d.next.length * d.L.toNat := by
  show ((List.range d.next.length).flatMap _).length = _
  generalize d.next.length = n
  induction n with
  | zero => simp
  | succ n ih =>
    rw [List.range_succ, List.flatMap_append, List.length_append, ih, Nat.succ_mul]
    simp
theorem mem_fin {d : Aut} {t : Nat} : (t : Int) ∈ (ofA d).fin ↔ t < d.next.length ∧ finA d t = true := by
  show (t : Int) ∈ ((List.range d.next.length).filter (finA d)).map _ ↔ _
  rw [List.mem_map]
  constructor
  · rintro ⟨q, hq, e⟩
    obtain rfl : q = t := by omega
    obtain ⟨h1, h2⟩ := List.mem_filter.1 hq
    exact ⟨List.mem_range.1 h1, h2⟩
  · rintro ⟨h1, h2⟩
    exact ⟨t, List.mem_filter.2 ⟨List.mem_range.2 h1, h2⟩, rfl⟩
theorem of_good {d : Aut} (g : Df.Good d) : Good (ofA d) := by
  have h1 := g.n1; have h2 := g.n40; have h3 := g.l6; have h4 := g.l1
  refine ⟨g.l1, g.l6, ?_, ?_, ?_, ?_, ?_, ?_, ?_, ?_⟩
  · show (1 : Int) ≤ (d.next.length : Int); omega
  · show (d.next.length : Int) ≤ 40; omega
  · show [d.s].length ≤ 40; simp
  · show (((List.range d.next.length).filter (finA d)).map fun (q : Nat) => (q : Int)).length ≤ 40
    have := List.length_filter_le (finA d) (List.range d.next.length)
    rw [List.length_range] at this
    rw [List.length_map]; omega
  · rw [of_moves]
    have : d.next.length * d.L.toNat ≤ 40 * 6 := Nat.mul_le_mul h2 (by omega)
    omega
  · intro x hx
    have : x = d.s := by simpa [ofA] using hx
    rw [this]; exact g.st
  · intro x hx
    obtain ⟨q, hq, rfl⟩ := List.mem_map.1 hx
    have := List.mem_range.1 (List.mem_filter.1 hq).1
    exact ⟨by omega, by show (q : Int) < (d.next.length : Int); omega⟩
  · rintro ⟨x, c, y⟩ hm
    obtain ⟨q, k, hq, hk, rfl, rfl, rfl⟩ := mem_of.1 hm
    have := g.step_lt hq hk
    refine ⟨⟨?_, ?_⟩, ⟨?_, ?_⟩, ?_, ?_⟩
    · show (0 : Int) ≤ (q : Int); omega
    · show (q : Int) < (d.next.length : Int); omega
    · show (0 : Int) ≤ ((step d q k : Nat) : Int); omega
    · show ((step d q k : Nat) : Int) < (d.next.length : Int); omega
    · show (-1 : Int) ≤ (k : Int); omega
    · exact hk
theorem of_way1 {d : Aut} {s t : Nat} {w : List Int} (h : Way (ofA d) s w t) : Word d.L w ∧ t = runA d s w := by
  induction h with
  | nil => exact ⟨by intro a ha; simp at ha, rfl⟩
  | eps _ h2 _ =>
    obtain ⟨q, k, _, _, _, e, _⟩ := mem_of.1 h2
    omega
  | one _ h2 _ ih =>
    obtain ⟨q, k, hq, hk, e1, rfl, e3⟩ := mem_of.1 h2
    obtain ⟨i1, i2⟩ := ih
    refine ⟨fun a ha => ?_, ?_⟩
    · rcases List.mem_append.1 ha with ha | ha
      · exact i1 a ha
      · simp at ha; subst ha; exact ⟨by omega, hk⟩
    · rw [runA_append, ← i2]
      show _ = step d _ ((k : Int)).toNat
      have e4 : ((k : Int)).toNat = k := by simp
      rw [e4]
      rename_i t' u' _ _
      have : q = t' := by omega
      subst this
      omega
theorem of_way {d : Aut} (g : Df.Good d) {s t : Nat} (hs : s < d.next.length) {w : List Int} : Way (ofA d) s w t ↔ Word d.L w ∧ t = runA d s w := by
  refine ⟨of_way1, ?_⟩
  rintro ⟨hw, rfl⟩
  induction w generalizing s with
  | nil => exact .nil
  | cons c w ih =>
    have hc := hw c List.mem_cons_self
    have hcc : ((c.toNat : Nat) : Int) = c := Int.toNat_of_nonneg hc.1
    have hk : ((c.toNat : Nat) : Int) < d.L := by rw [hcc]; exact hc.2
    exact Way.one_head (u := step d s c.toNat) (mem_of.2 ⟨s, c.toNat, hs, hk, rfl, hcc.symm, rfl⟩) hc.1 (ih (g.step_lt hs hk) fun e he => hw e (List.mem_cons_of_mem _ he))
theorem nn {L : Int} {w : List Int} (hw : Word L w) : ∀ c ∈ w, 0 ≤ c := fun c hc => (hw c hc).1
theorem of_acc {d : Aut} (g : Df.Good d) {w : List Int} (hw : Word d.L w) : accN (ofA d) w = accA d w := by
  refine Bool.eq_iff_iff.2 ?_
  rw [accN_iff (of_good g) (nn hw)]
  constructor
  · rintro ⟨s, t, hs, h, ht⟩
    have e : (s : Int) = d.s := by simpa [ofA] using hs
    have e2 : s = d.s.toNat := by omega
    obtain ⟨_, rfl⟩ := of_way1 h
    rw [e2] at ht
    exact (mem_fin.1 ht).2
  · intro h
    refine ⟨d.s.toNat, runA d d.s.toNat w, ?_, (of_way g g.s_lt).2 ⟨hw, rfl⟩, mem_fin.2 ⟨g.run_lt hw g.s_lt, h⟩⟩
    rw [g.s_eq]; simp [ofA]

/-! ### one by one it is as trimmed -/
theorem setQ_one {a : Nfa} {q : Nat} (h : q < a.n.toNat) : setQ a (fun t => decide (t = q)) = [q] := by
  unfold setQ
  generalize a.n.toNat = n at h
  induction n with
  | zero => omega
  | succ n ih =>
    rw [List.range_succ, List.filter_append]
    rcases Nat.lt_or_eq_of_le (Nat.le_of_lt_succ h) with h1 | rfl
    · rw [ih h1]
      have : decide (n = q) = false := decide_eq_false (by omega)
      simp [this]
    · have : (List.range q).filter (fun t => decide (t = q)) = [] := List.filter_eq_nil_iff.2 fun t ht => by
        have := List.mem_range.1 ht
        simp; omega
      rw [this]; simp
theorem clo_set (a : Nfa) (X : List Nat) : clo a X = setQ a fun t => decide (t ∈ clo a X) := by
  have : ∀ t, t ∈ clo a X ↔ t < a.n.toNat ∧ t ∈ clo a X := fun t => ⟨fun h => ⟨(mem_setQ.1 h).1, h⟩, fun h => h.2⟩
  conv => lhs; unfold clo
  refine setQ_ext fun t ht => ?_
  rw [decide_eq_true_iff]
  unfold clo
  rw [mem_setQ]
  exact ⟨fun h => ⟨ht, h⟩, fun h => h.2⟩
/-- Two sets that hold the same are the same. -/
theorem clo_ext {a : Nfa} {X Y : List Nat} (h : ∀ t, t < a.n.toNat → (t ∈ clo a X ↔ t ∈ clo a Y)) : clo a X = clo a Y := by
  rw [clo_set a X, clo_set a Y]
  exact setQ_ext fun t ht => by rw [decide_eq_true_iff, decide_eq_true_iff]; exact h t ht
theorem clo_one {a : Nfa} {X : List Nat} {q : Nat} (hq : q < a.n.toNat) (h : ∀ t, t < a.n.toNat → (t ∈ clo a X ↔ t = q)) : clo a X = [q] := by
  rw [clo_set a X, ← setQ_one hq]
  exact setQ_ext fun t ht => by rw [decide_eq_true_iff, decide_eq_true_iff]; exact h t ht
theorem of_n (d : Aut) : (ofA d).n.toNat = d.next.length := by show ((d.next.length : Nat) : Int).toNat = _; simp
theorem of_beg {d : Aut} (g : Df.Good d) : beg (ofA d) = [d.s.toNat] := by
  have go := of_good g
  have hs := g.s_lt
  unfold beg
  refine clo_one (by rw [of_n]; exact hs) fun t _ => ?_
  rw [mem_clo go fun s hs => st_lt go hs]
  constructor
  · rintro ⟨s, hs, h⟩
    have e : s = d.s.toNat := by simpa [ofA] using hs
    obtain ⟨_, e2⟩ := of_way1 h
    rw [e2, e]; rfl
  · rintro rfl
    exact ⟨_, by simp [ofA], .nil⟩
theorem of_go {d : Aut} (g : Df.Good d) {q c : Nat} (hq : q < d.next.length) (hc : (c : Int) < d.L) : goN (ofA d) [q] (c : Int) = [step d q c] := by
  have go := of_good g
  unfold goN
  refine clo_one (by rw [of_n]; exact g.step_lt hq hc) fun t _ => ?_
  rw [mem_clo go fun s hs => to_lt go hs]
  constructor
  · rintro ⟨s, hs, h⟩
    obtain ⟨u, hu, hm⟩ := (mem_to go).1 hs
    obtain ⟨q', k, _, _, e1, e2, e3⟩ := mem_of.1 hm
    obtain ⟨_, e4⟩ := of_way1 h
    have e5 : u = q := by simpa using hu
    have e6 : q' = q := by omega
    have e7 : k = c := by omega
    subst e6 e7
    rw [e4]
    show s = _
    omega
  · rintro rfl
    exact ⟨_, (mem_to go).2 ⟨q, by simp, mem_of.2 ⟨q, c, hq, hc, rfl, rfl, rfl⟩⟩, .nil⟩
/-- Made one state at a time again, an automaton is trimmed. -/
theorem make_of {d : Aut} (g : Df.Good d) : ∃ l, found (T (ofA d)) (beg (ofA d)) = some l ∧ makeA (ofA d) l = trimA d := by
  have hw := rset_whole g g.s_lt
  obtain ⟨l, hl⟩ := found1 g g.s_lt
  have hr : rset d d.s.toNat = l := by unfold rset; rw [hl]; rfl
  rw [hr] at hw
  have hlt : ∀ x ∈ l, x < d.next.length := fun x hx => rset_lt g g.s_lt (by rw [hr]; exact hx)
  have hi : ∀ x ∈ l, ∀ y ∈ l, (fun q : Nat => [q]) x = (fun q : Nat => [q]) y → x = y := fun x _ y _ e => by simpa using e
  have hT : ∀ x ∈ l, T (ofA d) ((fun q : Nat => [q]) x) = (S1 d x).map fun q => [q] := fun x hx => by
    unfold T S1
    rw [List.map_map]
    refine List.map_congr_left fun c hc => ?_
    have h1 := g.l1
    have hc' : c < d.L.toNat := List.mem_range.1 hc
    exact of_go g (hlt x hx) (by omega)
  have h1 := expl_as hw.closed hi hT 41 0 [d.s.toNat] hl (fun x hx => by simp at hx; subst hx; exact List.mem_of_getElem? hw.hd)
  have h2 : found (T (ofA d)) (beg (ofA d)) = some (l.map fun q => [q]) := by rw [of_beg g]; exact h1
  refine ⟨_, h2, ?_⟩
  unfold makeA trimA
  rw [hr]
  unfold autOf
  rw [List.map_map, List.map_map]
  congr 1
  · refine List.map_congr_left fun x hx => ?_
    show srow (T (ofA d)) (l.map fun q => [q]) [x] = srow (S1 d) l x
    unfold srow
    rw [show T (ofA d) [x] = (S1 d x).map fun q => [q] from hT x hx, List.map_map]
    refine List.map_congr_left fun t ht => ?_
    show ((num (l.map fun q => [q]) [t] : Nat) : Int) = _
    rw [num_map (φ := fun q : Nat => [q]) hi (hw.closed x hx t ht)]
  · refine List.map_congr_left fun x hx => ?_
    show finN (ofA d) [x] = finA d x
    refine Bool.eq_iff_iff.2 ?_
    unfold finN
    rw [List.any_eq_true]
    constructor
    · rintro ⟨t, ht, h⟩
      obtain rfl : t = x := by simpa using ht
      exact (mem_fin.1 (of_decide_eq_true h)).2
    · intro h
      exact ⟨x, by simp, decide_eq_true (mem_fin.2 ⟨hlt x hx, h⟩)⟩

/-! ### Brzozowski -/
theorem mir_of_acc {x : Aut} (gx : Df.Good x) {w : List Int} (hw : Word x.L w) : accN (mir (ofA x)) w = accA x w.reverse := by
  have go := of_good gx
  have hw' : Word x.L w.reverse := fun c hc => hw c (List.mem_reverse.1 hc)
  have := mir_acc go (nn hw')
  rw [List.reverse_reverse] at this
  rw [this, of_acc gx hw']
/-- The states of a set, by what a word leads to. -/
theorem mir_set {x : Aut} (gx : Df.Good x) {u : List Int} (hu : Word x.L u) {i : Nat} (hi : i < x.next.length) : i ∈ runN (mir (ofA x)) (beg (mir (ofA x))) u ↔ finA x (runA x i u.reverse) = true := by
  have go := of_good gx
  have gm := mir_good go
  have hu' : Word x.L u.reverse := fun c hc => hu c (List.mem_reverse.1 hc)
  rw [mem_run gm (nn hu)]
  constructor
  · rintro ⟨s, hs, hway⟩
    have h2 : Way (mir (ofA x)) s (u.reverse).reverse i := by rw [List.reverse_reverse]; exact hway
    obtain ⟨_, e⟩ := of_way1 (way_mir.1 h2)
    have hs' : (s : Int) ∈ (ofA x).fin := hs
    rw [← e]; exact (mem_fin.1 hs').2
  · intro hf
    refine ⟨runA x i u.reverse, mem_fin.2 ⟨gx.run_lt hu' hi, hf⟩, ?_⟩
    have h2 := way_mir.2 ((of_way gx hi).2 ⟨hu', rfl⟩)
    rw [List.reverse_reverse] at h2
    exact h2
theorem rch_run {a : Nfa} (g : Good a) {X : List Nat} (h : Rch (T a) (beg a) X) : ∃ u, Word a.L u ∧ X = runN a (beg a) u ∧ ∃ Z, X = clo a Z := by
  induction h with
  | base => exact ⟨[], by intro a ha; simp at ha, rfl, _, rfl⟩
  | next _ ht ih =>
    obtain ⟨u, hu, rfl, _⟩ := ih
    obtain ⟨c, hc, rfl⟩ := List.mem_map.1 ht
    have hcL : (c : Int) < a.L := by
      have := g.l1
      have : c < a.L.toNat := List.mem_range.1 hc
      omega
    refine ⟨u ++ [(c : Int)], fun b hb => ?_, ?_, _, rfl⟩
    · rcases List.mem_append.1 hb with hb | hb
      · exact hu b hb
      · simp at hb; subst hb; exact ⟨by omega, hcL⟩
    · unfold runN; rw [List.foldl_append]; rfl
/-- No two sets of the mirror of one all of whose states are reached are alike. -/
theorem mir_apart {x : Aut} (gx : Df.Good x) (hr : ∀ i, i < x.next.length → ∃ v, Word x.L v ∧ runA x x.s.toNat v = i) {X Y : List Nat} (hX : Rch (T (mir (ofA x))) (beg (mir (ofA x))) X) (hY : Rch (T (mir (ofA x))) (beg (mir (ofA x))) Y)
    (hXY : ∀ w, Word x.L w → finN (mir (ofA x)) (runN (mir (ofA x)) X w) = finN (mir (ofA x)) (runN (mir (ofA x)) Y w)) : X = Y := by
  have gm := mir_good (of_good gx)
  obtain ⟨u, hu, eX, Z, eZ⟩ := rch_run gm hX
  obtain ⟨u', hu', eY, Z', eZ'⟩ := rch_run gm hY
  have hu : Word x.L u := hu
  have hu' : Word x.L u' := hu'
  have hmn : (mir (ofA x)).n.toNat = x.next.length := of_n x
  have key : ∀ t, t < (mir (ofA x)).n.toNat → (t ∈ X ↔ t ∈ Y) := fun t ht => by
    rw [hmn] at ht
    obtain ⟨v, hv, e⟩ := hr t ht
    have hv' : Word x.L v.reverse := fun c hc => hv c (List.mem_reverse.1 hc)
    have h1 := hXY v.reverse hv'
    rw [eX, eY] at h1
    have h2 : ∀ u, Word x.L u → finN (mir (ofA x)) (runN (mir (ofA x)) (runN (mir (ofA x)) (beg (mir (ofA x))) u) v.reverse) = finA x (runA x t u.reverse) := fun u hu => by
      have e1 : runN (mir (ofA x)) (runN (mir (ofA x)) (beg (mir (ofA x))) u) v.reverse = runN (mir (ofA x)) (beg (mir (ofA x))) (u ++ v.reverse) := by unfold runN; rw [List.foldl_append]
      have hw2 : Word x.L (u ++ v.reverse) := fun a ha => by
        rcases List.mem_append.1 ha with ha | ha
        · exact hu a ha
        · exact hv' a ha
      rw [e1]
      have := mir_of_acc gx hw2
      rw [List.reverse_append, List.reverse_reverse] at this
      unfold accN at this
      rw [this]
      unfold accA
      rw [runA_append, e]
    rw [h2 u hu, h2 u' hu'] at h1
    rw [eX, eY, mir_set gx hu ht, mir_set gx hu' ht, h1]
  rw [eZ, eZ'] at key ⊢
  exact clo_ext key
/-- They are no more than another automaton of the mirror has states. -/
theorem mir_found {x d : Aut} (gx : Df.Good x) (gd : Df.Good d) (eL : d.L = x.L) (hr : ∀ i, i < x.next.length → ∃ v, Word x.L v ∧ runA x x.s.toNat v = i) (h : ∀ w, Word d.L w → accA d w = accA x w.reverse) :
    ∃ l, found (T (mir (ofA x))) (beg (mir (ofA x))) = some l := by
  have gm := mir_good (of_good gx)
  rcases found_cases (T (mir (ofA x))) (beg (mir (ofA x))) with ⟨m, hm, _⟩ | ⟨_, m, h1, h2, h3⟩
  · exact ⟨m, hm⟩
  · exfalso
    have hu : ∀ X : List Nat, ∃ u : List Int, X ∈ m → Word x.L u ∧ X = runN (mir (ofA x)) (beg (mir (ofA x))) u := fun X => by
      by_cases hX : X ∈ m
      · obtain ⟨u, p1, p2, _⟩ := rch_run gm (h3 X hX)
        exact ⟨u, fun _ => ⟨p1, p2⟩⟩
      · exact ⟨[], fun q => absurd q hX⟩
    have hc : ∃ U : List Nat → List Int, ∀ X, X ∈ m → Word x.L (U X) ∧ X = runN (mir (ofA x)) (beg (mir (ofA x))) (U X) := ⟨fun X => Classical.choose (hu X), fun X => Classical.choose_spec (hu X)⟩
    obtain ⟨U, hU⟩ := hc
    have hfin : ∀ X, X ∈ m → ∀ w, Word x.L w → finN (mir (ofA x)) (runN (mir (ofA x)) X w) = finA d (runA d (runA d d.s.toNat (U X)) w) := fun X hX w hw => by
      obtain ⟨p1, p2⟩ := hU X hX
      have hw2 : Word x.L (U X ++ w) := fun a ha => by
        rcases List.mem_append.1 ha with ha | ha
        · exact p1 a ha
        · exact hw a ha
      have e1 := mir_of_acc gx hw2
      rw [← h _ (by rw [eL]; exact hw2)] at e1
      have e2 : runN (mir (ofA x)) (beg (mir (ofA x))) (U X ++ w) = runN (mir (ofA x)) X w := by
        have : runN (mir (ofA x)) (beg (mir (ofA x))) (U X ++ w) = runN (mir (ofA x)) (runN (mir (ofA x)) (beg (mir (ofA x))) (U X)) w := by unfold runN; rw [List.foldl_append]
        rw [this, ← p2]
      unfold accN accA at e1
      rw [e2, runA_append] at e1
      exact e1
    have hle := nodup_le_of (n := d.next.length) h1 (fun X => runA d d.s.toNat (U X)) (fun X hX Y hY e => mir_apart gx hr (h3 X hX) (h3 Y hY) fun w hw => by
      have e : runA d d.s.toNat (U X) = runA d d.s.toNat (U Y) := e
      rw [hfin X hX w hw, hfin Y hY w hw, e]) (fun X hX => gd.run_lt (by rw [eL]; exact (hU X hX).1) gd.s_lt)
    have := gd.n40
    omega
/-- What is made of the mirror of an automaton all of whose states are reached, is the smallest. -/
theorem make_mir {x d : Aut} (gx : Df.Good x) (gd : Df.Good d) (eL : d.L = x.L) (hr : ∀ i, i < x.next.length → ∃ v, Word x.L v ∧ runA x x.s.toNat v = i) (h : ∀ w, Word d.L w → accA d w = accA x w.reverse)
    {l : List (List Nat)} (hl : found (T (mir (ofA x))) (beg (mir (ofA x))) = some l) : makeA (mir (ofA x)) l = minA d := by
  have gm := mir_good (of_good gx)
  have hw := found_whole hl
  unfold makeA
  refine autOf_min hl (fun X _ => T_len gm X) (fun X hX Y hY hXY => mir_apart gx hr (hw.rch X hX) (hw.rch Y hY) fun w hwx => ?_) gd eL fun w hwm => ?_
  · have := hXY w hwx
    have hwm : Word (mir (ofA x)).L w := hwx
    rwa [viaN hwm, viaN hwm] at this
  · have hwx : Word x.L w := hwm
    rw [viaN hwm, h w (by rw [eL]; exact hwx)]
    exact (mir_of_acc gx hwx).symm
theorem make_reached {a : Nfa} (g : Good a) {l : List (List Nat)} (hl : found (T a) (beg a) = some l) {i : Nat} (hi : i < (makeA a l).next.length) : ∃ v, Word a.L v ∧ runA (makeA a l) (makeA a l).s.toNat v = i := by
  have hw := found_whole hl
  have hn : (makeA a l).next.length = l.length := by unfold makeA autOf; simp
  rw [hn] at hi
  have hm := List.getElem_mem hi
  have key : ∀ X, Rch (T a) (beg a) X → ∃ v, Word a.L v ∧ viaAll (T a) (beg a) v = X := fun X hX => by
    induction hX with
    | base => exact ⟨[], by intro a ha; simp at ha, rfl⟩
    | next _ ht ih =>
      obtain ⟨v, hv, rfl⟩ := ih
      obtain ⟨c, hc, rfl⟩ := List.mem_map.1 ht
      have hcL : (c : Int) < a.L := by
        have := g.l1
        have : c < a.L.toNat := List.mem_range.1 hc
        omega
      have hv2 : Word a.L (v ++ [(c : Int)]) := fun b hb => by
        rcases List.mem_append.1 hb with hb | hb
        · exact hv b hb
        · simp at hb; subst hb; exact ⟨by omega, hcL⟩
      refine ⟨v ++ [(c : Int)], hv2, ?_⟩
      rw [viaN hv2, viaN hv]
      unfold runN; rw [List.foldl_append]; rfl
  obtain ⟨v, hv, e⟩ := key _ (hw.rch _ hm)
  obtain ⟨_, p2⟩ := autOf_run (f := finN a) hw (fun X _ => T_len g X) hv (List.mem_of_getElem? hw.hd)
  refine ⟨v, hv, ?_⟩
  rw [idx_of hw.nd hw.hd, e, idx_of hw.nd (List.getElem?_eq_getElem hi)] at p2
  exact p2
/-- Mirrored and made one state at a time, twice: the smallest one. -/
theorem twice {d : Aut} (g : Df.Good d) {l : List (List Nat)} (hl : found (T (mir (ofA d))) (beg (mir (ofA d))) = some l) {x : Aut} (hx : x = makeA (mir (ofA d)) l) :
    ∃ k, found (T (mir (ofA x))) (beg (mir (ofA x))) = some k ∧ makeA (mir (ofA x)) k = minA d := by
  have go := of_good g
  have gm := mir_good go
  have gx := make_good gm hl
  have hr := fun i (hi : i < (makeA (mir (ofA d)) l).next.length) => make_reached gm hl hi
  have hacc : ∀ w, Word d.L w → accA d w = accA (makeA (mir (ofA d)) l) w.reverse := fun w hw => by
    have hw' : Word d.L w.reverse := fun c hc => hw c (List.mem_reverse.1 hc)
    rw [make_acc gm hl hw', mir_acc go (nn hw), of_acc g hw]
  subst hx
  obtain ⟨k, hk⟩ := mir_found gx g rfl hr hacc
  exact ⟨k, hk, make_mir gx g rfl hr hacc hk⟩
end Go.Proofs.YtbciefeipiphiaaDoor.Nf

namespace Go.Proofs.YtbciefeipiphiaaDoor.Nf
open Go.Proofs.YtbciefeipiphiaaDoor.Df Go.Proofs.YtbciefeipiphiaaDoor.Wo Go.Proofs.YtbciefeipiphiaaDoor.Rc Go.Proofs.YtbciefeipiphiaaDoor.Sm

/-- One move. -/
def put1 (p : Nat → Bool) (m : Int × Int × Int) : Nat → Bool := fun t => p t || (decide (m.2.1 = -1) && p m.1.toNat && decide (t = m.2.2.toNat))
def passP (l : List (Int × Int × Int)) (p : Nat → Bool) : Nat → Bool := l.foldl put1 p
theorem put1_mono {p : Nat → Bool} {m : Int × Int × Int} {t : Nat} (h : p t = true) : put1 p m t = true := by unfold put1; rw [h]; rfl
theorem passP_mono : ∀ (l : List (Int × Int × Int)) {p : Nat → Bool} {t : Nat}, p t = true → passP l p t = true
  | [], _, _, h => h
  | m :: l, _, _, h => passP_mono l (put1_mono (m := m) h)
theorem passP_has : ∀ (l : List (Int × Int × Int)) {p : Nat → Bool} {x y : Int}, (x, -1, y) ∈ l → p x.toNat = true → passP l p y.toNat = true
  | [], _, _, _, h, _ => by cases h
  | m :: l, p, x, y, h, hp => by
    rcases List.mem_cons.1 h with e | h
    · subst e
      refine passP_mono l ?_
      unfold put1
      simp [hp]
    · exact passP_has l h (put1_mono hp)
/-- Nothing more to find. -/
def Shut (a : Nfa) (p : Nat → Bool) : Prop := ∀ x y : Int, (x, -1, y) ∈ a.mv → p x.toNat = true → p y.toNat = true
theorem passP_shut {a : Nfa} {p : Nat → Bool} (h : Shut a p) : ∀ (l : List (Int × Int × Int)), (∀ m ∈ l, m ∈ a.mv) → passP l p = p
  | [], _ => rfl
  | m :: l, hl => by
    have e : put1 p m = p := funext fun t => by
      unfold put1
      rcases m with ⟨x, c, y⟩
      by_cases h1 : c = -1 ∧ p x.toNat = true ∧ t = y.toNat
      · obtain ⟨rfl, h2, rfl⟩ := h1
        rw [h x y (hl _ List.mem_cons_self) h2]; rfl
      · have : (decide (c = -1) && p x.toNat && decide (t = y.toNat)) = false := by
          rcases hb : (decide (c = -1) && p x.toNat && decide (t = y.toNat)) with _ | _
          · rfl
          · simp only [Bool.and_eq_true, decide_eq_true_eq] at hb
            exact absurd ⟨hb.1.1, hb.1.2, hb.2⟩ h1
        simp only [this, Bool.or_false]
    show passP l (put1 p m) = p
    rw [e]
    exact passP_shut h l fun z hz => hl z (List.mem_cons_of_mem _ hz)
def itP (a : Nfa) : Nat → (Nat → Bool) → Nat → Bool
  | 0, p => p
  | k + 1, p => passP a.mv (itP a k p)
theorem itP_mono {a : Nfa} {p : Nat → Bool} {t k j : Nat} (h : itP a k p t = true) (hj : k ≤ j) : itP a j p t = true := by
  induction hj with
  | refl => exact h
  | step _ ih => exact passP_mono _ ih
theorem itP_shut {a : Nfa} {p : Nat → Bool} {k j : Nat} (h : Shut a (itP a k p)) (hj : k ≤ j) : itP a j p = itP a k p := by
  induction hj with
  | refl => rfl
  | @step m _ ih =>
    show passP a.mv (itP a m p) = _
    rw [ih]
    exact passP_shut h a.mv fun _ hm => hm
theorem passP_sound {a : Nfa} (g : Good a) {q : Nat → Bool} : ∀ (l : List (Int × Int × Int)) {p : Nat → Bool}, (∀ m ∈ l, m ∈ a.mv) → (∀ t, p t = true → ∃ s, q s = true ∧ Rch (epsS a) s t) → ∀ t, passP l p t = true → ∃ s, q s = true ∧ Rch (epsS a) s t
  | [], _, _, hp, t, h => hp t h
  | m :: l, p, hl, hp, t, h => by
    refine passP_sound g l (p := put1 p m) (fun z hz => hl z (List.mem_cons_of_mem _ hz)) (fun u hu => ?_) t h
    unfold put1 at hu
    rcases hpu : p u with _ | _
    · rw [hpu, Bool.false_or] at hu
      simp only [Bool.and_eq_true, decide_eq_true_eq] at hu
      obtain ⟨⟨h1, h2⟩, rfl⟩ := hu
      obtain ⟨s, hs, hr⟩ := hp _ h2
      have hm := hl m List.mem_cons_self
      have hg := g.mv m hm
      refine ⟨s, hs, .next hr ((mem_epsS g).2 ?_)⟩
      rw [Int.toNat_of_nonneg hg.1.1, Int.toNat_of_nonneg hg.2.1.1, ← h1]
      exact hm
    · exact hp u hpu
theorem itP_sound {a : Nfa} (g : Good a) {p : Nat → Bool} (k : Nat) : ∀ t, itP a k p t = true → ∃ s, p s = true ∧ Rch (epsS a) s t := by
  induction k with
  | zero => intro t h; exact ⟨t, h, .base⟩
  | succ k ih => exact passP_sound g a.mv (fun _ h => h) ih
/-- After as many passes as there are states nothing more is found. -/
theorem itP_end {a : Nfa} (g : Good a) (p : Nat → Bool) : Shut a (itP a a.n.toNat p) := by
  apply Classical.byContradiction
  intro hn
  have hall : ∀ k, k ≤ a.n.toNat → ¬ Shut a (itP a k p) := fun k hk h => hn (by rw [itP_shut h hk]; exact h)
  have hcnt : ∀ k, k ≤ a.n.toNat → k ≤ ((List.range a.n.toNat).filter (itP a k p)).length := by
    intro k
    induction k with
    | zero => intro _; omega
    | succ k ih =>
      intro hk
      have h1 := ih (by omega)
      have h2 := hall k (by omega)
      obtain ⟨x, h3⟩ := Classical.not_forall.1 h2
      obtain ⟨y, h4⟩ := Classical.not_forall.1 h3
      obtain ⟨hm, h5⟩ := Classical.not_imp.1 h4
      obtain ⟨h6, h7⟩ := Classical.not_imp.1 h5
      have hy := (g.mv _ hm).2.1
      have hy1 := hy.1; have hy2 := hy.2
      simp only at hy1 hy2
      have h8 : itP a k p y.toNat = false := by
        rcases e : itP a k p y.toNat with _ | _
        · rfl
        · exact absurd e h7
      have := filter_lt (l := List.range a.n.toNat) (p := itP a k p) (q := itP a (k + 1) p) (fun t _ ht => itP_mono ht (by omega)) (z := y.toNat) (List.mem_range.2 (by omega)) (passP_has a.mv hm h6) h8
      omega
  have h1 := hcnt a.n.toNat (Nat.le_refl _)
  have hfull : ∀ t, t < a.n.toNat → itP a a.n.toNat p t = true := fun t ht => by
    have h2 : ((List.range a.n.toNat).filter (itP a a.n.toNat p)).length = (List.range a.n.toNat).length := by
      have := List.length_filter_le (itP a a.n.toNat p) (List.range a.n.toNat)
      rw [List.length_range] at this ⊢
      omega
    exact List.length_filter_eq_length_iff.1 h2 t (List.mem_range.2 ht)
  refine hn fun x y hm _ => ?_
  have hy := (g.mv _ hm).2.1
  have hy1 := hy.1; have hy2 := hy.2
  simp only at hy1 hy2
  exact hfull _ (by omega)
/-- The passes find what the moves by no letter lead to. -/
theorem itP_iff {a : Nfa} (g : Good a) {p : Nat → Bool} {t : Nat} : itP a a.n.toNat p t = true ↔ ∃ s, p s = true ∧ Way a s [] t := by
  constructor
  · intro h
    obtain ⟨s, hs, hr⟩ := itP_sound g _ t h
    exact ⟨s, hs, (way_eps g).2 hr⟩
  · rintro ⟨s, hs, hw⟩
    have hr := (way_eps g).1 hw
    induction hr with
    | base => exact itP_mono (k := 0) hs (by omega)
    | next hz ht ih =>
      have hm := (mem_epsS g).1 ht
      have := itP_end g p _ _ hm (by simpa using ih ((way_eps g).2 hz))
      simpa using this
/-- A set as a row of bools. -/
def bits (a : Nfa) (p : Nat → Bool) : List Bool := (List.range a.n.toNat).map p
theorem clo_bits {a : Nfa} (g : Good a) {X : List Nat} (hX : ∀ s ∈ X, s < a.n.toNat) {t : Nat} : decide (t ∈ clo a X) = itP a a.n.toNat (fun s => decide (s ∈ X)) t := by
  refine Bool.eq_iff_iff.2 ?_
  rw [decide_eq_true_iff, mem_clo g hX, itP_iff g]
  constructor
  · rintro ⟨s, hs, h⟩; exact ⟨s, decide_eq_true hs, h⟩
  · rintro ⟨s, hs, h⟩; exact ⟨s, of_decide_eq_true hs, h⟩
end Go.Proofs.YtbciefeipiphiaaDoor.Nf

namespace Go.Proofs.YtbciefeipiphiaaDoor.Nf
open Go.Proofs.YtbciefeipiphiaaDoor.Df Go.Proofs.YtbciefeipiphiaaDoor.Wo Go.Proofs.YtbciefeipiphiaaDoor.Rc Go.Proofs.YtbciefeipiphiaaDoor.Sm

/-! ### found under another name -/
section
variable {α β : Type} {S : α → List α} {T : β → List β} {a : α} {φ : α → β}
theorem rch_as (hT : ∀ x, Rch S a x → T (φ x) = (S x).map φ) {x : α} (h : Rch S a x) : Rch T (φ a) (φ x) := by
  induction h with
  | base => exact .base
  | next hz ht ih => exact .next ih (by rw [hT _ hz]; exact List.mem_map_of_mem ht)
variable [DecidableEq α] [DecidableEq β]
theorem found_as (hi : ∀ x y, Rch S a x → Rch S a y → φ x = φ y → x = y) (hT : ∀ x, Rch S a x → T (φ x) = (S x).map φ) : found T (φ a) = (found S a).map (List.map φ) := by
  rcases found_cases S a with ⟨l, h, hw⟩ | ⟨h, m, h1, h2, h3⟩
  · rw [h]
    have hm := fun x (hx : x ∈ l) => hw.mem_iff.1 hx
    exact expl_as hw.closed (fun x hx y hy => hi x y (hm x hx) (hm y hy)) (fun x hx => hT x (hm x hx)) 41 0 [a] h (fun x hx => by simp at hx; subst hx; exact List.mem_of_getElem? hw.hd)
  · rw [h]
    rcases hf : found T (φ a) with _ | l'
    · rfl
    · exfalso
      have hw := found_whole hf
      have hm : ∀ x ∈ m, φ x ∈ l' := fun x hx => hw.mem_iff.2 (rch_as hT (h3 x hx))
      have := nodup_le_of (l := m) (n := l'.length) h1 (fun x => num l' (φ x)) (fun x hx y hy e => by
        have e1 := idx_get (hm x hx)
        have e2 := idx_get (hm y hy)
        rw [e, e2] at e1
        exact hi x y (h3 x hx) (h3 y hy) (Option.some.inj e1).symm) (fun x hx => idx_lt (hm x hx))
      have := hw.n40
      omega
theorem autOf_as {l : List α} (hw : Whole S a l) (hi : ∀ x y, Rch S a x → Rch S a y → φ x = φ y → x = y) (hT : ∀ x, Rch S a x → T (φ x) = (S x).map φ) {L : Int} {f : α → Bool} {f' : β → Bool} (hf : ∀ x, Rch S a x → f' (φ x) = f x) : autOf L T (l.map φ) f' = autOf L S l f := by
  have hm := fun x (hx : x ∈ l) => hw.mem_iff.1 hx
  unfold autOf
  rw [List.map_map, List.map_map]
  congr 1
  · refine List.map_congr_left fun x hx => ?_
    show srow T (l.map φ) (φ x) = srow S l x
    unfold srow
    rw [hT x (hm x hx), List.map_map]
    refine List.map_congr_left fun t ht => ?_
    show ((num (l.map φ) (φ t) : Nat) : Int) = _
    rw [num_map (fun x hx y hy => hi x y (hm x hx) (hm y hy)) (hw.closed x hx t ht)]
  · exact List.map_congr_left fun x hx => hf x (hm x hx)
end
theorem explOut_as {α β : Type} [DecidableEq α] [DecidableEq β] {S : α → List α} {T : β → List β} {a : α} {φ : α → β} (hi : ∀ x y, Rch S a x → Rch S a y → φ x = φ y → x = y) (hT : ∀ x, Rch S a x → T (φ x) = (S x).map φ) {L : Int} {f : α → Bool} {f' : β → Bool}
    (hf : ∀ x, Rch S a x → f' (φ x) = f x) : explOut L T (φ a) f' = explOut L S a f := by
  have h := found_as hi hT
  rcases hl : found S a with _ | l
  · rw [hl] at h
    rw [explOut_none hl, explOut_none h]
  · rw [hl] at h
    rw [explOut_some hl, explOut_some h, autOf_as (found_whole hl) hi hT hf]
/-- What Make gives. -/
def makeOut (a : Nfa) : Aut × Nat := if nchk a = 0 then explOut a.L (T a) (beg a) (finN a) else (zeroA, nchk a)

/-! ### the bits of a number -/
def enc (X : List Nat) : Nat := X.foldl (fun x s => x ||| 2 ^ s) 0
theorem enc_fold : ∀ (X : List Nat) (x t : Nat), (X.foldl (fun x s => x ||| 2 ^ s) x).testBit t = (x.testBit t || decide (t ∈ X))
  | [], x, t => by simp
  | s :: X, x, t => by
    rw [List.foldl_cons, enc_fold X, Nat.testBit_or, Nat.testBit_two_pow, Bool.or_assoc]
    congr 1
    by_cases h : s = t
    · subst h; simp
    · have h' : ¬ t = s := fun e => h e.symm
      simp [h, h']
theorem enc_bit (X : List Nat) (t : Nat) : (enc X).testBit t = decide (t ∈ X) := by unfold enc; rw [enc_fold]; simp
theorem enc_ext {X Y : List Nat} (h : ∀ t, t ∈ X ↔ t ∈ Y) : enc X = enc Y := Nat.eq_of_testBit_eq fun t => by rw [enc_bit, enc_bit]; exact decide_eq_decide.2 (h t)
theorem enc_mem {X Y : List Nat} (h : enc X = enc Y) (t : Nat) : t ∈ X ↔ t ∈ Y := by
  have := enc_bit X t
  rw [h, enc_bit] at this
  exact (decide_eq_decide.1 this).symm
theorem enc_nil : enc [] = 0 := rfl
theorem enc_snoc (X : List Nat) (s : Nat) : enc (X ++ [s]) = enc X ||| 2 ^ s := by unfold enc; rw [List.foldl_append]; rfl
theorem enc_append (X Y : List Nat) : enc (X ++ Y) = enc X ||| enc Y := Nat.eq_of_testBit_eq fun t => by
  rw [Nat.testBit_or, enc_bit, enc_bit, enc_bit]
  by_cases h1 : t ∈ X <;> by_cases h2 : t ∈ Y <;> simp [h1, h2]
theorem enc_lt {X : List Nat} (h : ∀ s ∈ X, s < 40) : enc X < 1099511627776 := by
  have : enc X < 2 ^ 40 := Nat.lt_pow_two_of_testBit _ fun t ht => by
    rw [enc_bit]
    exact decide_eq_false fun k => by have := h t k; omega
  simpa using this
theorem pow_lt {s : Nat} (h : s < 40) : 2 ^ s < 1099511627776 := by
  have : (2 : Nat) ^ s < 2 ^ 40 := Nat.pow_lt_pow_right (by omega) h
  simpa using this
theorem enc_shift (X : List Nat) (s : Nat) : (enc X / 2 ^ s) % 2 = if s ∈ X then 1 else 0 := by
  have h := enc_bit X s
  rw [Nat.testBit_eq_decide_div_mod_eq] at h
  have h2 := decide_eq_decide.1 h
  by_cases e : s ∈ X
  · rw [if_pos e]; exact h2.2 e
  · rw [if_neg e]
    have : ¬ enc X / 2 ^ s % 2 = 1 := fun k => e (h2.1 k)
    omega
theorem enc_and (X Y : List Nat) : (enc X &&& enc Y = 0) ↔ ∀ t ∈ X, t ∉ Y := by
  constructor
  · intro h t h1 h2
    have := congrArg (fun n => Nat.testBit n t) h
    simp only [Nat.testBit_and, enc_bit, Nat.zero_testBit] at this
    simp [h1, h2] at this
  · intro h
    refine Nat.eq_of_testBit_eq fun t => ?_
    rw [Nat.testBit_and, enc_bit, enc_bit, Nat.zero_testBit]
    by_cases h1 : t ∈ X
    · simp [h1, h t h1]
    · simp [h1]
theorem fin_and {a : Nfa} (g : Good a) (X : List Nat) : decide (enc X &&& enc (a.fin.map Int.toNat) ≠ 0) = finN a X := by
  unfold finN
  refine Bool.eq_iff_iff.2 ?_
  rw [decide_eq_true_iff, List.any_eq_true]
  constructor
  · intro h
    by_cases hx : ∃ t ∈ X, t ∈ a.fin.map Int.toNat
    · obtain ⟨t, h1, h2⟩ := hx
      obtain ⟨x, h3, rfl⟩ := List.mem_map.1 h2
      have := (g.fin x h3).1
      exact ⟨_, h1, decide_eq_true (by rw [Int.toNat_of_nonneg this]; exact h3)⟩
    · exact absurd ((enc_and X _).2 fun t h1 h2 => hx ⟨t, h1, h2⟩) h
  · rintro ⟨t, h1, h2⟩ h
    exact (enc_and X _).1 h t h1 (List.mem_map.2 ⟨_, of_decide_eq_true h2, by simp⟩)

/-! ### closing a set -/
theorem clo_fix {a : Nfa} (g : Good a) {X K : List Nat} (hX : ∀ s ∈ X, s < a.n.toNat) (h1 : ∀ t ∈ K, t ∈ clo a X) (h2 : ∀ t ∈ X, t ∈ K) (h3 : ∀ t ∈ to a K (-1), t ∈ K) : enc K = enc (clo a X) := by
  refine enc_ext fun t => ⟨h1 t, fun h => ?_⟩
  obtain ⟨s, hs, hw⟩ := (mem_clo g hX).1 h
  have hr := (way_eps g).1 hw
  clear h hw
  induction hr with
  | base => exact h2 s hs
  | next _ ht ih => exact h3 _ ((mem_to g).2 ⟨_, ih, (mem_epsS g).1 ht⟩)
theorem clo_more {a : Nfa} (g : Good a) {X K : List Nat} (hX : ∀ s ∈ X, s < a.n.toNat) (h1 : ∀ t ∈ K, t ∈ clo a X) : ∀ t ∈ to a K (-1), t ∈ clo a X := by
  intro t ht
  obtain ⟨s, hs, hm⟩ := (mem_to g).1 ht
  obtain ⟨z, hz, hw⟩ := (mem_clo g hX).1 (h1 s hs)
  exact (mem_clo g hX).2 ⟨z, hz, .eps hw hm⟩
theorem clo_self {a : Nfa} (g : Good a) {X : List Nat} (hX : ∀ s ∈ X, s < a.n.toNat) : ∀ t ∈ X, t ∈ clo a X := fun t ht => (mem_clo g hX).2 ⟨t, ht, .nil⟩
theorem clo_lt {a : Nfa} {X : List Nat} {t : Nat} (h : t ∈ clo a X) : t < a.n.toNat := (mem_setQ.1 h).1
theorem lt40 {a : Nfa} (g : Good a) {X : List Nat} (h : ∀ t ∈ X, t < a.n.toNat) : ∀ t ∈ X, t < 40 := fun t ht => by
  have := h t ht; have := g.n40; omega
theorem fins_lt {a : Nfa} (g : Good a) : ∀ t ∈ a.fin.map Int.toNat, t < a.n.toNat := fun t ht => by
  obtain ⟨x, hx, rfl⟩ := List.mem_map.1 ht
  have := g.fin x hx
  have h1 := this.1; have h2 := this.2
  omega

/-! ### the subset construction, of numbers and of rows of bools -/
theorem rch_canon {a : Nfa} (g : Good a) {X : List Nat} (h : Rch (T a) (beg a) X) : X = setQ a (fun t => decide (t ∈ X)) := by
  obtain ⟨_, _, _, Z, rfl⟩ := rch_run g h
  exact clo_set a Z
theorem rch_lt40 {a : Nfa} (g : Good a) {X : List Nat} (h : Rch (T a) (beg a) X) : ∀ t ∈ X, t < a.n.toNat := fun t ht => by
  rw [rch_canon g h] at ht; exact (mem_setQ.1 ht).1
def dec (a : Nfa) (x : Nat) : List Nat := setQ a fun t => x.testBit t
theorem dec_enc {a : Nfa} {X : List Nat} (h : X = setQ a (fun t => decide (t ∈ X))) : dec a (enc X) = X := by
  unfold dec
  rw [show (fun t => (enc X).testBit t) = fun t => decide (t ∈ X) from funext fun t => enc_bit X t]
  exact h.symm
def T64 (a : Nfa) (x : Nat) : List Nat := (T a (dec a x)).map enc
theorem make64 {a : Nfa} (g : Good a) : explOut a.L (T64 a) (enc (beg a)) (fun x => decide (x &&& enc (a.fin.map Int.toNat) ≠ 0)) = explOut a.L (T a) (beg a) (finN a) :=
  explOut_as (fun x y hx hy e => by
    have h1 := dec_enc (rch_canon g hx)
    have h2 := dec_enc (rch_canon g hy)
    rw [← h1, ← h2, e]) (fun x hx => by unfold T64; rw [dec_enc (rch_canon g hx)]) (fun x _ => fin_and g x)
def rowQ (a : Nfa) (X : List Nat) : List Bool := (List.range a.n.toNat).map fun t => decide (t ∈ X)
theorem rowQ_len (a : Nfa) (X : List Nat) : (rowQ a X).length = a.n.toNat := by simp [rowQ]
theorem rowQ_get {a : Nfa} (X : List Nat) {t : Nat} (h : t < a.n.toNat) : (rowQ a X)[t]? = some (decide (t ∈ X)) := by
  unfold rowQ; rw [List.getElem?_map, List.getElem?_range h]; rfl
def decB (a : Nfa) (r : List Bool) : List Nat := setQ a fun t => r[t]?.getD false
theorem decB_row {a : Nfa} {X : List Nat} (h : X = setQ a (fun t => decide (t ∈ X))) : decB a (rowQ a X) = X := by
  have e : decB a (rowQ a X) = setQ a (fun t => decide (t ∈ X)) := setQ_ext fun t ht => by rw [rowQ_get X ht]; rfl
  rw [e]; exact h.symm
def TB (a : Nfa) (r : List Bool) : List (List Bool) := (T a (decB a r)).map (rowQ a)
theorem makeB {a : Nfa} (g : Good a) (f : List Bool → Bool) (hf : ∀ X, Rch (T a) (beg a) X → f (rowQ a X) = finN a X) : explOut a.L (TB a) (rowQ a (beg a)) f = explOut a.L (T a) (beg a) (finN a) :=
  explOut_as (fun x y hx hy e => by
    have h1 := decB_row (rch_canon g hx)
    have h2 := decB_row (rch_canon g hy)
    rw [← h1, ← h2, e]) (fun x hx => by unfold TB; rw [decB_row (rch_canon g hx)]) hf
end Go.Proofs.YtbciefeipiphiaaDoor.Nf
