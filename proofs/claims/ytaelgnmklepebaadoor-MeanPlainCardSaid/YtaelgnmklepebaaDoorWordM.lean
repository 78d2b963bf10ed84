/- Plain mathematics of words: what is wrong with one, the letters of a set, what is left of a word, and which is ahead. -/
namespace Go.Proofs.YtaelgnmklepebaaDoor.Wo

/-- What is wrong with a word. -/
def chk (L : Int) (w : List Int) : Nat :=
  if L < 1 ∨ 6 < L then 1 else if 80 < w.length then 4 else if w.all (fun a => decide (0 ≤ a) && decide (a < L)) then 0 else 1
/-- A word of letters. -/
def Fine (L : Int) (w : List Int) : Prop := (1 ≤ L ∧ L ≤ 6) ∧ w.length ≤ 80 ∧ ∀ a ∈ w, 0 ≤ a ∧ a < L
theorem chk_iff {L : Int} {w : List Int} : chk L w = 0 ↔ Fine L w := by
  unfold chk Fine
  by_cases h : L < 1 ∨ 6 < L
  · rw [if_pos h]; omega
  · rw [if_neg h]
    by_cases h2 : 80 < w.length
    · rw [if_pos h2]; omega
    · rw [if_neg h2]
      by_cases h3 : w.all (fun a => decide (0 ≤ a) && decide (a < L)) = true
      · rw [if_pos h3]
        refine ⟨fun _ => ⟨by omega, by omega, fun a ha => ?_⟩, fun _ => rfl⟩
        have := List.all_eq_true.1 h3 a ha
        simpa using this
      · rw [if_neg h3]
        refine ⟨fun e => by omega, fun ⟨_, _, h4⟩ => absurd (List.all_eq_true.2 fun a ha => ?_) h3⟩
        simpa using h4 a ha
theorem chk_cases (L : Int) (w : List Int) : chk L w = 0 ∨ chk L w = 1 ∨ chk L w = 4 := by
  unfold chk; repeat' split
  all_goals simp
theorem chk_one {L : Int} (h : L < 1 ∨ 6 < L) (w : List Int) : chk L w = 1 := by unfold chk; rw [if_pos h]
theorem chk_four {L : Int} (h : ¬ (L < 1 ∨ 6 < L)) {w : List Int} (h2 : 80 < w.length) : chk L w = 4 := by unfold chk; rw [if_neg h, if_pos h2]
theorem chk_bad {L : Int} (h : ¬ (L < 1 ∨ 6 < L)) {w : List Int} (h2 : ¬ 80 < w.length) {k : Nat} (hk : k < w.length) (h3 : w[k] < 0 ∨ L ≤ w[k]) : chk L w = 1 := by
  unfold chk
  rw [if_neg h, if_neg h2, if_neg]
  intro h4
  have := List.all_eq_true.1 h4 _ (List.getElem_mem hk)
  simp at this; omega
/-- The letters up to a place are letters. -/
def Upto (L : Int) (w : List Int) (k : Nat) : Prop := ∀ a ∈ w.take k, 0 ≤ a ∧ a < L
theorem upto_zero (L : Int) (w : List Int) : Upto L w 0 := by simp [Upto]
theorem upto_next {L : Int} {w : List Int} {k : Nat} (h : Upto L w k) (hk : k < w.length) (h0 : 0 ≤ w[k]) (h1 : w[k] < L) : Upto L w (k + 1) := by
  unfold Upto at *
  rw [← List.take_append_getElem hk]
  intro a ha
  rcases List.mem_append.1 ha with ha | ha
  · exact h a ha
  · simp at ha; subst ha; exact ⟨h0, h1⟩
theorem upto_end {L : Int} {w : List Int} (h : ¬ (L < 1 ∨ 6 < L)) (h2 : ¬ 80 < w.length) (hu : Upto L w w.length) : chk L w = 0 := by
  rw [chk_iff]
  unfold Upto at hu
  rw [List.take_length] at hu
  exact ⟨by omega, by omega, hu⟩

def chk2 (L : Int) (v w : List Int) : Nat := if chk L v = 0 then chk L w else chk L v
theorem chk2_iff {L : Int} {v w : List Int} : chk2 L v w = 0 ↔ Fine L v ∧ Fine L w := by
  unfold chk2
  rw [← chk_iff, ← chk_iff]
  split <;> simp_all

/-- Is a letter in a set? -/
def has (s a : Int) : Bool := s.toNat / 2 ^ a.toNat % 2 == 1
def setOk (L s : Int) : Prop := 0 ≤ s ∧ s < 2 ^ L.toNat
instance (L s : Int) : Decidable (setOk L s) := by unfold setOk; infer_instance
def only (s : Int) (w : List Int) : List Int := w.filter (has s)
/-- What Only returns. -/
def onlyOut (L : Int) (w : List Int) (s : Int) : List Int × Nat :=
  if chk L w = 0 then (if setOk L s then (only s w, 0) else ([], 1)) else ([], chk L w)
def mirOut (L : Int) (w : List Int) : List Int × Nat := if chk L w = 0 then (w.reverse, 0) else ([], chk L w)
theorem only_len (s : Int) (w : List Int) : (only s w).length ≤ w.length := List.length_filter_le _ _
theorem only_fine {L : Int} {w : List Int} (h : Fine L w) (s : Int) : Fine L (only s w) :=
  ⟨h.1, Nat.le_trans (only_len s w) h.2.1, fun a ha => h.2.2 a (List.mem_filter.1 ha).1⟩
theorem reverse_fine {L : Int} {w : List Int} (h : Fine L w) : Fine L w.reverse :=
  ⟨h.1, by rw [List.length_reverse]; exact h.2.1, fun a ha => h.2.2 a (List.mem_reverse.1 ha)⟩
theorem onlyOut_ok {L : Int} {w : List Int} {s : Int} (h : Fine L w) (hs : setOk L s) : onlyOut L w s = (only s w, 0) := by
  unfold onlyOut; rw [if_pos (chk_iff.2 h), if_pos hs]
theorem onlyOut_zero {L : Int} {w : List Int} {s : Int} (h : (onlyOut L w s).2 = 0) : Fine L w ∧ setOk L s := by
  unfold onlyOut at h
  by_cases h1 : chk L w = 0
  · rw [if_pos h1] at h
    by_cases h2 : setOk L s
    · exact ⟨chk_iff.1 h1, h2⟩
    · rw [if_neg h2] at h; simp at h
  · rw [if_neg h1] at h; exact absurd h h1
theorem onlyOut_bad {L : Int} {w : List Int} {s : Int} (h : (onlyOut L w s).2 ≠ 0) : (onlyOut L w s).1 = [] := by
  unfold onlyOut at *
  split at h
  · split at h
    · simp at h
    · rw [if_pos (by assumption), if_neg (by assumption)]
  · rw [if_neg (by assumption)]

/-! ### the places of the loops -/
theorem only_step (s : Int) {w : List Int} {k : Nat} (hk : k < w.length) : only s (w.take (k + 1)) = if has s w[k] then only s (w.take k) ++ [w[k]] else only s (w.take k) := by
  rw [← List.take_append_getElem hk]
  unfold only
  rw [List.filter_append]
  by_cases h : has s w[k] = true <;> simp [h]
/-- The row of a mirror that is being stored. -/
def Mir (z l : List Int) (k : Nat) : Prop := l.length = z.length ∧ ∀ j, z.length - k ≤ j → j < z.length → l[j]? = z[z.length - 1 - j]?
theorem mir_start (z : List Int) : Mir z (List.replicate z.length 0) 0 := ⟨by simp, fun j h1 h2 => by omega⟩
theorem mir_step {z l : List Int} {k : Nat} (h : Mir z l k) (hk : k < z.length) : Mir z (l.set (z.length - 1 - k) z[k]) (k + 1) := by
  refine ⟨by rw [List.length_set]; exact h.1, fun j h1 h2 => ?_⟩
  rw [List.getElem?_set]
  split
  · rename_i e
    subst e
    rw [if_pos (by rw [h.1]; omega), show z.length - 1 - (z.length - 1 - k) = k by omega, List.getElem?_eq_getElem hk]
  · exact h.2 j (by omega) h2
theorem mir_end {z l : List Int} (h : Mir z l z.length) : l = z.reverse := by
  apply List.ext_getElem?
  intro j
  rcases Nat.lt_or_ge j z.length with hj | hj
  · rw [h.2 j (by omega) hj, List.getElem?_reverse (by omega)]
  · rw [List.getElem?_eq_none (by rw [h.1]; omega), List.getElem?_eq_none (by simpa using hj)]

/-! ### what is left of a word -/
theorem sub_hit {v w : List Int} {i k : Nat} (hi : i < v.length) (hk : k < w.length) (he : v[i] = w[k]) : (v.drop (i + 1)).isSublist (w.drop (k + 1)) = (v.drop i).isSublist (w.drop k) := by
  rw [List.drop_eq_getElem_cons hi, List.drop_eq_getElem_cons hk]
  simp [List.isSublist, he]
theorem sub_miss {v w : List Int} {i k : Nat} (hi : i < v.length) (hk : k < w.length) (he : ¬ v[i] = w[k]) : (v.drop i).isSublist (w.drop (k + 1)) = (v.drop i).isSublist (w.drop k) := by
  rw [List.drop_eq_getElem_cons hi, List.drop_eq_getElem_cons hk]
  simp [List.isSublist, he]
theorem sub_over {v w : List Int} {i k : Nat} (hi : v.length ≤ i) : (v.drop i).isSublist (w.drop k) = true := by
  rw [List.drop_of_length_le hi]; simp [List.isSublist]
theorem sub_end {v w : List Int} {i k : Nat} (hk : w.length ≤ k) : (v.drop i).isSublist (w.drop k) = decide (v.length ≤ i) := by
  rw [List.drop_of_length_le hk]
  rcases Nat.lt_or_ge i v.length with hi | hi
  · rw [List.drop_eq_getElem_cons hi]; simp [List.isSublist]; omega
  · rw [List.drop_of_length_le hi]; simp [List.isSublist]; omega
/-- The place in Sub's loop. -/
def At (v w : List Int) (i k : Nat) : Prop := (v.drop i).isSublist (w.drop k) = v.isSublist w
theorem at_start (v w : List Int) : At v w 0 0 := rfl

/-! ### which is ahead -/
/-- Of two words of one length: the lesser letter first. -/
def lx : List Int → List Int → Bool
  | a :: v, b :: w => if a = b then lx v w else decide (a < b)
  | _, _ => false
def lss (v w : List Int) : Bool := if v.length = w.length then lx v w else decide (v.length < w.length)
theorem lx_same {v w : List Int} {k : Nat} (hv : k < v.length) (hw : k < w.length) (he : v[k] = w[k]) : lx (v.drop (k + 1)) (w.drop (k + 1)) = lx (v.drop k) (w.drop k) := by
  rw [List.drop_eq_getElem_cons hv, List.drop_eq_getElem_cons hw, lx, if_pos he]
theorem lx_diff {v w : List Int} {k : Nat} (hv : k < v.length) (hw : k < w.length) (he : ¬ v[k] = w[k]) : lx (v.drop k) (w.drop k) = decide (v[k] < w[k]) := by
  rw [List.drop_eq_getElem_cons hv, List.drop_eq_getElem_cons hw, lx, if_neg he]
theorem lx_end {v w : List Int} {k : Nat} (hv : v.length ≤ k) : lx (v.drop k) (w.drop k) = false := by
  rw [List.drop_of_length_le hv]; rfl
def subOut (L : Int) (v w : List Int) : Bool × Nat := if chk2 L v w = 0 then (v.isSublist w, 0) else (false, chk2 L v w)
def lessOut (L : Int) (v w : List Int) : Bool × Nat := if chk2 L v w = 0 then (lss v w, 0) else (false, chk2 L v w)
theorem lx_irr : ∀ v : List Int, lx v v = false
  | [] => rfl
  | a :: v => by rw [lx, if_pos rfl]; exact lx_irr v
theorem lx_asym : ∀ v w : List Int, lx v w = true → lx w v = false
  | [], [], h => by cases h
  | [], _ :: _, h => by cases h
  | _ :: _, [], h => by cases h
  | a :: v, b :: w, h => by
    rw [lx] at h ⊢
    by_cases e : a = b
    · rw [if_pos e] at h; rw [if_pos e.symm]; exact lx_asym v w h
    · rw [if_neg e] at h; rw [if_neg (fun h => e h.symm)]; simp at h ⊢; omega
theorem lx_total : ∀ v w : List Int, v.length = w.length → lx v w = false → lx w v = false → v = w
  | [], [], _, _, _ => rfl
  | [], _ :: _, h, _, _ => by simp at h
  | _ :: _, [], h, _, _ => by simp at h
  | a :: v, b :: w, hl, h1, h2 => by
    rw [lx] at h1 h2
    by_cases e : a = b
    · rw [if_pos e] at h1; rw [if_pos e.symm] at h2
      rw [e, lx_total v w (by simpa using hl) h1 h2]
    · rw [if_neg e] at h1; rw [if_neg (fun h => e h.symm)] at h2
      simp at h1 h2; omega
theorem lx_trans : ∀ u v w : List Int, lx u v = true → lx v w = true → lx u w = true
  | [], [], _, h, _ => by cases h
  | [], _ :: _, _, h, _ => by cases h
  | _ :: _, [], _, h, _ => by cases h
  | _ :: _, _ :: _, [], _, h => by cases h
  | a :: u, b :: v, c :: w, h1, h2 => by
    rw [lx] at h1 h2 ⊢
    by_cases e1 : a = b
    · rw [if_pos e1] at h1
      by_cases e2 : b = c
      · rw [if_pos e2] at h2; rw [if_pos (e1.trans e2)]; exact lx_trans u v w h1 h2
      · rw [if_neg e2] at h2; rw [if_neg (by omega)]; simp at h2 ⊢; omega
    · rw [if_neg e1] at h1
      by_cases e2 : b = c
      · rw [if_pos e2] at h2; rw [if_neg (by omega)]; simp at h1 ⊢; omega
      · rw [if_neg e2] at h2; simp at h1 h2; rw [if_neg (by omega)]; simp; omega
theorem lss_asym {v w : List Int} (h : lss v w = true) : lss w v = false := by
  unfold lss at *
  by_cases e : v.length = w.length
  · rw [if_pos e] at h; rw [if_pos e.symm]; exact lx_asym v w h
  · rw [if_neg e] at h; rw [if_neg (fun h => e h.symm)]; simp at h ⊢; omega
theorem lss_irr (v : List Int) : lss v v = false := by unfold lss; rw [if_pos rfl]; exact lx_irr v
theorem lss_total {v w : List Int} (h1 : lss v w = false) (h2 : lss w v = false) : v = w := by
  unfold lss at *
  by_cases e : v.length = w.length
  · rw [if_pos e] at h1; rw [if_pos e.symm] at h2; exact lx_total v w e h1 h2
  · rw [if_neg e] at h1; rw [if_neg (fun h => e h.symm)] at h2; simp at h1 h2; omega
theorem lss_trans {u v w : List Int} (h1 : lss u v = true) (h2 : lss v w = true) : lss u w = true := by
  unfold lss at *
  by_cases e1 : u.length = v.length
  · rw [if_pos e1] at h1
    by_cases e2 : v.length = w.length
    · rw [if_pos e2] at h2; rw [if_pos (e1.trans e2)]; exact lx_trans u v w h1 h2
    · rw [if_neg e2] at h2; rw [if_neg (by omega)]; simp at h2 ⊢; omega
  · rw [if_neg e1] at h1
    by_cases e2 : v.length = w.length
    · rw [if_neg (by omega)]; simp at h1 ⊢; omega
    · rw [if_neg e2] at h2; simp at h1 h2; rw [if_neg (by omega)]; simp; omega
theorem lss_sub {v w : List Int} (h : v.Sublist w) : lss w v = false := by
  unfold lss
  have hl := h.length_le
  by_cases e : w.length = v.length
  · rw [if_pos e, h.eq_of_length e.symm]; exact lx_irr w
  · rw [if_neg e]; simp; omega
theorem sub_len {v w : List Int} (h : v.isSublist w = true) : v.length ≤ w.length := (List.isSublist_iff_sublist.1 h).length_le
end Go.Proofs.YtaelgnmklepebaaDoor.Wo
