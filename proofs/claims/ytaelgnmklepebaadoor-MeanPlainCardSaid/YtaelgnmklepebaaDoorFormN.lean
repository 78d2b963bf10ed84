/- Plain mathematics of formulas: what is wrong with one; its text; a text written is read back. -/
import Derived.Test.YtaelgnmklepebaaDoorFormM
namespace Go.Proofs.YtaelgnmklepebaaDoor.Fm

/-! ### what is wrong with a formula -/
def ops (k : Int) : Int := if k = 3 ∨ k = 6 ∨ k = 7 then 1 else if k = 4 ∨ k = 5 ∨ k = 8 ∨ k = 9 then 2 else 0
def inR (L : Int) (n : Nd) : Bool := if n.1 = 2 then decide (0 ≤ n.2.1) && decide (n.2.1 < 2 ^ L.toNat) else decide (0 ≤ n.1) && decide (n.1 ≤ 9)
def fits (i : Nat) (x : Int) (has : Bool) : Bool := if has then decide (0 ≤ x) && decide (x < (i : Int)) else decide (x = 0)
def shp (i : Nat) (n : Nd) : Bool := (decide (n.1 = 2) || fits i n.2.1 (decide (1 ≤ ops n.1))) && fits i n.2.2 (decide (ops n.1 = 2))
def nerr (L : Int) (i : Nat) (n : Nd) : Nat := if inR L n then (if shp i n then 0 else 3) else 1
def fscan (L : Int) : Nat → List Nd → Nat
  | _, [] => 0
  | i, n :: r => if nerr L i n = 0 then fscan L (i + 1) r else nerr L i n
def fchk (L : Int) (f : List Nd) : Nat := if L < 1 ∨ 6 < L then 1 else if f.length = 0 then 3 else if 40 < f.length then 4 else fscan L 0 f
/-- A node that is well made at place i. -/
structure NdGood (L : Int) (i : Nat) (n : Nd) : Prop where
  k0 : 0 ≤ n.1
  k9 : n.1 ≤ 9
  set : n.1 = 2 → 0 ≤ n.2.1 ∧ n.2.1 < 2 ^ L.toNat
  a0 : n.1 ≠ 2 → ops n.1 = 0 → n.2.1 = 0
  a1 : 1 ≤ ops n.1 → 0 ≤ n.2.1 ∧ n.2.1 < (i : Int)
  b0 : ops n.1 ≠ 2 → n.2.2 = 0
  b2 : ops n.1 = 2 → 0 ≤ n.2.2 ∧ n.2.2 < (i : Int)
theorem ops_range (k : Int) : ops k = 0 ∨ ops k = 1 ∨ ops k = 2 := by
  unfold ops
  split
  · simp
  · split <;> simp
theorem ops_two : ops 2 = 0 := by decide
theorem nerr_iff {L : Int} {i : Nat} {n : Nd} : nerr L i n = 0 ↔ NdGood L i n := by
  obtain ⟨k, a, b⟩ := n
  unfold nerr
  have hr := ops_range k
  constructor
  · intro h
    by_cases h1 : inR L (k, a, b) = true
    · rw [if_pos h1] at h
      by_cases h2 : shp i (k, a, b) = true
      · simp only [shp, fits, Bool.and_eq_true, Bool.or_eq_true, decide_eq_true_eq] at h2
        simp only [inR] at h1
        obtain ⟨p, q⟩ := h2
        by_cases hk : k = 2
        · subst hk
          simp only [if_true, Bool.and_eq_true, decide_eq_true_eq] at h1
          simp only [ops_two] at q
          rw [if_neg (by decide)] at q
          exact ⟨by show (0 : Int) ≤ 2; decide, by show (2 : Int) ≤ 9; decide, fun _ => h1, fun e => absurd rfl e, fun e => absurd e (by simp [ops_two]), fun _ => by simpa using q, fun e => absurd e (by simp [ops_two])⟩
        · rw [if_neg hk] at h1
          simp only [Bool.and_eq_true, decide_eq_true_eq] at h1
          rcases p with p | p
          · exact absurd p hk
          refine ⟨h1.1, h1.2, fun e => absurd e hk, fun _ e => ?_, fun e => ?_, fun e => ?_, fun e => ?_⟩
          · rw [if_neg (by simp only at e ⊢; omega)] at p; simpa using p
          · rw [if_pos (by simp only at e ⊢; omega)] at p; simpa using p
          · rw [if_neg (by simp only at e ⊢; omega)] at q; simpa using q
          · rw [if_pos (by simp only at e ⊢; omega)] at q; simpa using q
      · rw [if_neg h2] at h; cases h
    · rw [if_neg h1] at h; cases h
  · intro g
    have h1 : inR L (k, a, b) = true := by
      simp only [inR]
      by_cases hk : k = 2
      · rw [if_pos hk]; simpa using g.set hk
      · rw [if_neg hk]; have := g.k0; have := g.k9; simp_all
    have h2 : shp i (k, a, b) = true := by
      simp only [shp, fits, Bool.and_eq_true, Bool.or_eq_true, decide_eq_true_eq]
      refine ⟨?_, ?_⟩
      · by_cases hk : k = 2
        · exact .inl hk
        · right
          by_cases ho : 1 ≤ ops k
          · rw [if_pos ho]; simpa using g.a1 ho
          · rw [if_neg ho]; have := g.a0 hk (by simp only; omega); simpa using this
      · by_cases ho : ops k = 2
        · rw [if_pos ho]; simpa using g.b2 ho
        · rw [if_neg ho]; have := g.b0 ho; simpa using this
    rw [if_pos h1, if_pos h2]
theorem nerr_cases (L : Int) (i : Nat) (n : Nd) : nerr L i n = 0 ∨ nerr L i n = 1 ∨ nerr L i n = 3 := by
  unfold nerr
  split
  · split <;> simp
  · simp
theorem snoc_ind {α : Type} {p : List α → Prop} (h0 : p []) (h1 : ∀ l a, p l → p (l ++ [a])) (l : List α) : p l := by
  have : p l.reverse.reverse := by
    induction l.reverse with
    | nil => exact h0
    | cons a l ih => rw [List.reverse_cons]; exact h1 _ _ ih
  rwa [List.reverse_reverse] at this
theorem fscan_good {L : Int} : ∀ (f : List Nd) (i : Nat), fscan L i f = 0 → ∀ j n, f[j]? = some n → NdGood L (i + j) n
  | [], i, _, j, n, h => by simp at h
  | m :: f, i, h, j, n, hj => by
    simp only [fscan] at h
    by_cases h0 : nerr L i m = 0
    · rw [if_pos h0] at h
      rcases j with _ | j
      · simp at hj; subst hj; exact nerr_iff.1 h0
      · have := fscan_good f (i + 1) h j n (by simpa using hj)
        rwa [show i + 1 + j = i + (j + 1) by omega] at this
    · rw [if_neg h0] at h; exact absurd h h0
theorem fscan_of {L : Int} : ∀ (f : List Nd) (i : Nat), (∀ j n, f[j]? = some n → NdGood L (i + j) n) → fscan L i f = 0
  | [], i, _ => rfl
  | m :: f, i, h => by
    simp only [fscan]
    rw [if_pos (nerr_iff.2 (by simpa using h 0 m rfl))]
    exact fscan_of f (i + 1) fun j n hj => by have := h (j + 1) n (by simpa using hj); rwa [show i + (j + 1) = i + 1 + j by omega] at this
/-- A formula without fault. -/
structure FGood (L : Int) (f : List Nd) : Prop where
  l1 : 1 ≤ L
  l6 : L ≤ 6
  ne : 0 < f.length
  le : f.length ≤ 40
  nd : ∀ j n, f[j]? = some n → NdGood L j n
theorem fchk_iff {L : Int} {f : List Nd} : fchk L f = 0 ↔ FGood L f := by
  unfold fchk
  constructor
  · intro h
    split at h
    · cases h
    · split at h
      · cases h
      · split at h
        · cases h
        · exact ⟨by omega, by omega, by omega, by omega, fun j n hj => by have := fscan_good f 0 h j n hj; rwa [Nat.zero_add] at this⟩
  · intro g
    have := g.l1; have := g.l6; have := g.ne; have := g.le
    rw [if_neg (by omega), if_neg (by omega), if_neg (by omega)]
    exact fscan_of f 0 fun j n hj => by rw [Nat.zero_add]; exact g.nd j n hj
theorem fscan_cases (L : Int) : ∀ (f : List Nd) (i : Nat), fscan L i f = 0 ∨ fscan L i f = 1 ∨ fscan L i f = 3
  | [], i => .inl rfl
  | m :: f, i => by
    simp only [fscan]
    split
    · exact fscan_cases L f (i + 1)
    · exact nerr_cases L i m
theorem fscan_at {L : Int} {f : List Nd} {i : Nat} {n : Nd} (h : f[i]? = some n) : fscan L i (f.drop i) = if nerr L i n = 0 then fscan L (i + 1) (f.drop (i + 1)) else nerr L i n := by
  obtain ⟨hi, rfl⟩ := List.getElem?_eq_some_iff.1 h
  rw [List.drop_eq_getElem_cons hi]
  rfl
theorem fscan_end (L : Int) (f : List Nd) : fscan L f.length (f.drop f.length) = 0 := by rw [List.drop_length]; rfl

/-! ### texts -/
def sgs : List UInt8 := [116, 102, 91, 33, 38, 124, 88, 87, 85, 82]
def sgn (k : Nat) : UInt8 := sgs.getD k 0
def bitsOf (v : Nat) : List Nat := (List.range 6).filter fun a => v.testBit a
def one (n : Nd) (l : List (List UInt8)) : List UInt8 :=
  if n.1 = 2 then setText (bitsOf n.2.1.toNat)
  else if ops n.1 = 1 then sgn n.1.toNat :: l.getD n.2.1.toNat []
  else if ops n.1 = 2 then 40 :: (l.getD n.2.1.toNat [] ++ sgn n.1.toNat :: (l.getD n.2.2.toNat [] ++ [41]))
  else [sgn n.1.toNat]
def texts (f : List Nd) : List (List UInt8) := f.foldl (fun l n => l ++ [one n l]) []
theorem texts_snoc (f : List Nd) (n : Nd) : texts (f ++ [n]) = texts f ++ [one n (texts f)] := by simp [texts]
theorem texts_more (f g : List Nd) : ∃ m, texts (f ++ g) = texts f ++ m ∧ m.length = g.length := by
  refine snoc_ind (α := Nd) (p := fun g => ∃ m, texts (f ++ g) = texts f ++ m ∧ m.length = g.length) ⟨[], by simp, rfl⟩ ?_ g
  rintro g n ⟨m, h1, h2⟩
  refine ⟨m ++ [one n (texts (f ++ g))], ?_, by simp [h2]⟩
  rw [← List.append_assoc, texts_snoc, h1, List.append_assoc]
theorem texts_length (f : List Nd) : (texts f).length = f.length := by
  obtain ⟨m, h1, h2⟩ := texts_more [] f
  rw [List.nil_append] at h1
  rw [h1, List.length_append, h2]; simp [texts]
theorem texts_take (f : List Nd) (i : Nat) (hi : i ≤ f.length) : texts (f.take i) = (texts f).take i := by
  obtain ⟨m, h1, h2⟩ := texts_more (f.take i) (f.drop i)
  rw [List.take_append_drop] at h1
  have hl : (texts (f.take i)).length = i := by rw [texts_length, List.length_take]; omega
  generalize texts (f.take i) = T at *
  rw [h1, List.take_append_of_le_length (by omega), List.take_of_length_le (by omega)]
theorem getD_take {α : Type} {l : List α} {i j : Nat} {d : α} (h : j < i) : (l.take i).getD j d = l.getD j d := by
  rw [List.getD_eq_getElem?_getD, List.getD_eq_getElem?_getD, List.getElem?_take_of_lt h]
theorem one_take {L : Int} {i : Nat} {n : Nd} (g : NdGood L i n) (l : List (List UInt8)) : one n (l.take i) = one n l := by
  unfold one
  split
  · rfl
  · split
    · rename_i h
      have := g.a1 (by omega)
      rw [getD_take (by omega)]
    · split
      · rename_i h
        have := g.a1 (by omega)
        have := g.b2 h
        rw [getD_take (by omega), getD_take (by omega)]
      · rfl
theorem texts_get {L : Int} {f : List Nd} (hg : ∀ j n, f[j]? = some n → NdGood L j n) {i : Nat} {n : Nd} (h : f[i]? = some n) : (texts f)[i]? = some (one n (texts f)) := by
  obtain ⟨hi, hn⟩ := List.getElem?_eq_some_iff.1 h
  have h1 := texts_snoc (f.take i) n
  rw [← hn, List.take_append_getElem hi, texts_take f (i + 1) (by omega), texts_take f i (by omega), hn, one_take (hg i n h)] at h1
  have h2 : ((texts f).take (i + 1))[i]? = some (one n (texts f)) := by
    rw [h1, List.getElem?_append_right (by simp; omega)]
    rw [List.length_take, texts_length, Nat.min_eq_left (by omega), Nat.sub_self]; rfl
  rwa [List.getElem?_take_of_lt (by omega)] at h2
/-- The text of node i. -/
def txt (f : List Nd) (i : Nat) : List UInt8 := (texts f).getD i []
theorem txt_eq {L : Int} {f : List Nd} (hg : ∀ j n, f[j]? = some n → NdGood L j n) {i : Nat} {n : Nd} (h : f[i]? = some n) : txt f i = one n (texts f) := by
  rw [txt, List.getD_eq_getElem?_getD, texts_get hg h]; rfl
/-- The whole text. -/
def ftxt (f : List Nd) : List UInt8 := txt f (f.length - 1)

/-- The letters of a set below k. -/
def bitsTo (v k : Nat) : List UInt8 := ((List.range k).filter fun a => v.testBit a).map dg
theorem bitsTo_yes {v k : Nat} (h : v.testBit k = true) : bitsTo v (k + 1) = bitsTo v k ++ [dg k] := by simp [bitsTo, List.range_succ, List.filter_append, h]
theorem bitsTo_no {v k : Nat} (h : v.testBit k = false) : bitsTo v (k + 1) = bitsTo v k := by simp [bitsTo, List.range_succ, List.filter_append, h]
theorem bitsTo_len (v k : Nat) : (bitsTo v k).length ≤ k := by
  unfold bitsTo
  rw [List.length_map]
  exact Nat.le_trans (List.length_filter_le _ _) (by simp)
theorem bitsTo_mono {v k : Nat} (h : k ≤ 6) : (bitsTo v k).length ≤ (bitsTo v 6).length := by
  have : ∀ n j : Nat, (bitsTo v j).length ≤ (bitsTo v (j + n)).length := by
    intro n
    induction n with
    | zero => intro j; exact Nat.le_refl _
    | succ n ih =>
      intro j
      refine Nat.le_trans (ih j) ?_
      rw [← Nat.add_assoc]
      rcases hb : v.testBit (j + n) with _ | _
      · rw [bitsTo_no hb]; exact Nat.le_refl _
      · rw [bitsTo_yes hb]; simp
  have h2 := this (6 - k) k
  rwa [show k + (6 - k) = 6 by omega] at h2
theorem bitsTo_all (v : Nat) : bitsTo v 6 = (bitsOf v).map dg := rfl
/-- What Write returns: an error's number, a text. -/
def werr (L : Int) (f : List Nd) : Nat := if fchk L f = 0 then (if (ftxt f).length ≤ 300 then 0 else 4) else fchk L f
def wtext (L : Int) (f : List Nd) : List UInt8 := if fchk L f = 0 ∧ (ftxt f).length ≤ 300 then ftxt f else []
theorem wrote_bad {L : Int} {f : List Nd} (h : fchk L f ≠ 0) : wtext L f = [] ∧ werr L f = fchk L f := by unfold wtext werr; rw [if_neg (fun k => h k.1), if_neg h]; exact ⟨rfl, rfl⟩
theorem wrote_long {L : Int} {f : List Nd} (h : fchk L f = 0) (h2 : 300 < (ftxt f).length) : wtext L f = [] ∧ werr L f = 4 := by unfold wtext werr; rw [if_neg (fun k => by omega), if_pos h, if_neg (by omega)]; exact ⟨rfl, rfl⟩
theorem wrote_ok {L : Int} {f : List Nd} (h : fchk L f = 0) (h2 : (ftxt f).length ≤ 300) : wtext L f = ftxt f ∧ werr L f = 0 := by unfold wtext werr; rw [if_pos ⟨h, h2⟩, if_pos h, if_pos h2]; exact ⟨rfl, rfl⟩

/-! ### the document's answer's table: texts, and which are too long -/
def rone (n : Nd) (l : List (List UInt8 × Bool)) : List UInt8 × Bool :=
  let s := if n.1 = 2 then setText (bitsOf n.2.1.toNat)
    else if ops n.1 = 1 then sgn n.1.toNat :: (l.getD n.2.1.toNat ([], false)).1
    else if ops n.1 = 2 then 40 :: ((l.getD n.2.1.toNat ([], false)).1 ++ sgn n.1.toNat :: ((l.getD n.2.2.toNat ([], false)).1 ++ [41]))
    else [sgn n.1.toNat]
  let m := if ops n.1 = 1 then (l.getD n.2.1.toNat ([], false)).2 else if ops n.1 = 2 then (l.getD n.2.1.toNat ([], false)).2 || (l.getD n.2.2.toNat ([], false)).2 else false
  if 300 < s.length then ([], true) else (s, m)
def rtab (f : List Nd) : List (List UInt8 × Bool) := f.foldl (fun l n => l ++ [rone n l]) []
theorem rtab_snoc (f : List Nd) (n : Nd) : rtab (f ++ [n]) = rtab f ++ [rone n (rtab f)] := by simp [rtab]
theorem rtab_length (f : List Nd) : (rtab f).length = f.length := by
  refine snoc_ind (α := Nd) (p := fun f => (rtab f).length = f.length) rfl ?_ f
  intro f n ih
  rw [rtab_snoc]; simp [ih]
theorem rtab_take_succ {f : List Nd} {i : Nat} {n : Nd} (h : f[i]? = some n) : rtab (f.take (i + 1)) = rtab (f.take i) ++ [rone n (rtab (f.take i))] := by
  obtain ⟨hi, hn⟩ := List.getElem?_eq_some_iff.1 h
  rw [← List.take_append_getElem hi, hn, rtab_snoc]
def Tells (p : List UInt8 × Bool) (t : List UInt8) : Prop := p.2 = decide (300 < t.length) ∧ (p.2 = false → p.1 = t) ∧ p.1.length ≤ 300
theorem setText_short (v : Nat) : (setText (bitsOf v)).length ≤ 8 := by
  have : (bitsOf v).length ≤ 6 := Nat.le_trans (List.length_filter_le _ _) (by simp)
  simp [setText]; omega
theorem rone_tells {L : Int} {i : Nat} {n : Nd} (g : NdGood L i n) {l : List (List UInt8 × Bool)} {m : List (List UInt8)} (hi : i ≤ l.length) (hm : i ≤ m.length)
    (h : ∀ j p t, j < i → l[j]? = some p → m[j]? = some t → Tells p t) : Tells (rone n l) (one n m) := by
  have at_ : ∀ x : Int, 0 ≤ x → x < (i : Int) → Tells (l.getD x.toNat ([], false)) (m.getD x.toNat []) := by
    intro x h0 h1
    have hl : x.toNat < l.length := by omega
    have hm' : x.toNat < m.length := by omega
    rw [List.getD_eq_getElem?_getD, List.getD_eq_getElem?_getD, List.getElem?_eq_getElem hl, List.getElem?_eq_getElem hm']
    exact h _ _ _ (by omega) (List.getElem?_eq_getElem hl) (List.getElem?_eq_getElem hm')
  unfold rone one
  by_cases hk : n.1 = 2
  · rw [if_pos hk, if_pos hk, hk, ops_two]
    have := setText_short n.2.1.toNat
    simp only []
    rw [if_neg (by omega)]
    refine ⟨?_, fun _ => rfl, by simp only; omega⟩
    simp; omega
  rw [if_neg hk, if_neg hk]
  by_cases h1 : ops n.1 = 1
  · rw [if_pos h1, if_pos h1]
    obtain ⟨t1, t2, t3⟩ := at_ _ (g.a1 (by omega)).1 (g.a1 (by omega)).2
    generalize l.getD n.2.1.toNat ([], false) = p at *
    generalize m.getD n.2.1.toNat [] = t at *
    obtain ⟨s, b⟩ := p
    simp only [if_pos h1] at *
    rcases b with _ | _
    · have hs := t2 rfl
      subst hs
      split
      · rename_i hlong
        refine ⟨(decide_eq_true hlong).symm, fun e => (by cases e), by simp⟩
      · rename_i hlong
        exact ⟨(decide_eq_false hlong).symm, fun _ => rfl, by simp only; omega⟩
    · have ht : 300 < t.length := of_decide_eq_true t1.symm
      split
      · exact ⟨(decide_eq_true (by simp; omega)).symm, fun e => (by cases e), by simp⟩
      · rename_i hlong
        exact ⟨(decide_eq_true (by simp; omega)).symm, fun e => (by cases e), by simp only; omega⟩
  rw [if_neg h1, if_neg h1]
  by_cases h2 : ops n.1 = 2
  · rw [if_pos h2, if_pos h2]
    obtain ⟨t1, t2, t3⟩ := at_ _ (g.a1 (by omega)).1 (g.a1 (by omega)).2
    obtain ⟨u1, u2, u3⟩ := at_ _ (g.b2 h2).1 (g.b2 h2).2
    generalize l.getD n.2.1.toNat ([], false) = p at *
    generalize m.getD n.2.1.toNat [] = t at *
    generalize l.getD n.2.2.toNat ([], false) = p' at *
    generalize m.getD n.2.2.toNat [] = t' at *
    obtain ⟨s, b⟩ := p
    obtain ⟨s', b'⟩ := p'
    simp only [if_neg h1, if_pos h2] at *
    rcases b with _ | _
    · have hs := t2 rfl
      subst hs
      rcases b' with _ | _
      · have hs := u2 rfl
        subst hs
        split
        · rename_i hlong
          exact ⟨(decide_eq_true hlong).symm, fun e => (by cases e), by simp⟩
        · rename_i hlong
          exact ⟨(decide_eq_false hlong).symm, fun _ => rfl, by simp only; omega⟩
      · have ht : 300 < t'.length := of_decide_eq_true u1.symm
        split
        · exact ⟨(decide_eq_true (by simp; omega)).symm, fun e => (by cases e), by simp⟩
        · rename_i hlong
          exact ⟨(decide_eq_true (by simp; omega)).symm, fun e => (by cases e), by simp only; omega⟩
    · have ht : 300 < t.length := of_decide_eq_true t1.symm
      split
      · exact ⟨(decide_eq_true (by simp; omega)).symm, fun e => (by cases e), by simp⟩
      · rename_i hlong
        exact ⟨(decide_eq_true (by simp; omega)).symm, fun e => (by cases e), by simp only; omega⟩
  rw [if_neg h2, if_neg h2]
  simp only [if_neg h1, if_neg h2]
  rw [if_neg (by simp)]
  exact ⟨by simp, fun _ => rfl, by simp⟩
theorem rtab_tells {L : Int} {f : List Nd} (hg : ∀ j n, f[j]? = some n → NdGood L j n) : ∀ i ≤ f.length, ∀ j p, j < i → (rtab (f.take i))[j]? = some p → Tells p (txt f j) := by
  intro i
  induction i with
  | zero => intro _ j p h; omega
  | succ i ih =>
    intro hi j p hj hp
    have ih := ih (by omega)
    have hn : f[i]? = some f[i] := List.getElem?_eq_getElem (by omega)
    rw [rtab_take_succ hn] at hp
    have hlen : (rtab (f.take i)).length = i := by rw [rtab_length, List.length_take]; omega
    by_cases hji : j < i
    · rw [List.getElem?_append_left (by omega)] at hp
      exact ih j p hji hp
    · obtain rfl : j = i := by omega
      rw [List.getElem?_append_right (by omega), hlen, Nat.sub_self] at hp
      simp only [List.getElem?_cons_zero, Option.some.injEq] at hp
      subst hp
      rw [txt_eq hg hn]
      refine rone_tells (hg _ _ hn) (by omega) (by rw [texts_length]; omega) fun k q t hk h1 h2 => ?_
      have := ih k q hk h1
      rwa [txt, List.getD_eq_getElem?_getD, h2] at this

/-! ### a text written is read back -/
def Ok (L : Nat) : Tree → Prop
  | .leaf k a => (k = 0 ∧ a = 0) ∨ (k = 1 ∧ a = 0) ∨ (k = 2 ∧ a < 2 ^ L)
  | .un k t => (k = 3 ∨ k = 6 ∨ k = 7) ∧ Ok L t
  | .bin k t u => (k = 4 ∨ k = 5 ∨ k = 8 ∨ k = 9) ∧ Ok L t ∧ Ok L u
def wr : Tree → List UInt8
  | .leaf k a => if k = 2 then setText (bitsOf a) else [sgn k]
  | .un k t => sgn k :: wr t
  | .bin k t u => 40 :: (wr t ++ sgn k :: (wr u ++ [41]))
theorem val_lt {L : Nat} : ∀ {ds : List Nat}, ds.Sublist (List.range L) → val ds < 2 ^ L := by
  induction L with
  | zero => intro ds h; simp at h; subst h; decide
  | succ L ih =>
    intro ds h
    rw [List.range_succ] at h
    obtain ⟨d1, d2, rfl, h1, h2⟩ := List.sublist_append_iff.1 h
    have hv : ∀ a b : List Nat, val (a ++ b) = val a + val b := by
      intro a b
      induction a with
      | nil => simp [val]
      | cons x a ih => simp only [List.cons_append, val, ih]; omega
    have := ih h1
    rw [hv, Nat.pow_succ]
    rcases d2 with _ | ⟨x, d2⟩
    · simp [val]; omega
    · have hx := h2.length_le
      simp at hx
      subst hx
      have := h2.subset (List.mem_singleton.2 rfl)
      simp at this
      subst this
      simp [val]; omega
theorem G_ok {L n : Nat} {s : List UInt8} {t : Tree} (h : G L n s t) : Ok L t := by
  induction h with
  | tt => exact .inl ⟨rfl, rfl⟩
  | ff => exact .inr (.inl ⟨rfl, rfl⟩)
  | set h => exact .inr (.inr ⟨rfl, val_lt h⟩)
  | un hu _ ih => exact ⟨by rcases hu with ⟨h, _⟩ | ⟨h, _⟩ | ⟨h, _⟩ <;> simp [h], ih⟩
  | par _ ih => exact ih
  | la1 _ ih => exact ih
  | la2 hu _ _ ih1 ih2 => exact ⟨by rcases hu with ⟨h, _⟩ | ⟨h, _⟩ <;> simp [h], ih1, ih2⟩
  | bo1 _ ih => exact ih
  | bo2 _ _ ih1 ih2 => exact ⟨.inl rfl, ih1, ih2⟩
  | ei1 _ ih => exact ih
  | ei2 _ _ ih1 ih2 => exact ⟨.inr (.inl rfl), ih1, ih2⟩
theorem bits_small {L a : Nat} (hL : 1 ≤ L) (hL6 : L ≤ 6) (ha : a < 2 ^ L) : (bitsOf a).Sublist (List.range L) ∧ val (bitsOf a) = a := by
  have hh : ∀ L < 7, ∀ a < 64, a < 2 ^ L → (bitsOf a).isSublist (List.range L) = true ∧ val (bitsOf a) = a := by decide +kernel
  have h64 : a < 64 := Nat.lt_of_lt_of_le ha (by have := Nat.pow_le_pow_right (n := 2) (by decide) hL6; simpa using this)
  obtain ⟨h1, h2⟩ := hh L (by omega) a h64 ha
  exact ⟨List.isSublist_iff_sublist.1 h1, h2⟩
theorem wr_reads {L : Nat} (hL : 1 ≤ L) (hL6 : L ≤ 6) : ∀ {t : Tree}, Ok L t → G L 0 (wr t) t
  | .leaf k a, h => by
    rcases h with ⟨rfl, rfl⟩ | ⟨rfl, rfl⟩ | ⟨rfl, h⟩
    · exact .tt
    · exact .ff
    · obtain ⟨h1, h2⟩ := bits_small hL hL6 h
      have := G.set h1
      rw [h2] at this
      exact this
  | .un k t, h => by
    have ih := wr_reads hL hL6 h.2
    rcases h.1 with rfl | rfl | rfl
    · exact .un (.inl ⟨rfl, rfl⟩) ih
    · exact .un (.inr (.inl ⟨rfl, rfl⟩)) ih
    · exact .un (.inr (.inr ⟨rfl, rfl⟩)) ih
  | .bin k t u, h => by
    have h1 := wr_reads hL hL6 h.2.1
    have h2 := wr_reads hL hL6 h.2.2
    have e : wr (.bin k t u) = 40 :: ((wr t ++ sgn k :: wr u) ++ [41]) := by simp [wr]
    rw [e]
    rcases h.1 with rfl | rfl | rfl | rfl
    · exact .par (.ei1 (.bo2 (.bo1 (.la1 h1)) (.la1 h2)))
    · exact .par (.ei2 (.ei1 (.bo1 (.la1 h1))) (.bo1 (.la1 h2)))
    · exact .par (.ei1 (.bo1 (.la2 (.inl ⟨rfl, rfl⟩) h1 (.la1 h2))))
    · exact .par (.ei1 (.bo1 (.la2 (.inr ⟨rfl, rfl⟩) h1 (.la1 h2))))
theorem bits_dg {a d : Nat} (h : d ∈ bitsOf a) : d < 6 := by
  have := (List.mem_filter.1 h).1
  simpa using this
theorem wr_noblank : ∀ {L : Nat} {t : Tree}, Ok L t → ∀ c ∈ wr t, c ≠ 32
  | L, .leaf k a, h => by
    intro c hc
    simp only [wr] at hc
    split at hc
    · simp only [setText, List.mem_cons, List.mem_append, List.mem_map, List.not_mem_nil, or_false] at hc
      rcases hc with rfl | ⟨d, hd, rfl⟩ | rfl
      · decide
      · have := bits_dg hd
        have : d = 0 ∨ d = 1 ∨ d = 2 ∨ d = 3 ∨ d = 4 ∨ d = 5 := by omega
        rcases this with rfl | rfl | rfl | rfl | rfl | rfl <;> decide
      · decide
    · rcases h with ⟨rfl, _⟩ | ⟨rfl, _⟩ | ⟨rfl, _⟩
      · simp at hc; subst hc; decide
      · simp at hc; subst hc; decide
      · rename_i h; exact absurd rfl h
  | L, .un k t, h => by
    intro c hc
    simp only [wr, List.mem_cons] at hc
    rcases hc with rfl | hc
    · rcases h.1 with rfl | rfl | rfl <;> decide
    · exact wr_noblank h.2 c hc
  | L, .bin k t u, h => by
    intro c hc
    simp only [wr, List.mem_cons, List.mem_append, List.not_mem_nil, or_false] at hc
    rcases hc with rfl | hc | rfl | hc | rfl
    · decide
    · exact wr_noblank h.2.1 c hc
    · rcases h.1 with rfl | rfl | rfl | rfl <;> decide
    · exact wr_noblank h.2.2 c hc
    · decide
theorem flat_ne (t : Tree) (f : List Nd) : 0 < (flat t f).length := by rw [flat_length]; have := t.size_pos; omega
theorem flat_more : ∀ (t : Tree) (f : List Nd), ∃ m, flat t f = f ++ m
  | .leaf k a, f => ⟨_, rfl⟩
  | .un k t, f => by obtain ⟨m, h⟩ := flat_more t f; exact ⟨m ++ [((k : Int), (((f ++ m).length - 1 : Nat) : Int), 0)], by simp only [flat, h, List.append_assoc]⟩
  | .bin k t u, f => by
    obtain ⟨m, h⟩ := flat_more t f
    obtain ⟨m2, h2⟩ := flat_more u (flat t f)
    refine ⟨m ++ (m2 ++ [((k : Int), (((flat t f).length - 1 : Nat) : Int), (((flat u (flat t f)).length - 1 : Nat) : Int))]), ?_⟩
    simp only [flat]
    rw [← List.append_assoc f m, ← h, ← List.append_assoc, ← h2]
theorem flat_texts {L : Nat} : ∀ (t : Tree) (f : List Nd), Ok L t → txt (flat t f) ((flat t f).length - 1) = wr t
  | .leaf k a, f, h => by
    have e : txt (flat (.leaf k a) f) ((flat (.leaf k a) f).length - 1) = one ((k : Int), (a : Int), 0) (texts f) := by
      simp only [flat, List.length_append, List.length_singleton, Nat.add_sub_cancel, txt, texts_snoc]
      rw [List.getD_eq_getElem?_getD, List.getElem?_append_right (by rw [texts_length]; exact Nat.le_refl _), texts_length, Nat.sub_self]; rfl
    rw [e]
    rcases h with ⟨rfl, rfl⟩ | ⟨rfl, rfl⟩ | ⟨rfl, h⟩
    · rfl
    · rfl
    · simp [one, wr]
  | .un k t, f, h => by
    have ih := flat_texts t f h.2
    have hp := flat_ne t f
    have e : txt (flat (.un k t) f) ((flat (.un k t) f).length - 1) = one ((k : Int), (((flat t f).length - 1 : Nat) : Int), 0) (texts (flat t f)) := by
      simp only [flat, List.length_append, List.length_singleton, Nat.add_sub_cancel, txt, texts_snoc]
      rw [List.getD_eq_getElem?_getD, List.getElem?_append_right (by rw [texts_length]; exact Nat.le_refl _), texts_length, Nat.sub_self]; rfl
    rw [e]
    rw [txt, List.getD_eq_getElem?_getD] at ih
    rcases h.1 with rfl | rfl | rfl <;> simp [one, wr, ops, ih]
  | .bin k t u, f, h => by
    have ih1 := flat_texts t f h.2.1
    have ih2 := flat_texts u (flat t f) h.2.2
    have hp := flat_ne t f
    have e : txt (flat (.bin k t u) f) ((flat (.bin k t u) f).length - 1) = one ((k : Int), (((flat t f).length - 1 : Nat) : Int), (((flat u (flat t f)).length - 1 : Nat) : Int)) (texts (flat u (flat t f))) := by
      simp only [flat, List.length_append, List.length_singleton, Nat.add_sub_cancel, txt, texts_snoc]
      rw [List.getD_eq_getElem?_getD, List.getElem?_append_right (by rw [texts_length]; exact Nat.le_refl _), texts_length, Nat.sub_self]; rfl
    rw [e]
    have ih1' : (texts (flat u (flat t f))).getD ((flat t f).length - 1) [] = wr t := by
      obtain ⟨m, hm⟩ := flat_more u (flat t f)
      obtain ⟨m2, h1, _⟩ := texts_more (flat t f) m
      rw [← ih1, hm, h1, txt, List.getD_eq_getElem?_getD, List.getD_eq_getElem?_getD, List.getElem?_append_left (by rw [texts_length]; omega)]
    rw [txt, List.getD_eq_getElem?_getD] at ih2
    rw [List.getD_eq_getElem?_getD] at ih1'
    rcases h.1 with rfl | rfl | rfl | rfl <;> simp [one, wr, ops, ih1', ih2]
theorem good_leaf {L : Int} {i : Nat} {k : Int} (h : k = 0 ∨ k = 1) : NdGood L i (k, 0, 0) := by
  have ho : ops k = 0 := by rcases h with rfl | rfl <;> decide
  exact ⟨by simp only; omega, by simp only; omega, fun e => by simp only at e; omega, fun _ _ => rfl, fun e => by simp only at e; omega, fun _ => rfl, fun e => by simp only at e; omega⟩
theorem good_set {L : Int} {i : Nat} {a : Int} (h0 : 0 ≤ a) (h1 : a < 2 ^ L.toNat) : NdGood L i (2, a, 0) := by
  have ho : ops 2 = 0 := by decide
  exact ⟨by simp only; omega, by simp only; omega, fun _ => ⟨h0, h1⟩, fun e => absurd rfl e, fun e => by simp only at e; omega, fun _ => rfl, fun e => by simp only at e; omega⟩
theorem good_un {L : Int} {i : Nat} {k a : Int} (h : k = 3 ∨ k = 6 ∨ k = 7) (h0 : 0 ≤ a) (h1 : a < (i : Int)) : NdGood L i (k, a, 0) := by
  have ho : ops k = 1 := by rcases h with rfl | rfl | rfl <;> decide
  exact ⟨by simp only; omega, by simp only; omega, fun e => by simp only at e; omega, fun _ e => by simp only at e; omega, fun _ => ⟨h0, h1⟩, fun _ => rfl, fun e => by simp only at e; omega⟩
theorem good_bin {L : Int} {i : Nat} {k a b : Int} (h : k = 4 ∨ k = 5 ∨ k = 8 ∨ k = 9) (h0 : 0 ≤ a) (h1 : a < (i : Int)) (h2 : 0 ≤ b) (h3 : b < (i : Int)) : NdGood L i (k, a, b) := by
  have ho : ops k = 2 := by rcases h with rfl | rfl | rfl | rfl <;> decide
  exact ⟨by simp only; omega, by simp only; omega, fun e => by simp only at e; omega, fun _ e => by simp only at e; omega, fun _ => ⟨h0, h1⟩, fun e => absurd ho e, fun _ => ⟨h2, h3⟩⟩
theorem flat_good {L : Nat} : ∀ (t : Tree) (f : List Nd), Ok L t → (∀ j n, f[j]? = some n → NdGood L j n) → ∀ j n, (flat t f)[j]? = some n → NdGood L j n := by
  have put : ∀ (f : List Nd) (m : Nd), (∀ j n, f[j]? = some n → NdGood L j n) → NdGood L f.length m → ∀ j n, (f ++ [m])[j]? = some n → NdGood L j n := by
    intro f m hf hm j n hj
    by_cases h : j < f.length
    · rw [List.getElem?_append_left h] at hj; exact hf j n hj
    · have h2 := (List.getElem?_eq_some_iff.1 hj).1
      simp at h2
      obtain rfl : j = f.length := by omega
      simp at hj; subst hj; exact hm
  intro t
  induction t with
  | leaf k a =>
    intro f h hf
    refine put f _ hf ?_
    rcases h with ⟨rfl, rfl⟩ | ⟨rfl, rfl⟩ | ⟨rfl, h⟩
    · exact good_leaf (.inl rfl)
    · exact good_leaf (.inr rfl)
    · refine good_set (by omega) ?_
      simp only [Int.toNat_natCast]
      exact_mod_cast h
  | un k t ih =>
    intro f h hf
    have hp := flat_ne t f
    refine put (flat t f) _ (ih f h.2 hf) ?_
    have hk := h.1
    exact good_un (by omega) (by omega) (by omega)
  | bin k t u ih1 ih2 =>
    intro f h hf
    have hp := flat_ne t f
    have hp2 := flat_length u (flat t f)
    have hp3 := u.size_pos
    refine put (flat u (flat t f)) _ (ih2 _ h.2.2 (ih1 f h.2.1 hf)) ?_
    have hk := h.1
    exact good_bin (by omega) (by omega) (by omega) (by omega) (by omega)

/-! ### reading -/
def strip (s : List UInt8) : List UInt8 := s.filter fun c => c != 32
theorem strip_append (s t : List UInt8) : strip (s ++ t) = strip s ++ strip t := List.filter_append ..
theorem strip_none {s : List UInt8} (h : ∀ c ∈ s, c ≠ 32) : strip s = s := List.filter_eq_self.2 fun c hc => by simpa using h c hc
theorem strip_length (s : List UInt8) : (strip s).length ≤ s.length := List.length_filter_le _ _
/-- What is read: an error, or nodes. -/
def Rd (L : Int) (s : List UInt8) (e : Nat) (f : List Nd) : Prop :=
  ((L < 1 ∨ 6 < L) ∧ e = 1 ∧ f = []) ∨ (1 ≤ L ∧ L ≤ 6 ∧ 300 < s.length ∧ e = 4 ∧ f = []) ∨
  (1 ≤ L ∧ L ≤ 6 ∧ s.length ≤ 300 ∧ (∀ t, ¬ G L.toNat 3 (strip s) t) ∧ e = 2 ∧ f = []) ∨
  (1 ≤ L ∧ L ≤ 6 ∧ s.length ≤ 300 ∧ ∃ t, G L.toNat 3 (strip s) t ∧ ((40 < t.size ∧ e = 4 ∧ f = []) ∨ (t.size ≤ 40 ∧ e = 0 ∧ f = flat t [])))
theorem rd_total (L : Int) (s : List UInt8) : ∃ e f, Rd L s e f := by
  by_cases h1 : L < 1 ∨ 6 < L
  · exact ⟨1, [], .inl ⟨h1, rfl, rfl⟩⟩
  by_cases h2 : 300 < s.length
  · exact ⟨4, [], .inr (.inl ⟨by omega, by omega, h2, rfl, rfl⟩)⟩
  by_cases h3 : ∃ t, G L.toNat 3 (strip s) t
  · obtain ⟨t, h3⟩ := h3
    by_cases h4 : 40 < t.size
    · exact ⟨4, [], .inr (.inr (.inr ⟨by omega, by omega, by omega, t, h3, .inl ⟨h4, rfl, rfl⟩⟩))⟩
    · exact ⟨0, flat t [], .inr (.inr (.inr ⟨by omega, by omega, by omega, t, h3, .inr ⟨by omega, rfl, rfl⟩⟩))⟩
  · exact ⟨2, [], .inr (.inr (.inl ⟨by omega, by omega, by omega, fun t ht => h3 ⟨t, ht⟩, rfl, rfl⟩))⟩
/-- As many nodes as letters at most. -/
theorem digs_short2 {L : Nat} {s r : List UInt8} {n : Nat} (h : digs (List.range L) s 0 = (n, r)) : r.length ≤ s.length := digs_short _ _ _ _ _ h
def Szd : Lv → List UInt8 → List UInt8 → Tree → Prop
  | .tb u, s, r, t => t.size + r.length ≤ u.size + s.length
  | .te u, s, r, t => t.size + r.length ≤ u.size + s.length
  | _, s, r, t => t.size + r.length ≤ s.length
theorem Ps_size {L : Nat} {lv : Lv} {s : List UInt8} {x : Option (Tree × List UInt8)} (h : Ps L lv s x) : ∀ t r, x = some (t, r) → Szd lv s r t := by
  induction h with
  | endd => intro t r e; cases e
  | par _ ih => rintro t r e; simp only [Option.some.injEq, Prod.mk.injEq] at e; obtain ⟨rfl, rfl⟩ := e; have := ih _ _ rfl; simp only [Szd, List.length_cons] at this ⊢; omega
  | parBad => intro t r e; cases e
  | parShut => intro t r e; cases e
  | tt => rintro t r e; simp only [Option.some.injEq, Prod.mk.injEq] at e; obtain ⟨rfl, rfl⟩ := e; simp only [Szd, List.length_cons, Tree.size]; omega
  | ff => rintro t r e; simp only [Option.some.injEq, Prod.mk.injEq] at e; obtain ⟨rfl, rfl⟩ := e; simp only [Szd, List.length_cons, Tree.size]; omega
  | set hd => rintro t r e; simp only [Option.some.injEq, Prod.mk.injEq] at e; obtain ⟨rfl, rfl⟩ := e; have := digs_short2 hd; simp only [Szd, List.length_cons, Tree.size] at this ⊢; omega
  | setBad => intro t r e; cases e
  | un _ _ ih => rintro t r e; simp only [Option.some.injEq, Prod.mk.injEq] at e; obtain ⟨rfl, rfl⟩ := e; have := ih _ _ rfl; simp only [Szd, List.length_cons, Tree.size] at this ⊢; omega
  | unBad => intro t r e; cases e
  | other => intro t r e; cases e
  | laBad => intro t r e; cases e
  | la1 _ _ ih => rintro t r e; simp only [Option.some.injEq, Prod.mk.injEq] at e; obtain ⟨rfl, rfl⟩ := e; exact ih _ _ rfl
  | la2 _ _ _ ih1 ih2 => rintro t r e; simp only [Option.some.injEq, Prod.mk.injEq] at e; obtain ⟨rfl, rfl⟩ := e; have h1 := ih1 _ _ rfl; have h2 := ih2 _ _ rfl; simp only [Szd, List.length_cons, Tree.size] at h1 h2 ⊢; omega
  | la2Bad => intro t r e; cases e
  | boBad => intro t r e; cases e
  | bo _ _ ih1 ih2 => rintro t r e; have h1 := ih1 _ _ rfl; have h2 := ih2 _ _ e; simp only [Szd] at h1 h2 ⊢; omega
  | tbEnd => rintro t r e; simp only [Option.some.injEq, Prod.mk.injEq] at e; obtain ⟨rfl, rfl⟩ := e; exact Nat.le_refl _
  | tbBad => intro t r e; cases e
  | tbMore _ _ ih1 ih2 => rintro t r e; have h1 := ih1 _ _ rfl; have h2 := ih2 _ _ e; simp only [Szd, List.length_cons, Tree.size] at h1 h2 ⊢; omega
  | eiBad => intro t r e; cases e
  | ei _ _ ih1 ih2 => rintro t r e; have h1 := ih1 _ _ rfl; have h2 := ih2 _ _ e; simp only [Szd] at h1 h2 ⊢; omega
  | teEnd => rintro t r e; simp only [Option.some.injEq, Prod.mk.injEq] at e; obtain ⟨rfl, rfl⟩ := e; exact Nat.le_refl _
  | teBad => intro t r e; cases e
  | teMore _ _ ih1 ih2 => rintro t r e; have h1 := ih1 _ _ rfl; have h2 := ih2 _ _ e; simp only [Szd, List.length_cons, Tree.size] at h1 h2 ⊢; omega
end Go.Proofs.YtaelgnmklepebaaDoor.Fm
