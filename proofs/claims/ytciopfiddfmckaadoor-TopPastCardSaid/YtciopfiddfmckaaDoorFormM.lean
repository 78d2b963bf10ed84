/- Plain mathematics of formulas: trees, their nodes, the grammar of their texts; two ways to read a text, and that they come to the same. Plain mathematics of formulas: what is wrong with one; its text; a text written is read back. Plain mathematics of what formulas mean: the tree of a node, its value at each place of a word, the form with Not ahead of sets alone. Plain mathematics: the values of all nodes, from one letter to the next, and at the end of the word. -/
import Derived.Test.YtciopfiddfmckaaDoorWords

namespace Go.Proofs.YtciopfiddfmckaaDoor.Fm

inductive Tree where
  | leaf (k a : Nat)
  | un (k : Nat) (t : Tree)
  | bin (k : Nat) (t u : Tree)
/-- A node: its kind, its operands. -/
abbrev Nd := Int × Int × Int
def Tree.size : Tree → Nat
  | .leaf _ _ => 1
  | .un _ t => t.size + 1
  | .bin _ t u => t.size + u.size + 1
/-! ### the grammar -/
def dg (d : Nat) : UInt8 := UInt8.ofNat (48 + d)
def val : List Nat → Nat
  | [] => 0
  | d :: l => 2 ^ d + val l
def Un (k : Nat) (c : UInt8) : Prop := (k = 3 ∧ c = 33) ∨ (k = 6 ∧ c = 88) ∨ (k = 7 ∧ c = 87)
def Ur (k : Nat) (c : UInt8) : Prop := (k = 8 ∧ c = 85) ∨ (k = 9 ∧ c = 82)
def setText (ds : List Nat) : List UInt8 := 91 :: (ds.map dg ++ [93])
inductive G (L : Nat) : Nat → List UInt8 → Tree → Prop where
  | tt : G L 0 [116] (.leaf 0 0)
  | ff : G L 0 [102] (.leaf 1 0)
  | set {ds : List Nat} : ds.Sublist (List.range L) → G L 0 (setText ds) (.leaf 2 (val ds))
  | un {k : Nat} {c : UInt8} {s : List UInt8} {t : Tree} : Un k c → G L 0 s t → G L 0 (c :: s) (.un k t)
  | par {s : List UInt8} {t : Tree} : G L 3 s t → G L 0 (40 :: (s ++ [41])) t
  | la1 {s : List UInt8} {t : Tree} : G L 0 s t → G L 1 s t
  | la2 {k : Nat} {c : UInt8} {s s2 : List UInt8} {t t2 : Tree} : Ur k c → G L 0 s t → G L 1 s2 t2 → G L 1 (s ++ c :: s2) (.bin k t t2)
  | bo1 {s : List UInt8} {t : Tree} : G L 1 s t → G L 2 s t
  | bo2 {s s2 : List UInt8} {t t2 : Tree} : G L 2 s t → G L 1 s2 t2 → G L 2 (s ++ 38 :: s2) (.bin 4 t t2)
  | ei1 {s : List UInt8} {t : Tree} : G L 2 s t → G L 3 s t
  | ei2 {s s2 : List UInt8} {t t2 : Tree} : G L 3 s t → G L 2 s2 t2 → G L 3 (s ++ 124 :: s2) (.bin 5 t t2)
theorem G.up {L : Nat} {s : List UInt8} {t : Tree} (h : G L 0 s t) : G L 3 s t := .ei1 (.bo1 (.la1 h))

/-! ### how deep in brackets -/
def run : Nat → List UInt8 → Option Nat
  | d, [] => some d
  | d, c :: s => if c = 40 then run (d + 1) s else if c = 41 then (if d = 0 then none else run (d - 1) s) else run d s
/-- How loosely a sign binds. -/
def loose (c : UInt8) : Nat := if c = 124 then 3 else if c = 38 then 2 else if c = 85 then 1 else if c = 82 then 1 else 0
theorem Un.plain {k : Nat} {c : UInt8} (h : Un k c) : c ≠ 40 ∧ c ≠ 41 ∧ loose c = 0 := by
  rcases h with ⟨_, rfl⟩ | ⟨_, rfl⟩ | ⟨_, rfl⟩ <;> decide
theorem Ur.plain {k : Nat} {c : UInt8} (h : Ur k c) : c ≠ 40 ∧ c ≠ 41 ∧ loose c = 1 := by
  rcases h with ⟨_, rfl⟩ | ⟨_, rfl⟩ <;> decide
/-- Where it is outside of brackets, no sign that is looser. -/
def Fits (n : Nat) (s : List UInt8) : Prop := ∀ p c q, s = p ++ c :: q → run 0 p = some 0 → loose c ≤ n
theorem Fits.mono {n m : Nat} {s : List UInt8} (h : Fits n s) (hm : n ≤ m) : Fits m s := fun p c q e hp => Nat.le_trans (h p c q e hp) hm
/-- No sign of looseness n outside of brackets, from depth d on. -/
def no (n : Nat) (s : List UInt8) : Prop := ∀ p c q, s = p ++ c :: q → run 0 p = some 0 → loose c ≠ n
theorem Fits.no {n m : Nat} {s : List UInt8} (h : Fits n s) (hm : n < m) : no m s := fun p c q e hp k => by have := h p c q e hp; omega
/-! ### reading from the left: the program's way -/
def Other (c : UInt8) : Prop := c ≠ 40 ∧ c ≠ 116 ∧ c ≠ 102 ∧ c ≠ 91 ∧ c ≠ 33 ∧ c ≠ 88 ∧ c ≠ 87
theorem nodup_range (L : Nat) : (List.range L).Nodup := List.nodup_range

/-! ### cutting at the loosest sign: the reference's way -/
def mk (k : Nat) : Option Tree → Option Tree → Option Tree
  | some t, some u => some (.bin k t u)
  | _, _ => none
def Cutting (k : Nat) (c : UInt8) (p q : List UInt8) : Prop :=
  run 0 p = some 0 ∧ ((k = 5 ∧ c = 124 ∧ no 3 q) ∨ (k = 4 ∧ c = 38 ∧ no 3 (p ++ c :: q) ∧ no 2 q) ∨ (Ur k c ∧ no 3 (p ++ c :: q) ∧ no 2 (p ++ c :: q) ∧ no 1 p))
theorem Cutting.plain {k : Nat} {c : UInt8} {p q : List UInt8} (h : Cutting k c p q) : c ≠ 40 ∧ c ≠ 41 := by
  rcases h.2 with ⟨_, rfl, _⟩ | ⟨_, rfl, _⟩ | ⟨hu, _⟩
  · decide
  · decide
  · exact ⟨hu.plain.1, hu.plain.2.1⟩
end Go.Proofs.YtciopfiddfmckaaDoor.Fm

namespace Go.Proofs.YtciopfiddfmckaaDoor.Fm

/-! ### what is wrong with a formula -/
def ops (k : Int) : Int := if k = 3 ∨ k = 6 ∨ k = 7 then 1 else if k = 4 ∨ k = 5 ∨ k = 8 ∨ k = 9 then 2 else 0
def inR (L : Int) (n : Nd) : Bool := if n.1 = 2 then decide (0 ≤ n.2.1) && decide (n.2.1 < 2 ^ L.toNat) else decide (0 ≤ n.1) && decide (n.1 ≤ 9)
def fits (i : Nat) (x : Int) (has : Bool) : Bool := if has then decide (0 ≤ x) && decide (x < (i : Int)) else decide (x = 0)
def shp (i : Nat) (n : Nd) : Bool := (decide (n.1 = 2) || fits i n.2.1 (decide (1 ≤ ops n.1))) && fits i n.2.2 (decide (ops n.1 = 2))
def nerr (L : Int) (i : Nat) (n : Nd) : Nat := if inR L n then (if shp i n then 0 else 3) else 1
def fscan (L : Int) : Nat → List Nd → Nat
  | _, [] => 0
  | i, n :: r => if nerr L i n = 0 then fscan L (i + 1) r else nerr L i n
def fchk (L : Int) (f : List Nd) : Nat := if L < 1 ∨ 6 < L then 1 else if f.length = 0 then 3 else if 40 < f.length then 4 else fscan L 0 f
/-- A node that is well made at place i. -/
structure NdGood (L : Int) (i : Nat) (n : Nd) : Prop where
  k0 : 0 ≤ n.1
  k9 : n.1 ≤ 9
  set : n.1 = 2 → 0 ≤ n.2.1 ∧ n.2.1 < 2 ^ L.toNat
  a0 : n.1 ≠ 2 → ops n.1 = 0 → n.2.1 = 0
  a1 : 1 ≤ ops n.1 → 0 ≤ n.2.1 ∧ n.2.1 < (i : Int)
  b0 : ops n.1 ≠ 2 → n.2.2 = 0
  b2 : ops n.1 = 2 → 0 ≤ n.2.2 ∧ n.2.2 < (i : Int)
theorem ops_range (k : Int) : ops k = 0 ∨ ops k = 1 ∨ ops k = 2 := by
  unfold ops
  split
  · simp
  · split <;> simp
theorem ops_two : ops 2 = 0 := by decide
theorem nerr_iff {L : Int} {i : Nat} {n : Nd} : nerr L i n = 0 ↔ NdGood L i n := by
  obtain ⟨k, a, b⟩ := n
  unfold nerr
  have hr := ops_range k
  constructor
  · intro h
    by_cases h1 : inR L (k, a, b) = true
    · rw [if_pos h1] at h
      by_cases h2 : shp i (k, a, b) = true
      · simp only [shp, fits, Bool.and_eq_true, Bool.or_eq_true, decide_eq_true_eq] at h2
        simp only [inR] at h1
        obtain ⟨p, q⟩ := h2
        by_cases hk : k = 2
        · subst hk
          simp only [if_true, Bool.and_eq_true, decide_eq_true_eq] at h1
          simp only [ops_two] at q
          rw [if_neg (by decide)] at q
          exact ⟨by show (0 : Int) ≤ 2; decide, by show (2 : Int) ≤ 9; decide, fun _ => h1, fun e => absurd rfl e, fun e => absurd e (by simp [ops_two]), fun _ => by simpa using q, fun e => absurd e (by simp [ops_two])⟩
        · rw [if_neg hk] at h1
          simp only [Bool.and_eq_true, decide_eq_true_eq] at h1
          rcases p with p | p
          · exact absurd p hk
          refine ⟨h1.1, h1.2, fun e => absurd e hk, fun _ e => ?_, fun e => ?_, fun e => ?_, fun e => ?_⟩
          · rw [if_neg (by simp only at e ⊢; omega)] at p; simpa using p
          · rw [if_pos (by simp only at e ⊢; omega)] at p; simpa using p
          · rw [if_neg (by simp only at e ⊢; omega)] at q; simpa using q
          · rw [if_pos (by simp only at e ⊢; omega)] at q; simpa using q
      · rw [if_neg h2] at h; cases h
    · rw [if_neg h1] at h; cases h
  · intro g
    have h1 : inR L (k, a, b) = true := by
      simp only [inR]
      by_cases hk : k = 2
      · rw [if_pos hk]; simpa using g.set hk
      · rw [if_neg hk]; have := g.k0; have := g.k9; simp_all
    have h2 : shp i (k, a, b) = true := by
      simp only [shp, fits, Bool.and_eq_true, Bool.or_eq_true, decide_eq_true_eq]
      refine ⟨?_, ?_⟩
      · by_cases hk : k = 2
        · exact .inl hk
        · right
          by_cases ho : 1 ≤ ops k
          · rw [if_pos ho]; simpa using g.a1 ho
          · rw [if_neg ho]; have := g.a0 hk (by simp only; omega); simpa using this
      · by_cases ho : ops k = 2
        · rw [if_pos ho]; simpa using g.b2 ho
        · rw [if_neg ho]; have := g.b0 ho; simpa using this
    rw [if_pos h1, if_pos h2]
theorem snoc_ind {α : Type} {p : List α → Prop} (h0 : p []) (h1 : ∀ l a, p l → p (l ++ [a])) (l : List α) : p l := by
  have : p l.reverse.reverse := by
    induction l.reverse with
    | nil => exact h0
    | cons a l ih => rw [List.reverse_cons]; exact h1 _ _ ih
  rwa [List.reverse_reverse] at this
theorem fscan_good {L : Int} : ∀ (f : List Nd) (i : Nat), fscan L i f = 0 → ∀ j n, f[j]? = some n → NdGood L (i + j) n
  | [], i, _, j, n, h => by simp at h
  | m :: f, i, h, j, n, hj => by
    simp only [fscan] at h
    by_cases h0 : nerr L i m = 0
    · rw [if_pos h0] at h
      rcases j with _ | j
      · simp at hj; subst hj; exact nerr_iff.1 h0
      · have := fscan_good f (i + 1) h j n (by simpa using hj)
        rwa [show i + 1 + j = i + (j + 1) by omega] at this
    · rw [if_neg h0] at h; exact absurd h h0
theorem fscan_of {L : Int} : ∀ (f : List Nd) (i : Nat), (∀ j n, f[j]? = some n → NdGood L (i + j) n) → fscan L i f = 0
  | [], i, _ => rfl
  | m :: f, i, h => by
    simp only [fscan]
    rw [if_pos (nerr_iff.2 (by simpa using h 0 m rfl))]
    exact fscan_of f (i + 1) fun j n hj => by have := h (j + 1) n (by simpa using hj); rwa [show i + (j + 1) = i + 1 + j by omega] at this
/-- A formula without fault. -/
structure FGood (L : Int) (f : List Nd) : Prop where
  l1 : 1 ≤ L
  l6 : L ≤ 6
  ne : 0 < f.length
  le : f.length ≤ 40
  nd : ∀ j n, f[j]? = some n → NdGood L j n
theorem fchk_iff {L : Int} {f : List Nd} : fchk L f = 0 ↔ FGood L f := by
  unfold fchk
  constructor
  · intro h
    split at h
    · cases h
    · split at h
      · cases h
      · split at h
        · cases h
        · exact ⟨by omega, by omega, by omega, by omega, fun j n hj => by have := fscan_good f 0 h j n hj; rwa [Nat.zero_add] at this⟩
  · intro g
    have := g.l1; have := g.l6; have := g.ne; have := g.le
    rw [if_neg (by omega), if_neg (by omega), if_neg (by omega)]
    exact fscan_of f 0 fun j n hj => by rw [Nat.zero_add]; exact g.nd j n hj
theorem fscan_at {L : Int} {f : List Nd} {i : Nat} {n : Nd} (h : f[i]? = some n) : fscan L i (f.drop i) = if nerr L i n = 0 then fscan L (i + 1) (f.drop (i + 1)) else nerr L i n := by
  obtain ⟨hi, rfl⟩ := List.getElem?_eq_some_iff.1 h
  rw [List.drop_eq_getElem_cons hi]
  rfl
theorem fscan_end (L : Int) (f : List Nd) : fscan L f.length (f.drop f.length) = 0 := by rw [List.drop_length]; rfl

/-! ### texts -/
def sgs : List UInt8 := [116, 102, 91, 33, 38, 124, 88, 87, 85, 82]
def sgn (k : Nat) : UInt8 := sgs.getD k 0
def bitsOf (v : Nat) : List Nat := (List.range 6).filter fun a => v.testBit a
def one (n : Nd) (l : List (List UInt8)) : List UInt8 :=
  if n.1 = 2 then setText (bitsOf n.2.1.toNat)
  else if ops n.1 = 1 then sgn n.1.toNat :: l.getD n.2.1.toNat []
  else if ops n.1 = 2 then 40 :: (l.getD n.2.1.toNat [] ++ sgn n.1.toNat :: (l.getD n.2.2.toNat [] ++ [41]))
  else [sgn n.1.toNat]
def texts (f : List Nd) : List (List UInt8) := f.foldl (fun l n => l ++ [one n l]) []
theorem getD_take {α : Type} {l : List α} {i j : Nat} {d : α} (h : j < i) : (l.take i).getD j d = l.getD j d := by
  rw [List.getD_eq_getElem?_getD, List.getD_eq_getElem?_getD, List.getElem?_take_of_lt h]
/-! ### the document's answer's table: texts, and which are too long -/
/-! ### a text written is read back -/
def wr : Tree → List UInt8
  | .leaf k a => if k = 2 then setText (bitsOf a) else [sgn k]
  | .un k t => sgn k :: wr t
  | .bin k t u => 40 :: (wr t ++ sgn k :: (wr u ++ [41]))
/-! ### reading -/
end Go.Proofs.YtciopfiddfmckaaDoor.Fm

namespace Go.Proofs.YtciopfiddfmckaaDoor.Fm

/-! ### the tree of a node -/
def tone (n : Nd) (l : List Tree) : Tree :=
  if n.1 = 2 then .leaf 2 n.2.1.toNat
  else if ops n.1 = 1 then .un n.1.toNat (l.getD n.2.1.toNat (.leaf 1 0))
  else if ops n.1 = 2 then .bin n.1.toNat (l.getD n.2.1.toNat (.leaf 1 0)) (l.getD n.2.2.toNat (.leaf 1 0))
  else .leaf n.1.toNat 0
def trees (f : List Nd) : List Tree := f.foldl (fun l n => l ++ [tone n l]) []
theorem trees_snoc (f : List Nd) (n : Nd) : trees (f ++ [n]) = trees f ++ [tone n (trees f)] := by simp [trees]
theorem trees_more (f g : List Nd) : ∃ m, trees (f ++ g) = trees f ++ m ∧ m.length = g.length := by
  refine snoc_ind (α := Nd) (p := fun g => ∃ m, trees (f ++ g) = trees f ++ m ∧ m.length = g.length) ⟨[], by simp, rfl⟩ ?_ g
  rintro g n ⟨m, h1, h2⟩
  refine ⟨m ++ [tone n (trees (f ++ g))], ?_, by simp [h2]⟩
  rw [← List.append_assoc, trees_snoc, h1, List.append_assoc]
theorem trees_length (f : List Nd) : (trees f).length = f.length := by
  obtain ⟨m, h1, h2⟩ := trees_more [] f
  rw [List.nil_append] at h1
  rw [h1, List.length_append, h2]; simp [trees]
/-- The tree of node i. -/
def tre (f : List Nd) (i : Nat) : Tree := (trees f).getD i (.leaf 1 0)
theorem tre_more (f g : List Nd) {i : Nat} (h : i < f.length) : tre (f ++ g) i = tre f i := by
  obtain ⟨m, h1, _⟩ := trees_more f g
  rw [tre, tre, h1, List.getD_eq_getElem?_getD, List.getD_eq_getElem?_getD, List.getElem?_append_left (by rw [trees_length]; exact h)]
theorem tre_new (f : List Nd) (n : Nd) : tre (f ++ [n]) f.length = tone n (trees f) := by
  rw [tre, trees_snoc, List.getD_eq_getElem?_getD, List.getElem?_append_right (by rw [trees_length]; exact Nat.le_refl _), trees_length, Nat.sub_self]; rfl
theorem tone_take {L : Int} {i : Nat} {n : Nd} (g : NdGood L i n) (l : List Tree) : tone n (l.take i) = tone n l := by
  unfold tone
  split
  · rfl
  · split
    · rename_i h
      have := g.a1 (by omega)
      rw [getD_take (by omega)]
    · split
      · rename_i h
        have := g.a1 (by omega)
        have := g.b2 h
        rw [getD_take (by omega), getD_take (by omega)]
      · rfl
theorem tre_get {L : Int} {f : List Nd} (hg : ∀ j n, f[j]? = some n → NdGood L j n) {i : Nat} {n : Nd} (h : f[i]? = some n) : tre f i = tone n (trees f) := by
  obtain ⟨hi, hn⟩ := List.getElem?_eq_some_iff.1 h
  obtain ⟨m, h1, _⟩ := trees_more (f.take i) (f.drop i)
  have e1 : tre f i = tre (f.take (i + 1)) i := by
    have := tre_more (f.take (i + 1)) (f.drop (i + 1)) (i := i) (by rw [List.length_take]; omega)
    rwa [List.take_append_drop] at this
  have hl : (f.take i).length = i := by rw [List.length_take]; omega
  have e2 : tre (f.take (i + 1)) i = tone n (trees (f.take i)) := by
    rw [← List.take_append_getElem hi, hn]
    have := tre_new (f.take i) n
    rwa [hl] at this
  rw [List.take_append_drop] at h1
  have hl2 : (trees (f.take i)).length = i := by rw [trees_length, hl]
  have e3 : trees (f.take i) = (trees f).take i := by
    clear e2
    generalize trees (f.take i) = T at *
    rw [h1, List.take_append_of_le_length (by omega), List.take_of_length_le (by omega)]
  rw [e1, e2, e3, tone_take (hg i n h)]
/-! ### values -/
/-- Is there a place from p on (m places are left) where B is as told, and A is at all places from p on ahead of it? -/
def untl (A B : Nat → Bool) (told : Bool) : Nat → Nat → Bool
  | 0, _ => false
  | m + 1, p => (B p == told) || ((A p == told) && untl A B told m (p + 1))
def val1 (w : List Int) : Tree → Nat → Bool
  | .leaf k a, p => if k = 0 then true else if k = 2 then decide (p < w.length) && a.testBit (w.getD p 0).toNat else false
  | .un k t, p => if k = 3 then !val1 w t p else if k = 6 then decide (p < w.length) && val1 w t (p + 1) else decide (w.length ≤ p) || val1 w t (p + 1)
  | .bin k t u, p =>
    if k = 4 then val1 w t p && val1 w u p else if k = 5 then val1 w t p || val1 w u p
    else if k = 8 then untl (val1 w t) (val1 w u) true (w.length - p) p else !untl (val1 w t) (val1 w u) false (w.length - p) p
/-- The value of node i at place p. -/
def vat (f : List Nd) (w : List Int) (i p : Nat) : Bool := val1 w (tre f i) p
theorem untl_shift (A B A' B' : Nat → Bool) (told : Bool) (hA : ∀ p, A' (p + 1) = A p) (hB : ∀ p, B' (p + 1) = B p) : ∀ m p, untl A' B' told m (p + 1) = untl A B told m p
  | 0, _ => rfl
  | m + 1, p => by
    simp only [untl]
    rw [hA, hB, untl_shift A B A' B' told hA hB m]
/-- The word's rest. -/
theorem val_shift (a : Int) (w : List Int) : ∀ (t : Tree) (p : Nat), val1 (a :: w) t (p + 1) = val1 w t p
  | .leaf k b, p => by simp [val1]
  | .un k t, p => by simp [val1, val_shift a w t]
  | .bin k t u, p => by
    simp only [val1, List.length_cons, Nat.add_sub_add_right]
    rw [val_shift a w t, val_shift a w u, untl_shift _ _ _ _ true (val_shift a w t) (val_shift a w u), untl_shift _ _ _ _ false (val_shift a w t) (val_shift a w u)]

/-! ### Not ahead of sets alone -/
/-! ### trees of written nodes -/
/-! ### more nodes behind a formula -/
/-- Until is now, or later. -/
theorem unfold_until (w : List Int) (t u : Tree) {p : Nat} (hp : p < w.length) : val1 w (.bin 8 t u) p = val1 w (.bin 5 u (.bin 4 t (.un 6 (.bin 8 t u)))) p := by
  have e : w.length - p = (w.length - (p + 1)) + 1 := by omega
  simp [val1, e, untl, hp]
theorem unfold_release (w : List Int) (t u : Tree) {p : Nat} (hp : p < w.length) : val1 w (.bin 9 t u) p = val1 w (.bin 4 u (.bin 5 t (.un 7 (.bin 9 t u)))) p := by
  have e : w.length - p = (w.length - (p + 1)) + 1 := by omega
  have h2 : ¬ w.length ≤ p := by omega
  simp [val1, e, untl, h2]

/-! ### more is let, more holds -/
/-! ### what is written is read back -/
/-! ### how many nodes the plain form has -/
end Go.Proofs.YtciopfiddfmckaaDoor.Fm

namespace Go.Proofs.YtciopfiddfmckaaDoor.Fm

/-- The values of all nodes at the beginning. -/
def vec (f : List Nd) (w : List Int) : List Bool := (List.range f.length).map fun i => vat f w i 0
theorem vec_length (f : List Nd) (w : List Int) : (vec f w).length = f.length := by simp [vec]
theorem vec_get (f : List Nd) (w : List Int) {i : Nat} (h : i < f.length) : (vec f w).getD i false = vat f w i 0 := by
  rw [vec, List.getD_eq_getElem?_getD, List.getElem?_map, List.getElem?_range h]; rfl
/-- The new value of node k: l: the new values of the nodes ahead of it, v: the old ones of all. -/
def nodeK (n : Nd) (a : Int) (k : Nat) (l v : List Bool) : Bool :=
  if n.1 = 0 then true
  else if n.1 = 2 then n.2.1.toNat.testBit a.toNat
  else if n.1 = 3 then !l.getD n.2.1.toNat false
  else if n.1 = 4 then l.getD n.2.1.toNat false && l.getD n.2.2.toNat false
  else if n.1 = 5 then l.getD n.2.1.toNat false || l.getD n.2.2.toNat false
  else if n.1 = 6 ∨ n.1 = 7 then v.getD n.2.1.toNat false
  else if n.1 = 8 then l.getD n.2.2.toNat false || (l.getD n.2.1.toNat false && v.getD k false)
  else if n.1 = 9 then l.getD n.2.2.toNat false && (l.getD n.2.1.toNat false || v.getD k false)
  else false
def nodeN (n : Nd) (a : Int) (l v : List Bool) : Bool := nodeK n a l.length l v
def nxt (f : List Nd) (v : List Bool) (a : Int) : List Bool := f.foldl (fun l n => l ++ [nodeN n a l v]) []
theorem nxt_snoc (f : List Nd) (n : Nd) (v : List Bool) (a : Int) : nxt (f ++ [n]) v a = nxt f v a ++ [nodeN n a (nxt f v a) v] := by simp [nxt]
theorem nodeK_ok {L : Int} {f : List Nd} (hg : ∀ j n, f[j]? = some n → NdGood L j n) (a : Int) (w : List Int) {k : Nat} {n : Nd} (hn : f[k]? = some n) {l : List Bool} (hl0 : ∀ i, i < k → l.getD i false = vat f (a :: w) i 0) :
    nodeK n a k l (vec f w) = vat f (a :: w) k 0 := by
  have hk := (List.getElem?_eq_some_iff.1 hn).1
  have gd := hg k n hn
  have hL : ∀ x : Int, 0 ≤ x → x < (k : Int) → l.getD x.toNat false = vat f (a :: w) x.toNat 0 := fun x h0 h1 => hl0 _ (by omega)
  have hV : ∀ x : Int, 0 ≤ x → x < (k : Int) → (vec f w).getD x.toNat false = val1 (a :: w) (tre f x.toNat) 1 := by
    intro x h0 h1
    rw [vec_get f w (by omega), val_shift]; rfl
  have hK : (vec f w).getD k false = vat f w k 0 := vec_get f w hk
  have hU : vat f w k 0 = val1 (a :: w) (tre f k) 1 := by rw [val_shift]; rfl
  have ht := tre_get hg hn
  have hl : ((a :: w).length) = w.length + 1 := rfl
  have h0 := gd.k0
  have h9 := gd.k9
  obtain ⟨kd, x, y⟩ := n
  simp only at h0 h9
  have : kd = 0 ∨ kd = 1 ∨ kd = 2 ∨ kd = 3 ∨ kd = 4 ∨ kd = 5 ∨ kd = 6 ∨ kd = 7 ∨ kd = 8 ∨ kd = 9 := by omega
  have ha : ops kd = 1 ∨ ops kd = 2 → 0 ≤ x ∧ x < (k : Int) := fun h => gd.a1 (by simp only; omega)
  have hb : ops kd = 2 → 0 ≤ y ∧ y < (k : Int) := gd.b2
  show nodeK _ _ _ _ _ = val1 _ (tre f k) 0
  rcases this with rfl | rfl | rfl | rfl | rfl | rfl | rfl | rfl | rfl | rfl
  · rw [ht]; rfl
  · rw [ht]; rfl
  · rw [ht]; simp [nodeK, tone, val1]
  · have h := ha (.inl rfl)
    rw [ht]
    simp only [nodeK, tone, ops, hL x h.1 h.2]
    simp [val1, vat, tre]
  · have h := ha (.inr rfl)
    have h2 := hb rfl
    rw [ht]
    simp only [nodeK, tone, ops, hL x h.1 h.2, hL y h2.1 h2.2]
    simp [val1, vat, tre]
  · have h := ha (.inr rfl)
    have h2 := hb rfl
    rw [ht]
    simp only [nodeK, tone, ops, hL x h.1 h.2, hL y h2.1 h2.2]
    simp [val1, vat, tre]
  · have h := ha (.inl rfl)
    rw [ht]
    simp only [nodeK, tone, ops, hV x h.1 h.2]
    simp [val1, tre]
  · have h := ha (.inl rfl)
    rw [ht]
    simp only [nodeK, tone, ops, hV x h.1 h.2]
    simp [val1, tre]
  · have h := ha (.inr rfl)
    have h2 := hb rfl
    have e : tre f k = .bin 8 (tre f x.toNat) (tre f y.toNat) := by rw [ht]; rfl
    have e2 := unfold_until (a :: w) (tre f x.toNat) (tre f y.toNat) (p := 0) (by simp)
    rw [e] at hU
    rw [e, e2]
    simp only [nodeK, hL x h.1 h.2, hL y h2.1 h2.2, hK, hU]
    simp [val1, vat]
  · have h := ha (.inr rfl)
    have h2 := hb rfl
    have e : tre f k = .bin 9 (tre f x.toNat) (tre f y.toNat) := by rw [ht]; rfl
    have e2 := unfold_release (a :: w) (tre f x.toNat) (tre f y.toNat) (p := 0) (by simp)
    rw [e] at hU
    rw [e, e2]
    simp only [nodeK, hL x h.1 h.2, hL y h2.1 h2.2, hK, hU]
    simp [val1, vat]
theorem nodeN_ok {L : Int} {f : List Nd} (hg : ∀ j n, f[j]? = some n → NdGood L j n) (a : Int) (w : List Int) {k : Nat} {n : Nd} (hn : f[k]? = some n) :
    nodeN n a ((List.range k).map fun i => vat f (a :: w) i 0) (vec f w) = vat f (a :: w) k 0 := by
  have h := nodeK_ok hg a w hn (l := (List.range k).map fun i => vat f (a :: w) i 0) fun i hi => by
    rw [List.getD_eq_getElem?_getD, List.getElem?_map, List.getElem?_range hi]; rfl
  rw [← h, nodeN, List.length_map, List.length_range]
theorem nxt_take {L : Int} {f : List Nd} (hg : ∀ j n, f[j]? = some n → NdGood L j n) (a : Int) (w : List Int) : ∀ k, k ≤ f.length → nxt (f.take k) (vec f w) a = (List.range k).map fun i => vat f (a :: w) i 0 := by
  intro k
  induction k with
  | zero => intro _; rfl
  | succ k ih =>
    intro hk
    have hn : f[k]? = some f[k] := List.getElem?_eq_getElem (by omega)
    rw [← List.take_append_getElem (by omega : k < f.length), nxt_snoc, ih (by omega), List.range_succ, List.map_append, nodeN_ok hg a w hn]
    rfl
/-- The values of a word with one more letter in front, out of those of the word. -/
theorem vec_next {L : Int} {f : List Nd} (hg : ∀ j n, f[j]? = some n → NdGood L j n) (a : Int) (w : List Int) : nxt f (vec f w) a = vec f (a :: w) := by
  have := nxt_take hg a w f.length (Nat.le_refl _)
  rwa [List.take_length] at this

/-! ### the same from any values -/
theorem nxt_more (f g : List Nd) (v : List Bool) (a : Int) : ∃ m, nxt (f ++ g) v a = nxt f v a ++ m ∧ m.length = g.length := by
  induction g generalizing f with
  | nil => exact ⟨[], by simp, rfl⟩
  | cons n g ih =>
    obtain ⟨m, h1, h2⟩ := ih (f ++ [n])
    rw [List.append_assoc, List.singleton_append] at h1
    exact ⟨nodeN n a (nxt f v a) v :: m, by rw [h1, nxt_snoc]; simp, by simp [h2]⟩
theorem nxt_length (f : List Nd) (v : List Bool) (a : Int) : (nxt f v a).length = f.length := by
  obtain ⟨m, h1, h2⟩ := nxt_more [] f v a
  rw [List.nil_append] at h1
  rw [h1]; simpa [nxt] using h2
theorem nodeK_congr {L : Int} {k : Nat} {n : Nd} (gd : NdGood L k n) {l l' : List Bool} (h : ∀ i, i < k → l.getD i false = l'.getD i false) (a : Int) (v : List Bool) : nodeK n a k l v = nodeK n a k l' v := by
  have hL : ∀ x : Int, 0 ≤ x → x < (k : Int) → l.getD x.toNat false = l'.getD x.toNat false := fun x h0 h1 => h _ (by omega)
  have h0 := gd.k0
  have h9 := gd.k9
  obtain ⟨kd, x, y⟩ := n
  simp only at h0 h9
  have : kd = 0 ∨ kd = 1 ∨ kd = 2 ∨ kd = 3 ∨ kd = 4 ∨ kd = 5 ∨ kd = 6 ∨ kd = 7 ∨ kd = 8 ∨ kd = 9 := by omega
  have ha : ops kd = 1 ∨ ops kd = 2 → 0 ≤ x ∧ x < (k : Int) := fun h => gd.a1 (by simp only; omega)
  have hb : ops kd = 2 → 0 ≤ y ∧ y < (k : Int) := gd.b2
  rcases this with rfl | rfl | rfl | rfl | rfl | rfl | rfl | rfl | rfl | rfl
  · rfl
  · rfl
  · rfl
  · have h := ha (.inl rfl)
    simp only [nodeK, hL x h.1 h.2]
    rfl
  · have h := ha (.inr rfl)
    have h2 := hb rfl
    simp only [nodeK, hL x h.1 h.2, hL y h2.1 h2.2]
  · have h := ha (.inr rfl)
    have h2 := hb rfl
    simp only [nodeK, hL x h.1 h.2, hL y h2.1 h2.2]
  · rfl
  · rfl
  · have h := ha (.inr rfl)
    have h2 := hb rfl
    simp only [nodeK, hL x h.1 h.2, hL y h2.1 h2.2]
  · have h := ha (.inr rfl)
    have h2 := hb rfl
    simp only [nodeK, hL x h.1 h.2, hL y h2.1 h2.2]
/-- The value of node k behind a letter, out of those of the nodes ahead of it. -/
theorem nxt_at {L : Int} {f : List Nd} (hg : ∀ j n, f[j]? = some n → NdGood L j n) (v : List Bool) (a : Int) {k : Nat} {n : Nd} (hn : f[k]? = some n) {l : List Bool} (hl : ∀ i, i < k → l.getD i false = (nxt f v a).getD i false) : (nxt f v a)[k]? = some (nodeK n a k l v) := by
  obtain ⟨hk, he⟩ := List.getElem?_eq_some_iff.1 hn
  have hT : (nxt (f.take k) v a).length = k := by rw [nxt_length, List.length_take]; omega
  obtain ⟨m, h1, _⟩ := nxt_more (f.take (k + 1)) (f.drop (k + 1)) v a
  rw [List.take_append_drop, ← List.take_append_getElem hk, nxt_snoc, he, List.append_assoc] at h1
  have e : (nxt f v a)[k]? = some (nodeN n a (nxt (f.take k) v a) v) := by
    rw [h1, List.getElem?_append_right (by omega), hT, Nat.sub_self]; rfl
  rw [e, nodeN, hT]
  congr 1
  refine nodeK_congr (hg k n hn) (fun i hi => ?_) a v
  rw [hl i hi, h1, List.getD_eq_getElem?_getD, List.getD_eq_getElem?_getD, List.getElem?_append_left (by omega)]

/-! ### at the end of the word -/
/-- What a node says that asks for its operands' values now, and for nothing else. -/
def joinV (n : Nd) (l : List Bool) : Bool :=
  if n.1 = 0 then true else if n.1 = 3 then !l.getD n.2.1.toNat false
  else if n.1 = 4 then l.getD n.2.1.toNat false && l.getD n.2.2.toNat false
  else if n.1 = 5 then l.getD n.2.1.toNat false || l.getD n.2.2.toNat false else false
def nodeE (n : Nd) (l : List Bool) : Bool :=
  if n.1 = 2 ∨ n.1 = 6 ∨ n.1 = 8 then false else if n.1 = 7 ∨ n.1 = 9 then true else joinV n l
theorem nodeE_ok {L : Int} {f : List Nd} (hg : ∀ j n, f[j]? = some n → NdGood L j n) {k : Nat} {n : Nd} (hn : f[k]? = some n) {l : List Bool} (hl0 : ∀ i, i < k → l.getD i false = vat f [] i 0) :
    nodeE n l = vat f [] k 0 := by
  have gd := hg k n hn
  have hL : ∀ x : Int, 0 ≤ x → x < (k : Int) → l.getD x.toNat false = vat f [] x.toNat 0 := fun x h0 h1 => hl0 _ (by omega)
  have ht := tre_get hg hn
  have h0 := gd.k0
  have h9 := gd.k9
  obtain ⟨kd, x, y⟩ := n
  simp only at h0 h9
  have : kd = 0 ∨ kd = 1 ∨ kd = 2 ∨ kd = 3 ∨ kd = 4 ∨ kd = 5 ∨ kd = 6 ∨ kd = 7 ∨ kd = 8 ∨ kd = 9 := by omega
  have ha : ops kd = 1 ∨ ops kd = 2 → 0 ≤ x ∧ x < (k : Int) := fun h => gd.a1 (by simp only; omega)
  have hb : ops kd = 2 → 0 ≤ y ∧ y < (k : Int) := gd.b2
  show nodeE _ _ = val1 _ (tre f k) 0
  rw [ht]
  rcases this with rfl | rfl | rfl | rfl | rfl | rfl | rfl | rfl | rfl | rfl
  · rfl
  · rfl
  · simp [nodeE, tone, val1]
  · have h := ha (.inl rfl)
    simp only [nodeE, joinV, tone, ops, hL x h.1 h.2]
    simp [val1, vat, tre]
  · have h := ha (.inr rfl)
    have h2 := hb rfl
    simp only [nodeE, joinV, tone, ops, hL x h.1 h.2, hL y h2.1 h2.2]
    simp [val1, vat, tre]
  · have h := ha (.inr rfl)
    have h2 := hb rfl
    simp only [nodeE, joinV, tone, ops, hL x h.1 h.2, hL y h2.1 h2.2]
    simp [val1, vat, tre]
  · simp [nodeE, tone, ops, val1]
  · simp [nodeE, tone, ops, val1]
  · simp [nodeE, tone, ops, val1, untl]
  · simp [nodeE, tone, ops, val1, untl]

/-! ### a row under way -/
/-- The first k of a row, and none behind. -/
def mid (l : List Bool) (k : Nat) : List Bool := l.take k ++ List.replicate (l.length - k) false
theorem mid_length {l : List Bool} {k : Nat} (h : k ≤ l.length) : (mid l k).length = l.length := by simp [mid]; omega
theorem mid_zero (l : List Bool) : mid l 0 = List.replicate l.length false := by simp [mid]
theorem mid_all (l : List Bool) : mid l l.length = l := by simp [mid]
theorem mid_get {l : List Bool} {k i : Nat} (h : i < k) (hk : k ≤ l.length) : (mid l k)[i]? = l[i]? := by
  rw [mid, List.getElem?_append_left (by rw [List.length_take]; omega), List.getElem?_take, if_pos h]
theorem mid_getD {l : List Bool} {k i : Nat} (h : i < k) (hk : k ≤ l.length) : (mid l k).getD i false = l.getD i false := by
  rw [List.getD_eq_getElem?_getD, List.getD_eq_getElem?_getD, mid_get h hk]
theorem mid_at {l : List Bool} {k : Nat} (h : k < l.length) : (mid l k)[k]? = some false := by
  rw [mid, List.getElem?_append_right (by rw [List.length_take]; omega), List.length_take, List.getElem?_replicate, if_pos (by omega)]
theorem mid_set {l : List Bool} {k : Nat} {b : Bool} (h : l[k]? = some b) : (mid l k).set k b = mid l (k + 1) := by
  obtain ⟨hk, hb⟩ := List.getElem?_eq_some_iff.1 h
  refine List.ext_getElem? fun i => ?_
  rw [List.getElem?_set, mid_length (by omega)]
  by_cases e : k = i
  · subst e
    rw [if_pos rfl, if_pos hk, mid_get (by omega) (by omega), h]
  · rw [if_neg e]
    by_cases hi : i < k
    · rw [mid_get hi (by omega), mid_get (by omega) (by omega)]
    · unfold mid
      rw [List.getElem?_append_right (by rw [List.length_take]; omega), List.getElem?_append_right (by rw [List.length_take]; omega), List.length_take, List.length_take, List.getElem?_replicate, List.getElem?_replicate]
      have : (i - min k l.length < l.length - k) ↔ (i - min (k + 1) l.length < l.length - (k + 1)) := by omega
      simp only [this]
theorem vec_at (f : List Nd) (w : List Int) {k : Nat} (h : k < f.length) : (vec f w)[k]? = some (vat f w k 0) := by
  rw [vec, List.getElem?_map, List.getElem?_range h]; rfl
theorem mid_vec (f : List Nd) (w : List Int) {k : Nat} (hk : k ≤ f.length) : ∀ i, i < k → (mid (vec f w) k).getD i false = vat f w i 0 := fun i hi => by
  rw [mid_getD hi (by rw [vec_length]; exact hk), vec_get f w (by omega)]
end Go.Proofs.YtciopfiddfmckaaDoor.Fm
