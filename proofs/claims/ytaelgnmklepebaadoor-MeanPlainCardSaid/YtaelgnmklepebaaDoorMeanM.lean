/- Plain mathematics of what formulas mean: the tree of a node, its value at each place of a word, the form with Not ahead of sets alone. -/
import Derived.Test.YtaelgnmklepebaaDoorFormN
namespace Go.Proofs.YtaelgnmklepebaaDoor.Fm

/-! ### the tree of a node -/
def tone (n : Nd) (l : List Tree) : Tree :=
  if n.1 = 2 then .leaf 2 n.2.1.toNat
  else if ops n.1 = 1 then .un n.1.toNat (l.getD n.2.1.toNat (.leaf 1 0))
  else if ops n.1 = 2 then .bin n.1.toNat (l.getD n.2.1.toNat (.leaf 1 0)) (l.getD n.2.2.toNat (.leaf 1 0))
  else .leaf n.1.toNat 0
def trees (f : List Nd) : List Tree := f.foldl (fun l n => l ++ [tone n l]) []
theorem trees_snoc (f : List Nd) (n : Nd) : trees (f ++ [n]) = trees f ++ [tone n (trees f)] := by simp [trees]
theorem trees_more (f g : List Nd) : ∃ m, trees (f ++ g) = trees f ++ m ∧ m.length = g.length := by
  refine snoc_ind (α := Nd) (p := fun g => ∃ m, trees (f ++ g) = trees f ++ m ∧ m.length = g.length) ⟨[], by simp, rfl⟩ ?_ g
  rintro g n ⟨m, h1, h2⟩
  refine ⟨m ++ [tone n (trees (f ++ g))], ?_, by simp [h2]⟩
  rw [← List.append_assoc, trees_snoc, h1, List.append_assoc]
theorem trees_length (f : List Nd) : (trees f).length = f.length := by
  obtain ⟨m, h1, h2⟩ := trees_more [] f
  rw [List.nil_append] at h1
  rw [h1, List.length_append, h2]; simp [trees]
/-- The tree of node i. -/
def tre (f : List Nd) (i : Nat) : Tree := (trees f).getD i (.leaf 1 0)
theorem tre_more (f g : List Nd) {i : Nat} (h : i < f.length) : tre (f ++ g) i = tre f i := by
  obtain ⟨m, h1, _⟩ := trees_more f g
  rw [tre, tre, h1, List.getD_eq_getElem?_getD, List.getD_eq_getElem?_getD, List.getElem?_append_left (by rw [trees_length]; exact h)]
theorem tre_new (f : List Nd) (n : Nd) : tre (f ++ [n]) f.length = tone n (trees f) := by
  rw [tre, trees_snoc, List.getD_eq_getElem?_getD, List.getElem?_append_right (by rw [trees_length]; exact Nat.le_refl _), trees_length, Nat.sub_self]; rfl
theorem tone_take {L : Int} {i : Nat} {n : Nd} (g : NdGood L i n) (l : List Tree) : tone n (l.take i) = tone n l := by
  unfold tone
  split
  · rfl
  · split
    · rename_i h
      have := g.a1 (by omega)
      rw [getD_take (by omega)]
    · split
      · rename_i h
        have := g.a1 (by omega)
        have := g.b2 h
        rw [getD_take (by omega), getD_take (by omega)]
      · rfl
theorem tre_get {L : Int} {f : List Nd} (hg : ∀ j n, f[j]? = some n → NdGood L j n) {i : Nat} {n : Nd} (h : f[i]? = some n) : tre f i = tone n (trees f) := by
  obtain ⟨hi, hn⟩ := List.getElem?_eq_some_iff.1 h
  obtain ⟨m, h1, _⟩ := trees_more (f.take i) (f.drop i)
  have e1 : tre f i = tre (f.take (i + 1)) i := by
    have := tre_more (f.take (i + 1)) (f.drop (i + 1)) (i := i) (by rw [List.length_take]; omega)
    rwa [List.take_append_drop] at this
  have hl : (f.take i).length = i := by rw [List.length_take]; omega
  have e2 : tre (f.take (i + 1)) i = tone n (trees (f.take i)) := by
    rw [← List.take_append_getElem hi, hn]
    have := tre_new (f.take i) n
    rwa [hl] at this
  rw [List.take_append_drop] at h1
  have hl2 : (trees (f.take i)).length = i := by rw [trees_length, hl]
  have e3 : trees (f.take i) = (trees f).take i := by
    clear e2
    generalize trees (f.take i) = T at *
    rw [h1, List.take_append_of_le_length (by omega), List.take_of_length_le (by omega)]
  rw [e1, e2, e3, tone_take (hg i n h)]
theorem ops_none {k : Int} (h0 : 0 ≤ k) (h9 : k ≤ 9) (h2 : k ≠ 2) (h1 : ops k ≠ 1) (h3 : ops k ≠ 2) : k = 0 ∨ k = 1 := by
  have : k = 0 ∨ k = 1 ∨ k = 2 ∨ k = 3 ∨ k = 4 ∨ k = 5 ∨ k = 6 ∨ k = 7 ∨ k = 8 ∨ k = 9 := by omega
  rcases this with rfl | rfl | rfl | rfl | rfl | rfl | rfl | rfl | rfl | rfl <;> first | exact .inl rfl | exact .inr rfl | exact absurd rfl h2 | exact absurd (by decide) h1 | exact absurd (by decide) h3
theorem tre_ok {L : Int} {f : List Nd} (hg : ∀ j n, f[j]? = some n → NdGood L j n) : ∀ i, i < f.length → Ok L.toNat (tre f i) := by
  intro i
  induction i using Nat.strongRecOn with
  | _ i ih =>
    intro hi
    have hn : f[i]? = some f[i] := List.getElem?_eq_getElem hi
    have g := hg i _ hn
    rw [tre_get hg hn]
    generalize f[i] = n at *
    have h0 := g.k0
    have h9 := g.k9
    unfold tone
    split
    · rename_i h2
      have := g.set h2
      refine .inr (.inr ⟨rfl, ?_⟩)
      have h3 : ((n.2.1.toNat : Nat) : Int) < ((2 ^ L.toNat : Nat) : Int) := by rw [Int.natCast_pow]; rw [Int.toNat_of_nonneg this.1]; exact this.2
      exact_mod_cast h3
    · rename_i h2
      split
      · rename_i h1
        have ha := g.a1 (by omega)
        refine ⟨?_, ih n.2.1.toNat (by omega) (by omega)⟩
        unfold ops at h1
        split at h1
        · omega
        · split at h1 <;> omega
      · rename_i h1
        split
        · rename_i h3
          have ha := g.a1 (by omega)
          have hb := g.b2 h3
          refine ⟨?_, ih n.2.1.toNat (by omega) (by omega), ih n.2.2.toNat (by omega) (by omega)⟩
          unfold ops at h3
          split at h3
          · omega
          · split at h3 <;> omega
        · rename_i h3
          have := ops_none h0 h9 h2 h1 h3
          rcases this with e | e
          · rw [e]; exact .inl ⟨rfl, rfl⟩
          · rw [e]; exact .inr (.inl ⟨rfl, rfl⟩)

/-! ### values -/
/-- Is there a place from p on (m places are left) where B is as told, and A is at all places from p on ahead of it? -/
def untl (A B : Nat → Bool) (told : Bool) : Nat → Nat → Bool
  | 0, _ => false
  | m + 1, p => (B p == told) || ((A p == told) && untl A B told m (p + 1))
def val1 (w : List Int) : Tree → Nat → Bool
  | .leaf k a, p => if k = 0 then true else if k = 2 then decide (p < w.length) && a.testBit (w.getD p 0).toNat else false
  | .un k t, p => if k = 3 then !val1 w t p else if k = 6 then decide (p < w.length) && val1 w t (p + 1) else decide (w.length ≤ p) || val1 w t (p + 1)
  | .bin k t u, p =>
    if k = 4 then val1 w t p && val1 w u p else if k = 5 then val1 w t p || val1 w u p
    else if k = 8 then untl (val1 w t) (val1 w u) true (w.length - p) p else !untl (val1 w t) (val1 w u) false (w.length - p) p
/-- The value of node i at place p. -/
def vat (f : List Nd) (w : List Int) (i p : Nat) : Bool := val1 w (tre f i) p
theorem untl_not (A B : Nat → Bool) (told : Bool) : ∀ m p, untl (fun q => !A q) (fun q => !B q) told m p = untl A B (!told) m p
  | 0, _ => rfl
  | m + 1, p => by
    simp only [untl]
    rw [untl_not A B told m]
    cases B p <;> cases A p <;> cases told <;> simp
theorem untl_shift (A B A' B' : Nat → Bool) (told : Bool) (hA : ∀ p, A' (p + 1) = A p) (hB : ∀ p, B' (p + 1) = B p) : ∀ m p, untl A' B' told m (p + 1) = untl A B told m p
  | 0, _ => rfl
  | m + 1, p => by
    simp only [untl]
    rw [hA, hB, untl_shift A B A' B' told hA hB m]
/-- The word's rest. -/
theorem val_shift (a : Int) (w : List Int) : ∀ (t : Tree) (p : Nat), val1 (a :: w) t (p + 1) = val1 w t p
  | .leaf k b, p => by simp [val1]
  | .un k t, p => by simp [val1, val_shift a w t]
  | .bin k t u, p => by
    simp only [val1, List.length_cons, Nat.add_sub_add_right]
    rw [val_shift a w t, val_shift a w u, untl_shift _ _ _ _ true (val_shift a w t) (val_shift a w u), untl_shift _ _ _ _ false (val_shift a w t) (val_shift a w u)]

/-! ### Not ahead of sets alone -/
def dual (k : Nat) : Nat := if k < 2 then 1 - k else if k < 6 then 9 - k else if k < 8 then 13 - k else 17 - k
def nnf : Bool → Tree → Tree
  | b, .leaf k a => if k = 2 then (if b then .un 3 (.leaf 2 a) else .leaf 2 a) else .leaf (if b then dual k else k) a
  | b, .un k t => if k = 3 then nnf (!b) t else .un (if b then dual k else k) (nnf b t)
  | b, .bin k t u => .bin (if b then dual k else k) (nnf b t) (nnf b u)
theorem nnf_ok {L : Nat} : ∀ (b : Bool) (t : Tree), Ok L t → Ok L (nnf b t)
  | b, .leaf k a, h => by
    rcases h with ⟨rfl, rfl⟩ | ⟨rfl, rfl⟩ | ⟨rfl, h⟩ <;> rcases b with _ | _
    · exact .inl ⟨rfl, rfl⟩
    · exact .inr (.inl ⟨rfl, rfl⟩)
    · exact .inr (.inl ⟨rfl, rfl⟩)
    · exact .inl ⟨rfl, rfl⟩
    · exact .inr (.inr ⟨rfl, h⟩)
    · exact ⟨.inl rfl, .inr (.inr ⟨rfl, h⟩)⟩
  | b, .un k t, h => by
    rcases h.1 with rfl | rfl | rfl
    · exact nnf_ok (!b) t h.2
    · refine ⟨?_, nnf_ok b t h.2⟩
      rcases b with _ | _ <;> simp [dual]
    · refine ⟨?_, nnf_ok b t h.2⟩
      rcases b with _ | _ <;> simp [dual]
  | b, .bin k t u, h => by
    refine ⟨?_, nnf_ok b t h.2.1, nnf_ok b u h.2.2⟩
    rcases h.1 with rfl | rfl | rfl | rfl <;> rcases b with _ | _ <;> simp [dual]
theorem nnf_val {L : Nat} (w : List Int) : ∀ (b : Bool) (t : Tree), Ok L t → ∀ p, val1 w (nnf b t) p = (b != val1 w t p)
  | b, .leaf k a, h => by
    intro p
    rcases h with ⟨rfl, rfl⟩ | ⟨rfl, rfl⟩ | ⟨rfl, h⟩ <;> rcases b with _ | _ <;> simp [nnf, val1, dual]
  | b, .un k t, h => by
    intro p
    rcases h.1 with rfl | rfl | rfl
    · have := nnf_val w (!b) t h.2 p
      simp only [nnf, if_true, this, val1]
      rcases b with _ | _ <;> rcases val1 w t p with _ | _ <;> rfl
    · have := nnf_val w b t h.2 (p + 1)
      rcases b with _ | _
      · simp [nnf, val1, this]
      · by_cases hp : p < w.length
        · simp [nnf, val1, this, dual, hp, show ¬ w.length ≤ p by omega]
        · simp [nnf, val1, this, dual, hp, show w.length ≤ p by omega]
    · have := nnf_val w b t h.2 (p + 1)
      rcases b with _ | _
      · simp [nnf, val1, this]
      · by_cases hp : p < w.length
        · simp [nnf, val1, this, dual, hp, show ¬ w.length ≤ p by omega]
        · simp [nnf, val1, this, dual, hp, show w.length ≤ p by omega]
  | b, .bin k t u, h => by
    intro p
    have h1 := nnf_val w b t h.2.1
    have h2 := nnf_val w b u h.2.2
    have e1 : val1 w (nnf b t) = fun q => (b != val1 w t q) := funext h1
    have e2 : val1 w (nnf b u) = fun q => (b != val1 w u q) := funext h2
    have n1 := untl_not (val1 w t) (val1 w u) true (w.length - p) p
    have n2 := untl_not (val1 w t) (val1 w u) false (w.length - p) p
    rcases h.1 with rfl | rfl | rfl | rfl <;> rcases b with _ | _ <;> simp [nnf, val1, dual, e1, e2, n1, n2]

/-! ### trees of written nodes -/
theorem flat_tree {L : Nat} : ∀ (t : Tree) (f : List Nd), Ok L t → tre (flat t f) ((flat t f).length - 1) = t
  | .leaf k a, f, h => by
    have e : (flat (.leaf k a) f).length - 1 = f.length := by simp [flat]
    rw [e]
    simp only [flat]
    rw [tre_new]
    rcases h with ⟨rfl, rfl⟩ | ⟨rfl, rfl⟩ | ⟨rfl, h⟩ <;> simp [tone, ops]
  | .un k t, f, h => by
    have ih := flat_tree t f h.2
    have e : (flat (.un k t) f).length - 1 = (flat t f).length := by simp [flat]
    rw [e]
    simp only [flat]
    rw [tre_new]
    rw [tre, List.getD_eq_getElem?_getD] at ih
    rcases h.1 with rfl | rfl | rfl <;> simp [tone, ops, ih]
  | .bin k t u, f, h => by
    have ih1 := flat_tree t f h.2.1
    have ih2 := flat_tree u (flat t f) h.2.2
    have hp := flat_ne t f
    have e : (flat (.bin k t u) f).length - 1 = (flat u (flat t f)).length := by simp [flat]
    rw [e]
    simp only [flat]
    rw [tre_new]
    have ih1' : tre (flat u (flat t f)) ((flat t f).length - 1) = t := by
      obtain ⟨m, hm⟩ := flat_more u (flat t f)
      rw [hm, tre_more _ _ (by omega), ih1]
    rw [tre, List.getD_eq_getElem?_getD] at ih2 ih1'
    rcases h.1 with rfl | rfl | rfl | rfl <;> simp [tone, ops, ih1', ih2]

/-! ### more nodes behind a formula -/
theorem tre_un {L : Int} {f : List Nd} (hg : ∀ j n, f[j]? = some n → NdGood L j n) {i : Nat} {k a : Int} (h : f[i]? = some (k, a, 0)) (hk : k = 3 ∨ k = 6 ∨ k = 7) : tre f i = .un k.toNat (tre f a.toNat) := by
  rw [tre_get hg h]
  rcases hk with rfl | rfl | rfl <;> rfl
theorem tre_bin {L : Int} {f : List Nd} (hg : ∀ j n, f[j]? = some n → NdGood L j n) {i : Nat} {k a b : Int} (h : f[i]? = some (k, a, b)) (hk : k = 4 ∨ k = 5 ∨ k = 8 ∨ k = 9) : tre f i = .bin k.toNat (tre f a.toNat) (tre f b.toNat) := by
  rw [tre_get hg h]
  rcases hk with rfl | rfl | rfl | rfl <;> rfl
/-- Until is now, or later. -/
theorem unfold_until (w : List Int) (t u : Tree) {p : Nat} (hp : p < w.length) : val1 w (.bin 8 t u) p = val1 w (.bin 5 u (.bin 4 t (.un 6 (.bin 8 t u)))) p := by
  have e : w.length - p = (w.length - (p + 1)) + 1 := by omega
  simp [val1, e, untl, hp]
theorem unfold_release (w : List Int) (t u : Tree) {p : Nat} (hp : p < w.length) : val1 w (.bin 9 t u) p = val1 w (.bin 4 u (.bin 5 t (.un 7 (.bin 9 t u)))) p := by
  have e : w.length - p = (w.length - (p + 1)) + 1 := by omega
  have h2 : ¬ w.length ≤ p := by omega
  simp [val1, e, untl, h2]

/-! ### more is let, more holds -/
inductive Grows : Tree → Tree → Prop where
  | leaf (k a : Nat) : k ≠ 2 → Grows (.leaf k a) (.leaf k a)
  | set (a b : Nat) : (∀ i, a.testBit i = true → b.testBit i = true) → Grows (.leaf 2 a) (.leaf 2 b)
  | un (k : Nat) {t u : Tree} : k ≠ 3 → Grows t u → Grows (.un k t) (.un k u)
  | bin (k : Nat) {t t' u u' : Tree} : Grows t t' → Grows u u' → Grows (.bin k t u) (.bin k t' u')
theorem untl_grows {A B A' B' : Nat → Bool} (hA : ∀ p, A p = true → A' p = true) (hB : ∀ p, B p = true → B' p = true) : ∀ m p, untl A B true m p = true → untl A' B' true m p = true
  | 0, _, h => h
  | m + 1, p, h => by
    simp only [untl, Bool.or_eq_true, Bool.and_eq_true, beq_iff_eq] at h ⊢
    rcases h with h | ⟨h1, h2⟩
    · exact .inl (hB p h)
    · exact .inr ⟨hA p h1, untl_grows hA hB m _ h2⟩
theorem untl_falls {A B A' B' : Nat → Bool} (hA : ∀ p, A p = true → A' p = true) (hB : ∀ p, B p = true → B' p = true) : ∀ m p, untl A' B' false m p = true → untl A B false m p = true
  | 0, _, h => h
  | m + 1, p, h => by
    simp only [untl, Bool.or_eq_true, Bool.and_eq_true, beq_iff_eq] at h ⊢
    rcases h with h | ⟨h1, h2⟩
    · left
      rcases e : B p with _ | _
      · rfl
      · rw [hB p e] at h; cases h
    · right
      refine ⟨?_, untl_falls hA hB m _ h2⟩
      rcases e : A p with _ | _
      · rfl
      · rw [hA p e] at h1; cases h1
theorem grows_val (w : List Int) {t t' : Tree} (h : Grows t t') : ∀ p, val1 w t p = true → val1 w t' p = true := by
  induction h with
  | leaf k a hk => exact fun p h => h
  | set a b hab =>
    intro p h
    simp [val1] at h ⊢
    exact ⟨h.1, hab _ h.2⟩
  | un k hk _ ih =>
    intro p h
    simp only [val1, if_neg hk] at h ⊢
    split
    · rename_i h6
      rw [if_pos h6, Bool.and_eq_true] at h
      exact Bool.and_eq_true _ _ ▸ ⟨h.1, ih _ h.2⟩
    · rename_i h6
      rw [if_neg h6, Bool.or_eq_true] at h
      exact Bool.or_eq_true _ _ ▸ h.imp id (ih _)
  | bin k _ _ ih1 ih2 =>
    intro p h
    simp only [val1] at h ⊢
    split
    · rename_i h4
      rw [if_pos h4, Bool.and_eq_true] at h
      exact Bool.and_eq_true _ _ ▸ ⟨ih1 _ h.1, ih2 _ h.2⟩
    · rename_i h4
      rw [if_neg h4] at h
      split
      · rename_i h5
        rw [if_pos h5, Bool.or_eq_true] at h
        exact Bool.or_eq_true _ _ ▸ h.imp (ih1 _) (ih2 _)
      · rename_i h5
        rw [if_neg h5] at h
        split
        · rename_i h8
          rw [if_pos h8] at h
          exact untl_grows ih1 ih2 _ _ h
        · rename_i h8
          rw [if_neg h8, Bool.not_eq_true'] at h
          rw [Bool.not_eq_true']
          rcases e : untl _ _ false _ _ with _ | _
          · rfl
          · rw [untl_falls ih1 ih2 _ _ e] at h; cases h
theorem tone_leaf {n : Nd} (h2 : n.1 ≠ 2) (h1 : ops n.1 ≠ 1) (h3 : ops n.1 ≠ 2) (l : List Tree) : tone n l = .leaf n.1.toNat 0 := by unfold tone; rw [if_neg h2, if_neg h1, if_neg h3]
theorem grows_tre {L : Int} {f g : List Nd} (hf : ∀ j n, f[j]? = some n → NdGood L j n) (hg : ∀ j n, g[j]? = some n → NdGood L j n) (hl : f.length = g.length)
    (h : ∀ (j : Nat) (n m : Nd), f[j]? = some n → g[j]? = some m → n.1 ≠ 3 ∧ ((n.1 ≠ 2 ∧ n = m) ∨ (n.1 = 2 ∧ m.1 = 2 ∧ ∀ i, n.2.1.toNat.testBit i = true → m.2.1.toNat.testBit i = true))) :
    ∀ i, i < f.length → Grows (tre f i) (tre g i) := by
  intro i
  induction i using Nat.strongRecOn with
  | _ i ih =>
    intro hi
    have hn : f[i]? = some f[i] := List.getElem?_eq_getElem hi
    have hm : g[i]? = some (g[i]'(by omega)) := List.getElem?_eq_getElem (by omega)
    have gd := hf i _ hn
    obtain ⟨h3, h⟩ := h i _ _ hn hm
    rw [tre_get hf hn, tre_get hg hm]
    generalize f[i] = n at *
    generalize g[i]'(by omega) = m at *
    rcases h with ⟨h2, rfl⟩ | ⟨h2, h2', hb⟩
    · have h0 := gd.k0
      have h9 := gd.k9
      by_cases o1 : ops n.1 = 1
      · have ha := gd.a1 (by omega)
        have := ih n.2.1.toNat (by omega) (by omega)
        unfold tone
        rw [if_neg h2, if_pos o1, if_neg h2, if_pos o1]
        exact .un _ (by omega) this
      · by_cases o2 : ops n.1 = 2
        · have ha := gd.a1 (by omega)
          have hb := gd.b2 o2
          have i1 := ih n.2.1.toNat (by omega) (by omega)
          have i2 := ih n.2.2.toNat (by omega) (by omega)
          unfold tone
          rw [if_neg h2, if_neg o1, if_pos o2, if_neg h2, if_neg o1, if_pos o2]
          exact .bin _ i1 i2
        · rw [tone_leaf h2 o1 o2, tone_leaf h2 o1 o2]
          exact .leaf _ _ (by omega)
    · unfold tone
      rw [if_pos h2, if_pos h2']
      exact .set _ _ hb

/-! ### what is written is read back -/
theorem txt_wr {L : Int} {f : List Nd} (hg : ∀ j n, f[j]? = some n → NdGood L j n) : ∀ i, i < f.length → txt f i = wr (tre f i) := by
  intro i
  induction i using Nat.strongRecOn with
  | _ i ih =>
    intro hi
    have hn : f[i]? = some f[i] := List.getElem?_eq_getElem hi
    have gd := hg i _ hn
    rw [txt_eq hg hn, tre_get hg hn]
    generalize f[i] = n at *
    have h0 := gd.k0
    have h9 := gd.k9
    unfold one tone
    by_cases h2 : n.1 = 2
    · rw [if_pos h2, if_pos h2]; rfl
    · rw [if_neg h2, if_neg h2]
      by_cases o1 : ops n.1 = 1
      · have ha := gd.a1 (by omega)
        have i1 := ih n.2.1.toNat (by omega) (by omega)
        rw [if_pos o1, if_pos o1]
        show sgn _ :: txt f _ = sgn _ :: wr (tre f _)
        rw [i1]
      · by_cases o2 : ops n.1 = 2
        · have ha := gd.a1 (by omega)
          have hb := gd.b2 o2
          have i1 := ih n.2.1.toNat (by omega) (by omega)
          have i2 := ih n.2.2.toNat (by omega) (by omega)
          rw [if_neg o1, if_pos o2, if_neg o1, if_pos o2]
          show 40 :: (txt f _ ++ sgn _ :: (txt f _ ++ [41])) = 40 :: (wr (tre f _) ++ sgn _ :: (wr (tre f _) ++ [41]))
          rw [i1, i2]
        · rw [if_neg o1, if_neg o2, if_neg o1, if_neg o2]
          have := ops_none h0 h9 h2 o1 o2
          simp only [wr]
          rw [if_neg (by omega)]
/-- The whole tree. -/
def root (f : List Nd) : Tree := tre f (f.length - 1)
theorem ftxt_wr {L : Int} {f : List Nd} (g : FGood L f) : ftxt f = wr (root f) := txt_wr g.nd _ (by have := g.ne; omega)
theorem root_ok {L : Int} {f : List Nd} (g : FGood L f) : Ok L.toNat (root f) := tre_ok g.nd _ (by have := g.ne; omega)
theorem root_flat {L : Nat} {t : Tree} (h : Ok L t) : root (flat t []) = t := flat_tree t [] h
theorem rd_back {L : Int} {f : List Nd} (g : FGood L f) (h : (ftxt f).length ≤ 300) : (40 < (root f).size ∧ Rd L (ftxt f) 4 []) ∨ ((root f).size ≤ 40 ∧ Rd L (ftxt f) 0 (flat (root f) [])) := by
  have ho := root_ok g
  have hG : G L.toNat 3 (strip (ftxt f)) (root f) := by
    rw [ftxt_wr g, strip_none (wr_noblank ho)]
    exact G.up (wr_reads (by have := g.l1; omega) (by have := g.l6; omega) ho)
  by_cases hs : 40 < (root f).size
  · exact .inl ⟨hs, .inr (.inr (.inr ⟨g.l1, g.l6, h, _, hG, .inl ⟨hs, rfl, rfl⟩⟩))⟩
  · exact .inr ⟨by omega, .inr (.inr (.inr ⟨g.l1, g.l6, h, _, hG, .inr ⟨by omega, rfl, rfl⟩⟩))⟩
theorem flat_fgood {L : Int} {t : Tree} (h1 : 1 ≤ L) (h6 : L ≤ 6) (h : Ok L.toNat t) (hs : t.size ≤ 40) : FGood L (flat t []) := by
  refine ⟨h1, h6, flat_ne _ _, by rw [flat_length]; simpa using hs, fun j n hj => ?_⟩
  have := flat_good t [] h (by simp) j n hj
  rwa [show ((L.toNat : Nat) : Int) = L by omega] at this
theorem flat_ftxt {L : Nat} {t : Tree} (h : Ok L t) : ftxt (flat t []) = wr t := flat_texts t [] h

/-! ### how many nodes the plain form has -/
def pos1 (t : Tree) (b : Bool) : Nat := (nnf b t).size
def sat (n : Nat) : Nat := if 41 < n then 41 else n
theorem sat_le (n : Nat) : sat n ≤ 41 := by unfold sat; split <;> omega
theorem sat_un (a : Nat) : sat (sat a + 1) = sat (a + 1) := by unfold sat; split <;> split <;> (try split) <;> omega
theorem sat_bin (a b : Nat) : sat (sat a + sat b + 1) = sat (a + b + 1) := by
  unfold sat
  by_cases h1 : 41 < a <;> by_cases h2 : 41 < b <;> simp only [h1, h2, if_true, if_false] <;> split <;> split <;> omega
theorem sat_big (n : Nat) : (40 < sat n) ↔ 40 < n := by unfold sat; split <;> omega
end Go.Proofs.YtaelgnmklepebaaDoor.Fm
