/- Plain mathematics: the values of all nodes, from one letter to the next, and at the end of the word. -/
import Derived.Test.YtaelgnmklepebaaDoorMeanM
namespace Go.Proofs.YtaelgnmklepebaaDoor.Fm

/-- The values of all nodes at the beginning. -/
def vec (f : List Nd) (w : List Int) : List Bool := (List.range f.length).map fun i => vat f w i 0
theorem vec_length (f : List Nd) (w : List Int) : (vec f w).length = f.length := by simp [vec]
theorem vec_get (f : List Nd) (w : List Int) {i : Nat} (h : i < f.length) : (vec f w).getD i false = vat f w i 0 := by
  rw [vec, List.getD_eq_getElem?_getD, List.getElem?_map, List.getElem?_range h]; rfl
/-- The new value of node k: l: the new values of the nodes ahead of it, v: the old ones of all. -/
def nodeK (n : Nd) (a : Int) (k : Nat) (l v : List Bool) : Bool :=
  if n.1 = 0 then true
  else if n.1 = 2 then n.2.1.toNat.testBit a.toNat
  else if n.1 = 3 then !l.getD n.2.1.toNat false
  else if n.1 = 4 then l.getD n.2.1.toNat false && l.getD n.2.2.toNat false
  else if n.1 = 5 then l.getD n.2.1.toNat false || l.getD n.2.2.toNat false
  else if n.1 = 6 ∨ n.1 = 7 then v.getD n.2.1.toNat false
  else if n.1 = 8 then l.getD n.2.2.toNat false || (l.getD n.2.1.toNat false && v.getD k false)
  else if n.1 = 9 then l.getD n.2.2.toNat false && (l.getD n.2.1.toNat false || v.getD k false)
  else false
def nodeN (n : Nd) (a : Int) (l v : List Bool) : Bool := nodeK n a l.length l v
def nxt (f : List Nd) (v : List Bool) (a : Int) : List Bool := f.foldl (fun l n => l ++ [nodeN n a l v]) []
theorem nxt_snoc (f : List Nd) (n : Nd) (v : List Bool) (a : Int) : nxt (f ++ [n]) v a = nxt f v a ++ [nodeN n a (nxt f v a) v] := by simp [nxt]
theorem nodeK_ok {L : Int} {f : List Nd} (hg : ∀ j n, f[j]? = some n → NdGood L j n) (a : Int) (w : List Int) {k : Nat} {n : Nd} (hn : f[k]? = some n) {l : List Bool} (hl0 : ∀ i, i < k → l.getD i false = vat f (a :: w) i 0) :
    nodeK n a k l (vec f w) = vat f (a :: w) k 0 := by
  have hk := (List.getElem?_eq_some_iff.1 hn).1
  have gd := hg k n hn
  have hL : ∀ x : Int, 0 ≤ x → x < (k : Int) → l.getD x.toNat false = vat f (a :: w) x.toNat 0 := fun x h0 h1 => hl0 _ (by omega)
  have hV : ∀ x : Int, 0 ≤ x → x < (k : Int) → (vec f w).getD x.toNat false = val1 (a :: w) (tre f x.toNat) 1 := by
    intro x h0 h1
    rw [vec_get f w (by omega), val_shift]; rfl
  have hK : (vec f w).getD k false = vat f w k 0 := vec_get f w hk
  have hU : vat f w k 0 = val1 (a :: w) (tre f k) 1 := by rw [val_shift]; rfl
  have ht := tre_get hg hn
  have hl : ((a :: w).length) = w.length + 1 := rfl
  have h0 := gd.k0
  have h9 := gd.k9
  obtain ⟨kd, x, y⟩ := n
  simp only at h0 h9
  have : kd = 0 ∨ kd = 1 ∨ kd = 2 ∨ kd = 3 ∨ kd = 4 ∨ kd = 5 ∨ kd = 6 ∨ kd = 7 ∨ kd = 8 ∨ kd = 9 := by omega
  have ha : ops kd = 1 ∨ ops kd = 2 → 0 ≤ x ∧ x < (k : Int) := fun h => gd.a1 (by simp only; omega)
  have hb : ops kd = 2 → 0 ≤ y ∧ y < (k : Int) := gd.b2
  show nodeK _ _ _ _ _ = val1 _ (tre f k) 0
  rcases this with rfl | rfl | rfl | rfl | rfl | rfl | rfl | rfl | rfl | rfl
  · rw [ht]; rfl
  · rw [ht]; rfl
  · rw [ht]; simp [nodeK, tone, val1]
  · have h := ha (.inl rfl)
    rw [ht]
    simp only [nodeK, tone, ops, hL x h.1 h.2]
    simp [val1, vat, tre]
  · have h := ha (.inr rfl)
    have h2 := hb rfl
    rw [ht]
    simp only [nodeK, tone, ops, hL x h.1 h.2, hL y h2.1 h2.2]
    simp [val1, vat, tre]
  · have h := ha (.inr rfl)
    have h2 := hb rfl
    rw [ht]
    simp only [nodeK, tone, ops, hL x h.1 h.2, hL y h2.1 h2.2]
    simp [val1, vat, tre]
  · have h := ha (.inl rfl)
    rw [ht]
    simp only [nodeK, tone, ops, hV x h.1 h.2]
    simp [val1, tre]
  · have h := ha (.inl rfl)
    rw [ht]
    simp only [nodeK, tone, ops, hV x h.1 h.2]
    simp [val1, tre]
  · have h := ha (.inr rfl)
    have h2 := hb rfl
    have e : tre f k = .bin 8 (tre f x.toNat) (tre f y.toNat) := by rw [ht]; rfl
    have e2 := unfold_until (a :: w) (tre f x.toNat) (tre f y.toNat) (p := 0) (by simp)
    rw [e] at hU
    rw [e, e2]
    simp only [nodeK, hL x h.1 h.2, hL y h2.1 h2.2, hK, hU]
    simp [val1, vat]
  · have h := ha (.inr rfl)
    have h2 := hb rfl
    have e : tre f k = .bin 9 (tre f x.toNat) (tre f y.toNat) := by rw [ht]; rfl
    have e2 := unfold_release (a :: w) (tre f x.toNat) (tre f y.toNat) (p := 0) (by simp)
    rw [e] at hU
    rw [e, e2]
    simp only [nodeK, hL x h.1 h.2, hL y h2.1 h2.2, hK, hU]
    simp [val1, vat]
theorem nodeN_ok {L : Int} {f : List Nd} (hg : ∀ j n, f[j]? = some n → NdGood L j n) (a : Int) (w : List Int) {k : Nat} {n : Nd} (hn : f[k]? = some n) :
    nodeN n a ((List.range k).map fun i => vat f (a :: w) i 0) (vec f w) = vat f (a :: w) k 0 := by
  have h := nodeK_ok hg a w hn (l := (List.range k).map fun i => vat f (a :: w) i 0) fun i hi => by
    rw [List.getD_eq_getElem?_getD, List.getElem?_map, List.getElem?_range hi]; rfl
  rw [← h, nodeN, List.length_map, List.length_range]
theorem nxt_take {L : Int} {f : List Nd} (hg : ∀ j n, f[j]? = some n → NdGood L j n) (a : Int) (w : List Int) : ∀ k, k ≤ f.length → nxt (f.take k) (vec f w) a = (List.range k).map fun i => vat f (a :: w) i 0 := by
  intro k
  induction k with
  | zero => intro _; rfl
  | succ k ih =>
    intro hk
    have hn : f[k]? = some f[k] := List.getElem?_eq_getElem (by omega)
    rw [← List.take_append_getElem (by omega : k < f.length), nxt_snoc, ih (by omega), List.range_succ, List.map_append, nodeN_ok hg a w hn]
    rfl
/-- The values of a word with one more letter in front, out of those of the word. -/
theorem vec_next {L : Int} {f : List Nd} (hg : ∀ j n, f[j]? = some n → NdGood L j n) (a : Int) (w : List Int) : nxt f (vec f w) a = vec f (a :: w) := by
  have := nxt_take hg a w f.length (Nat.le_refl _)
  rwa [List.take_length] at this

/-! ### at the end of the word -/
/-- What a node says that asks for its operands' values now, and for nothing else. -/
def joinV (n : Nd) (l : List Bool) : Bool :=
  if n.1 = 0 then true else if n.1 = 3 then !l.getD n.2.1.toNat false
  else if n.1 = 4 then l.getD n.2.1.toNat false && l.getD n.2.2.toNat false
  else if n.1 = 5 then l.getD n.2.1.toNat false || l.getD n.2.2.toNat false else false
def nodeE (n : Nd) (l : List Bool) : Bool :=
  if n.1 = 2 ∨ n.1 = 6 ∨ n.1 = 8 then false else if n.1 = 7 ∨ n.1 = 9 then true else joinV n l
theorem nodeE_ok {L : Int} {f : List Nd} (hg : ∀ j n, f[j]? = some n → NdGood L j n) {k : Nat} {n : Nd} (hn : f[k]? = some n) {l : List Bool} (hl0 : ∀ i, i < k → l.getD i false = vat f [] i 0) :
    nodeE n l = vat f [] k 0 := by
  have gd := hg k n hn
  have hL : ∀ x : Int, 0 ≤ x → x < (k : Int) → l.getD x.toNat false = vat f [] x.toNat 0 := fun x h0 h1 => hl0 _ (by omega)
  have ht := tre_get hg hn
  have h0 := gd.k0
  have h9 := gd.k9
  obtain ⟨kd, x, y⟩ := n
  simp only at h0 h9
  have : kd = 0 ∨ kd = 1 ∨ kd = 2 ∨ kd = 3 ∨ kd = 4 ∨ kd = 5 ∨ kd = 6 ∨ kd = 7 ∨ kd = 8 ∨ kd = 9 := by omega
  have ha : ops kd = 1 ∨ ops kd = 2 → 0 ≤ x ∧ x < (k : Int) := fun h => gd.a1 (by simp only; omega)
  have hb : ops kd = 2 → 0 ≤ y ∧ y < (k : Int) := gd.b2
  show nodeE _ _ = val1 _ (tre f k) 0
  rw [ht]
  rcases this with rfl | rfl | rfl | rfl | rfl | rfl | rfl | rfl | rfl | rfl
  · rfl
  · rfl
  · simp [nodeE, tone, val1]
  · have h := ha (.inl rfl)
    simp only [nodeE, joinV, tone, ops, hL x h.1 h.2]
    simp [val1, vat, tre]
  · have h := ha (.inr rfl)
    have h2 := hb rfl
    simp only [nodeE, joinV, tone, ops, hL x h.1 h.2, hL y h2.1 h2.2]
    simp [val1, vat, tre]
  · have h := ha (.inr rfl)
    have h2 := hb rfl
    simp only [nodeE, joinV, tone, ops, hL x h.1 h.2, hL y h2.1 h2.2]
    simp [val1, vat, tre]
  · simp [nodeE, tone, ops, val1]
  · simp [nodeE, tone, ops, val1]
  · simp [nodeE, tone, ops, val1, untl]
  · simp [nodeE, tone, ops, val1, untl]

/-! ### a row under way -/
/-- The first k of a row, and none behind. -/
def mid (l : List Bool) (k : Nat) : List Bool := l.take k ++ List.replicate (l.length - k) false
theorem mid_length {l : List Bool} {k : Nat} (h : k ≤ l.length) : (mid l k).length = l.length := by simp [mid]; omega
theorem mid_zero (l : List Bool) : mid l 0 = List.replicate l.length false := by simp [mid]
theorem mid_all (l : List Bool) : mid l l.length = l := by simp [mid]
theorem mid_get {l : List Bool} {k i : Nat} (h : i < k) (hk : k ≤ l.length) : (mid l k)[i]? = l[i]? := by
  rw [mid, List.getElem?_append_left (by rw [List.length_take]; omega), List.getElem?_take, if_pos h]
theorem mid_getD {l : List Bool} {k i : Nat} (h : i < k) (hk : k ≤ l.length) : (mid l k).getD i false = l.getD i false := by
  rw [List.getD_eq_getElem?_getD, List.getD_eq_getElem?_getD, mid_get h hk]
theorem mid_at {l : List Bool} {k : Nat} (h : k < l.length) : (mid l k)[k]? = some false := by
  rw [mid, List.getElem?_append_right (by rw [List.length_take]; omega), List.length_take, List.getElem?_replicate, if_pos (by omega)]
theorem mid_set {l : List Bool} {k : Nat} {b : Bool} (h : l[k]? = some b) : (mid l k).set k b = mid l (k + 1) := by
  obtain ⟨hk, hb⟩ := List.getElem?_eq_some_iff.1 h
  refine List.ext_getElem? fun i => ?_
  rw [List.getElem?_set, mid_length (by omega)]
  by_cases e : k = i
  · subst e
    rw [if_pos rfl, if_pos hk, mid_get (by omega) (by omega), h]
  · rw [if_neg e]
    by_cases hi : i < k
    · rw [mid_get hi (by omega), mid_get (by omega) (by omega)]
    · unfold mid
      rw [List.getElem?_append_right (by rw [List.length_take]; omega), List.getElem?_append_right (by rw [List.length_take]; omega), List.length_take, List.length_take, List.getElem?_replicate, List.getElem?_replicate]
      have : (i - min k l.length < l.length - k) ↔ (i - min (k + 1) l.length < l.length - (k + 1)) := by omega
      simp only [this]
theorem vec_at (f : List Nd) (w : List Int) {k : Nat} (h : k < f.length) : (vec f w)[k]? = some (vat f w k 0) := by
  rw [vec, List.getElem?_map, List.getElem?_range h]; rfl
theorem mid_vec (f : List Nd) (w : List Int) {k : Nat} (hk : k ≤ f.length) : ∀ i, i < k → (mid (vec f w) k).getD i false = vat f w i 0 := fun i hi => by
  rw [mid_getD hi (by rw [vec_length]; exact hk), vec_get f w (by omega)]
end Go.Proofs.YtaelgnmklepebaaDoor.Fm
