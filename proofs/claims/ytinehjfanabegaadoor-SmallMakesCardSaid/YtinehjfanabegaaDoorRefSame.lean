/- Tables of ints that a call makes, rows that are written to; the rounds of the table that says in how many steps two states are told apart. The walk of the document's answer that tells states apart: stilewardref1's Apart. The walk of the document's answer whether two accept the same: stilewardref1's Same. -/
import Derived.Test.YtinehjfanabegaaDoorReachL
import Derived.Test.YtinehjfanabegaaDoorSmallM
import Derived.Test.YtinehjfanabegaaDoorRefPair

namespace Go.Proofs.YtinehjfanabegaaDoor.Sm
open Go.RowKit Go.IntWalk Go.Proofs.YtinehjfanabegaaDoor.Wd Go.Proofs.YtinehjfanabegaaDoor.Wo Go.Proofs.YtinehjfanabegaaDoor.Df Go.Proofs.YtinehjfanabegaaDoor.Rc

/-- The rows: a block and a list of ints each. -/
abbrev Ir := Nat × List Int
def irV (N : Nat) (r : Ir) : Value := .slice (some ⟨r.1, 0, none⟩) N N
def eEachI (N : Nat) (rs : List Ir) : List Ent := rs.map fun r => eInts (irV N r) r.2
theorem eEachI_snoc (N : Nat) (rs : List Ir) (r : Ir) : eEachI N (rs ++ [r]) = eEachI N rs ++ [eInts (irV N r) r.2] := by unfold eEachI; rw [List.map_append]; rfl
/-- A table whose rows are still written to. -/
def OwnI (w0 w : World) (N : Nat) (tv : Value) (rs : List Ir) : Prop := Own w0 w (eRows tv (rs.map (irV N)) :: eEachI N rs) [] ∧ ∀ r ∈ rs, r.2.length = N
theorem ownI_on {w0 w w' : World} {N : Nat} {tv : Value} {rs : List Ir} (h : OwnI w0 w N tv rs) (hb : Below w.heap.size w w') : OwnI w0 w' N tv rs := ⟨h.1.on hb, h.2⟩
theorem ownI_form {w0 w : World} {N : Nat} {tv : Value} {rs : List Ir} (h : OwnI w0 w N tv rs) : ∃ A cap, tv = .slice A rs.length cap := by
  obtain ⟨A, cap, hv, _⟩ := h.1.form (e := eRows tv (rs.map (irV N))) (by simp)
  simp only [eRows, List.length_map] at hv
  exact ⟨A, cap, hv⟩
theorem ownI_row {w0 w : World} {N cap : Nat} {A : Option Addr} {rs : List Ir} (h : OwnI w0 w N (.slice A rs.length cap) rs) {k : Nat} {r : Ir} (hk : rs[k]? = some r) : ∃ ad, A = some ad ∧ ad.block < w.heap.size ∧ w.cell? (ad.add k) = some (irV N r) := by
  have hm : (⟨26, 1, .slice A rs.length cap, rs.length, rs.map (irV N)⟩ : Ent) ∈ (eRows (.slice A rs.length cap) (rs.map (irV N)) :: eEachI N rs) ++ [] := by
    have : eRows (.slice A rs.length cap) (rs.map (irV N)) = ⟨26, 1, .slice A rs.length cap, rs.length, rs.map (irV N)⟩ := by unfold eRows; rw [List.length_map]
    rw [this]; simp
  exact h.1.cells hm k (irV N r) (by rw [List.getElem?_map, hk]; rfl)
theorem ownI_mem {N : Nat} {rs : List Ir} {tv : Value} {r : Ir} (hr : r ∈ rs) : eInts (irV N r) r.2 ∈ (eRows tv (rs.map (irV N)) :: eEachI N rs) ++ [] := List.mem_append_left _ (List.mem_cons_of_mem _ (List.mem_map.2 ⟨r, hr, rfl⟩))
theorem ownI_frozen {w0 w : World} {N : Nat} {tv : Value} {rs : List Ir} (h : OwnI w0 w N tv rs) {i : Nat} {r : Ir} (hi : rs[i]? = some r) {j : Nat} {x : Int} (hj : r.2[j]? = some x) : w.cell? ⟨r.1, j, none⟩ = some (.int .i64 x) ∧ w.frozen? ⟨r.1, j, none⟩ = false := by
  have hm := List.mem_of_getElem? hi
  exact own_ints_cell (g := r.1) (n := N) (cap := N) (l := r.2) h.1 (ownI_mem hm) (h.2 r hm) hj
theorem ownI_lt {w0 w : World} {N : Nat} {tv : Value} {rs : List Ir} (h : OwnI w0 w N tv rs) {i : Nat} {r : Ir} (hi : rs[i]? = some r) : r.1 < w.heap.size := by
  have hm := List.mem_of_getElem? hi
  have hm2 : (⟨3, 1, .slice (some ⟨r.1, 0, none⟩) N N, N, r.2.map i64⟩ : Ent) ∈ (eRows tv (rs.map (irV N)) :: eEachI N rs) ++ [] := by
    have : eInts (irV N r) r.2 = ⟨3, 1, .slice (some ⟨r.1, 0, none⟩) N N, N, r.2.map i64⟩ := by unfold eInts irV; rw [h.2 r hm]
    rw [← this]; exact ownI_mem hm
  exact (h.1.lt hm2).2
theorem map_set_eq {α β : Type} (f : α → β) (l : List α) (i : Nat) (x : α) (h : ∀ y, l[i]? = some y → f x = f y) : (l.set i x).map f = l.map f := by
  refine List.ext_getElem? fun k => ?_
  rw [List.getElem?_map, List.getElem?_map, List.getElem?_set]
  by_cases e : i = k
  · subst e
    by_cases hl : i < l.length
    · rw [if_pos rfl, if_pos hl, List.getElem?_eq_getElem hl, Option.map_some, Option.map_some, h _ (List.getElem?_eq_getElem hl)]
    · rw [if_pos rfl, if_neg hl, List.getElem?_eq_none (by omega)]
      try rfl
  · rw [if_neg e]
/-- 'm[i][j] = x'. -/
theorem ownI_set {w0 w : World} {N : Nat} {tv : Value} {rs : List Ir} (h : OwnI w0 w N tv rs) {i : Nat} {r : Ir} (hi : rs[i]? = some r) (j : Nat) (x : Int) :
    OwnI w0 (w.setCell ⟨r.1, j, none⟩ (.int .i64 x)) N tv (rs.set i (r.1, r.2.set j x)) := by
  obtain ⟨hil, hie⟩ := List.getElem?_eq_some_iff.1 hi
  have hm := List.mem_of_getElem? hi
  have hlen : i + 1 < (eRows tv (rs.map (irV N)) :: eEachI N rs).length := by simp [eEachI]; exact hil
  have h1 := h.1.pull (i + 1) hlen
  have e1 : (eRows tv (rs.map (irV N)) :: eEachI N rs)[i + 1] = eInts (irV N r) r.2 := by
    simp only [List.getElem_cons_succ, eEachI, List.getElem_map, hie]
  rw [e1] at h1
  have h2 := own_ints_set h1 (h.2 r hm) j x
  have hrows : (rs.set i (r.1, r.2.set j x)).map (irV N) = rs.map (irV N) := map_set_eq _ _ _ _ fun y hy => by
    obtain rfl := Option.some.inj (hi.symm.trans hy); rfl
  have heach : eEachI N (rs.set i (r.1, r.2.set j x)) = (eEachI N rs).set i (eInts (irV N r) (r.2.set j x)) := by unfold eEachI; rw [List.map_set]; rfl
  refine ⟨?_, fun q hq => ?_⟩
  · rw [hrows, heach]
    refine Own.put (i + 1) (by simp [eEachI]; exact hil) ?_
    simp only [List.getElem_cons_succ, List.getElem_set_self, List.eraseIdx_cons_succ, List.eraseIdx_set_eq]
    simp only [List.eraseIdx_cons_succ] at h2
    exact h2
  · rcases List.mem_or_eq_of_mem_set hq with hq | rfl
    · exact h.2 q hq
    · rw [List.length_set]; exact h.2 r hm
theorem ownI_snoc {w0 w : World} {N : Nat} {v : Value} {rs : List Ir} {g : Nat} {l : List Int} (hl : l.length = N) (hr : ∀ r ∈ rs, r.2.length = N) (h : Own w0 w (eRows v (rs.map (irV N) ++ [rowV g N]) :: eInts (rowV g N) l :: eEachI N rs) []) : OwnI w0 w N v (rs ++ [(g, l)]) := by
  refine ⟨?_, fun r hm => ?_⟩
  · rw [List.map_append, eEachI_snoc]
    exact h.perm ((List.perm_append_singleton _ _).symm.cons _)
  · rcases List.mem_append.1 hm with hm | hm
    · exact hr r hm
    · simp at hm; subst hm; exact hl
/-- What reads as a table of ints. -/
def TabI (w : World) (A : Option Addr) (N : Nat) (rs : List Ir) : Prop :=
  ∀ (k : Nat) (r : Ir), rs[k]? = some r → (∃ ad, A = some ad ∧ ad.block < w.heap.size ∧ w.cell? (ad.add k) = some (irV N r)) ∧ r.1 < w.heap.size ∧ ∀ j x, r.2[j]? = some x → w.cell? ⟨r.1, j, none⟩ = some (.int .i64 x)
theorem ownI_tab {w0 w : World} {N cap : Nat} {A : Option Addr} {rs : List Ir} (h : OwnI w0 w N (.slice A rs.length cap) rs) : TabI w A N rs := fun _ _ hk => ⟨ownI_row h hk, ownI_lt h hk, fun _ _ hj => (ownI_frozen h hk hj).1⟩
theorem TabI.on {w w' : World} {A : Option Addr} {N : Nat} {rs : List Ir} (h : TabI w A N rs) (hb : Below w.heap.size w w') : TabI w' A N rs := fun k r hk => by
  obtain ⟨⟨ad, e, h2, h3⟩, h4, h5⟩ := h k r hk
  exact ⟨⟨ad, e, Nat.lt_of_lt_of_le h2 hb.size, (hb.cell (p := ad.add k) (by rw [Wd.block_add]; exact h2)).trans h3⟩, Nat.lt_of_lt_of_le h4 hb.size, fun j x hj => (hb.cell (p := ⟨r.1, j, none⟩) h4).trans (h5 j x hj)⟩
/-- A row of a function. -/
def iF (n : Nat) (f : Nat → Int) : List Int := (List.range n).map f
theorem iF_length (n : Nat) (f : Nat → Int) : (iF n f).length = n := by simp [iF]
theorem iF_get {n i : Nat} (f : Nat → Int) (h : i < n) : (iF n f)[i]? = some (f i) := by unfold iF; rw [List.getElem?_map, List.getElem?_range h]; rfl
theorem iF_congr {n : Nat} {f g : Nat → Int} (h : ∀ t, t < n → f t = g t) : iF n f = iF n g := List.map_congr_left fun t ht => h t (List.mem_range.1 ht)
theorem iF_set (n : Nat) (f : Nat → Int) (i : Nat) (x : Int) : (iF n f).set i x = iF n (fun t => if t = i then x else f t) := by
  refine List.ext_getElem? fun k => ?_
  rw [List.getElem?_set, iF_length]
  by_cases hk : k < n
  · rw [iF_get _ hk, iF_get _ hk]
    by_cases e : i = k
    · subst e; simp [hk]
    · rw [if_neg e, if_neg (fun q => e q.symm)]
  · rw [List.getElem?_eq_none (by rw [iF_length]; omega), List.getElem?_eq_none (by rw [iF_length]; omega)]
    split
    · rw [if_neg (by omega)]
    · rfl
theorem iF_zero (n : Nat) : iF n (fun _ => 0) = List.replicate n 0 := by
  unfold iF; rw [List.map_const']; simp
/-- The rows are those of a table of functions. -/
def RowsI (N : Nat) (rs : List Ir) (M : Nat → Nat → Int) : Prop := ∀ i r, rs[i]? = some r → r.2 = iF N (M i)
theorem RowsI.get {N : Nat} {rs : List Ir} {M : Nat → Nat → Int} (h : RowsI N rs M) {i j : Nat} {r : Ir} (hi : rs[i]? = some r) (hj : j < N) : r.2[j]? = some (M i j) := by rw [h i r hi]; exact iF_get _ hj
theorem rowsI_congr {N : Nat} {rs : List Ir} {M M' : Nat → Nat → Int} (h : RowsI N rs M) (e : ∀ i j, i < rs.length → j < N → M i j = M' i j) : RowsI N rs M' := fun i r hi => by
  rw [h i r hi]
  exact iF_congr fun t ht => e i t (List.getElem?_eq_some_iff.1 hi).1 ht
theorem rowsI_set {N : Nat} {rs : List Ir} {M M' : Nat → Nat → Int} (h : RowsI N rs M) {i j : Nat} {r : Ir} {x : Int} (hi : rs[i]? = some r) (hx : M' i j = x) (e : ∀ y z, y < rs.length → z < N → ¬(y = i ∧ z = j) → M y z = M' y z) : RowsI N (rs.set i (r.1, r.2.set j x)) M' := fun k q hk => by
  rw [List.getElem?_set] at hk
  by_cases ek : i = k
  · subst ek
    have hil := (List.getElem?_eq_some_iff.1 hi).1
    rw [if_pos rfl, if_pos hil] at hk
    obtain rfl := Option.some.inj hk
    simp only
    rw [h i r hi, iF_set]
    refine iF_congr fun t ht => ?_
    by_cases e2 : t = j
    · subst e2; rw [if_pos rfl]; exact hx.symm
    · rw [if_neg e2]; exact e i t hil ht (fun q => e2 q.2)
  · rw [if_neg ek] at hk
    rw [h k q hk]
    exact iF_congr fun t ht => e k t (List.getElem?_eq_some_iff.1 hk).1 ht (fun q => ek q.1.symm)
theorem rowsI_snoc {N : Nat} {rs : List Ir} {M : Nat → Nat → Int} (h : RowsI N rs M) (g : Nat) {k : Nat} (hk : rs.length = k) : RowsI N (rs ++ [(g, iF N (M k))]) M := fun j r hj => by
  by_cases hl : j < rs.length
  · rw [List.getElem?_append_left hl] at hj; exact h j r hj
  · have h2 := (List.getElem?_eq_some_iff.1 hj).1
    rw [List.length_append, List.length_singleton] at h2
    obtain rfl : j = rs.length := by omega
    rw [List.getElem?_append_right (Nat.le_refl _), Nat.sub_self] at hj
    simp at hj; subst hj; rw [hk]

/-! ### the rounds -/
/-- A first row, midway. -/
def v0 (a b : Aut) (s t y : Nat) : Int := if y < t then val a b 1 false s y else 0
theorem v0_start (a b : Aut) (s n : Nat) : List.replicate n 0 = iF n (v0 a b s 0) := by
  rw [← iF_zero]; exact iF_congr fun t _ => by unfold v0; rw [if_neg (by omega)]
theorem v0_one {a b : Aut} (g : Good2 a b) {s t n : Nat} (hs : s < a.next.length) (ht : t < b.next.length) (h : finA a s = finA b t) : (iF n (v0 a b s t)).set t (-1) = iF n (v0 a b s (t + 1)) := by
  rw [iF_set]
  refine iF_congr fun y _ => ?_
  unfold v0
  by_cases e : y = t
  · subst e; rw [if_pos rfl, if_pos (by omega), val_start g hs ht, if_neg (by rw [h]; simp)]
  · rw [if_neg e]
    by_cases e2 : y < t
    · rw [if_pos e2, if_pos (by omega)]
    · rw [if_neg e2, if_neg (by omega)]
theorem v0_two {a b : Aut} (g : Good2 a b) {s t n : Nat} (hs : s < a.next.length) (ht : t < b.next.length) (h : finA a s ≠ finA b t) : ((iF n (v0 a b s t)).set t (-1)).set t 0 = iF n (v0 a b s (t + 1)) := by
  rw [List.set_set, iF_set]
  refine iF_congr fun y _ => ?_
  unfold v0
  by_cases e : y = t
  · subst e; rw [if_pos rfl, if_pos (by omega), val_start g hs ht, if_pos h]
  · rw [if_neg e]
    by_cases e2 : y < t
    · rw [if_pos e2, if_pos (by omega)]
    · rw [if_neg e2, if_neg (by omega)]
theorem v0_full {a b : Aut} {s n : Nat} : iF n (v0 a b s n) = iF n (val a b 1 false s) := iF_congr fun y hy => by unfold v0; rw [if_pos hy]
/-- Whose turn is over. -/
def turn (s t x y : Nat) : Bool := decide (x < s ∨ (x = s ∧ y < t))
def vt (a b : Aut) (k s t x y : Nat) : Int := val a b k (turn s t x y) x y
/-- Has a pair whose turn is over been set in this round? -/
def Ag (a b : Aut) (k s t : Nat) (g : Bool) : Prop := (g = true → ∃ x y, x < a.next.length ∧ y < b.next.length ∧ lev a b x y = (k : Int)) ∧ (g = false → ∀ x y, x < a.next.length → y < b.next.length → turn s t x y = true → lev a b x y ≠ (k : Int))
theorem turn_row (s n x y : Nat) (hy : y < n) : turn s n x y = turn (s + 1) 0 x y := by
  unfold turn; rw [decide_eq_decide]; omega
theorem turn_next (s t x y : Nat) (h : ¬(x = s ∧ y = t)) : turn s t x y = turn s (t + 1) x y := by
  unfold turn; rw [decide_eq_decide]; omega
theorem turn_at (s t : Nat) : turn s t s t = false := by unfold turn; rw [decide_eq_false]; omega
theorem turn_done (s t : Nat) : turn s (t + 1) s t = true := by unfold turn; rw [decide_eq_true]; omega
theorem turn_start (x y : Nat) : turn 0 0 x y = false := by unfold turn; rw [decide_eq_false]; omega
theorem turn_all {s x : Nat} (y : Nat) (h : x < s) : turn s 0 x y = true := by unfold turn; rw [decide_eq_true]; omega
/-- The table in round k + 1, at the pair's turn. -/
def T2 (w1 wr : World) (a b : Aut) (N k s t : Nat) (g : Bool) (tv : Value) : Prop := ∃ rs, OwnI w1 wr N tv rs ∧ rs.length = a.next.length ∧ RowsI N rs (vt a b (k + 1) s t) ∧ Ag a b (k + 1) s t g
/-- The head of round k + 1. -/
def T1 (w1 wr : World) (a b : Aut) (N k : Nat) (g : Bool) (tv : Value) : Prop := ∃ rs, OwnI w1 wr N tv rs ∧ rs.length = a.next.length ∧ RowsI N rs (val a b (k + 1) false) ∧ (g = true → k = 0 ∨ ∃ x y, x < a.next.length ∧ y < b.next.length ∧ lev a b x y = (k : Int)) ∧ (g = false → ∀ x y, x < a.next.length → y < b.next.length → lev a b x y ≠ (k : Int))
theorem t1_start {w1 wr : World} {a b : Aut} {N k : Nat} {g : Bool} {tv : Value} (h : T1 w1 wr a b N k g tv) : T2 w1 wr a b N k 0 0 false tv := by
  obtain ⟨rs, h1, h2, h3, _⟩ := h
  exact ⟨rs, h1, h2, rowsI_congr h3 fun x y _ _ => by unfold vt; rw [turn_start], ⟨fun e => absurd e (by decide), fun _ x y _ _ e => by rw [turn_start] at e; cases e⟩⟩
theorem t2_row {w1 wr : World} {a b : Aut} {N k s : Nat} {g : Bool} {tv : Value} (hN : b.next.length = N) (h : T2 w1 wr a b N k s N g tv) : T2 w1 wr a b N k (s + 1) 0 g tv := by
  obtain ⟨rs, h1, h2, h3, h4, h5⟩ := h
  exact ⟨rs, h1, h2, rowsI_congr h3 fun x y _ hy => by unfold vt; rw [turn_row s N x y hy], h4, fun e x y hx hy ht => h5 e x y hx hy (by rw [turn_row s N x y (by omega)]; exact ht)⟩
theorem t2_end {w1 wr : World} {a b : Aut} {N k s : Nat} {g : Bool} {tv : Value} (hs : a.next.length = s) (h : T2 w1 wr a b N k s 0 g tv) : T1 w1 wr a b N (k + 1) g tv := by
  obtain ⟨rs, h1, h2, h3, h4, h5⟩ := h
  exact ⟨rs, h1, h2, rowsI_congr h3 fun x y hx _ => by unfold vt; rw [turn_all y (by omega), val_next], fun e => .inr (h4 e), fun e x y hx hy => h5 e x y hx hy (turn_all y (by omega))⟩
/-- A pair that is known already: its turn changes nothing. -/
theorem t2_known {w1 wr : World} {a b : Aut} {N k s t : Nat} {g : Bool} {tv : Value} (h : T2 w1 wr a b N k s t g tv) (h0 : 0 ≤ val a b (k + 1) false s t) : T2 w1 wr a b N k s (t + 1) g tv := by
  obtain ⟨rs, h1, h2, h3, h4, h5⟩ := h
  refine ⟨rs, h1, h2, rowsI_congr h3 fun x y _ _ => ?_, h4, fun e x y hx hy ht => ?_⟩
  · unfold vt
    by_cases q : x = s ∧ y = t
    · obtain ⟨rfl, rfl⟩ := q; rw [turn_at, turn_done, val_old h0]
    · rw [turn_next s t x y q]
  · by_cases q : x = s ∧ y = t
    · obtain ⟨rfl, rfl⟩ := q
      have := val_known h0
      intro el
      unfold val at h0
      rw [if_neg (fun q => q.elim (fun q => by omega) (fun q => absurd q.2 (by decide)))] at h0
      omega
    · exact h5 e x y hx hy (by rw [turn_next s t x y q]; exact ht)
theorem t2_keep {w1 wr : World} {a b : Aut} {N k s t : Nat} {g : Bool} {tv : Value} (gd : Good2 a b) (hs : s < a.next.length) (ht : t < b.next.length) (h : T2 w1 wr a b N k s t g tv) (h0 : ∀ c : Nat, (c : Int) < a.L → lev a b (Df.step a s c) (Df.step b t c) ≠ (k : Int)) : T2 w1 wr a b N k s (t + 1) g tv := by
  obtain ⟨rs, h1, h2, h3, h4, h5⟩ := h
  obtain ⟨k1, k2⟩ := val_keep gd hs ht h0
  refine ⟨rs, h1, h2, rowsI_congr h3 fun x y _ _ => ?_, h4, fun e x y hx hy ht' => ?_⟩
  · unfold vt
    by_cases q : x = s ∧ y = t
    · obtain ⟨rfl, rfl⟩ := q; rw [turn_at, turn_done, k1]
    · rw [turn_next s t x y q]
  · by_cases q : x = s ∧ y = t
    · obtain ⟨rfl, rfl⟩ := q; exact k2
    · exact h5 e x y hx hy (by rw [turn_next s t x y q]; exact ht')
theorem t2_set {w1 wr : World} {a b : Aut} {N k s t c : Nat} {tv : Value} {rs : List Ir} {r : Ir} (gd : Good2 a b) (hs : s < a.next.length) (ht : t < b.next.length) (h1 : OwnI w1 wr N tv rs) (h2 : rs.length = a.next.length) (h3 : RowsI N rs (vt a b (k + 1) s t))
    (hr : rs[s]? = some r) (h0 : val a b (k + 1) false s t < 0) (hc : (c : Int) < a.L) (hl : lev a b (Df.step a s c) (Df.step b t c) = (k : Int)) : T2 w1 (wr.setCell ⟨r.1, t, none⟩ (.int .i64 ((k + 1 : Nat) : Int))) a b N k s (t + 1) true tv := by
  have k1 := val_set gd hs ht h0 hc hl
  refine ⟨_, ownI_set h1 hr t _, by rw [List.length_set]; exact h2, rowsI_set h3 hr ?_ fun y z _ _ q => ?_, ⟨fun _ => ⟨s, t, hs, ht, ?_⟩, fun e => absurd e (by decide)⟩⟩
  · unfold vt; rw [turn_done]; exact k1
  · unfold vt; rw [turn_next s t y z q]
  · have := val_known (k := k + 1) (e := true) (x := s) (y := t) (by rw [k1]; omega)
    rw [← this]; exact k1
/-- Within the letters: not set yet, or set. -/
def C2 (w1 wr : World) (a b : Aut) (N k s t c : Nat) (g : Bool) (tv : Value) : Prop :=
  (T2 w1 wr a b N k s t g tv ∧ val a b (k + 1) false s t < 0 ∧ ∀ e : Nat, e < c → lev a b (Df.step a s e) (Df.step b t e) ≠ (k : Int)) ∨ (T2 w1 wr a b N k s (t + 1) g tv ∧ 0 ≤ val a b (k + 1) true s t)
theorem c2_start {w1 wr : World} {a b : Aut} {N k s t : Nat} {g : Bool} {tv : Value} (h : T2 w1 wr a b N k s t g tv) : C2 w1 wr a b N k s t 0 g tv := by
  by_cases h0 : 0 ≤ val a b (k + 1) false s t
  · exact .inr ⟨t2_known h h0, by rw [val_old h0]; exact h0⟩
  · exact .inl ⟨h, by omega, fun e he => by omega⟩
theorem c2_end {w1 wr : World} {a b : Aut} {N k s t c : Nat} {g : Bool} {tv : Value} (gd : Good2 a b) (hs : s < a.next.length) (ht : t < b.next.length) (hc : a.L = (c : Int)) (h : C2 w1 wr a b N k s t c g tv) : T2 w1 wr a b N k s (t + 1) g tv := by
  rcases h with ⟨h1, h2, h3⟩ | ⟨h1, _⟩
  · exact t2_keep gd hs ht h1 fun e he => h3 e (by omega)
  · exact h1
end Go.Proofs.YtinehjfanabegaaDoor.Sm

namespace Go.Proofs.YtinehjfanabegaaDoor.Sm
open Go.RowKit Go.IntWalk Go.Proofs.YtinehjfanabegaaDoor.Wd Go.Proofs.YtinehjfanabegaaDoor.Wo Go.Proofs.YtinehjfanabegaaDoor.Df Go.Proofs.YtinehjfanabegaaDoor.Rc

/-- The first rows under way. -/
def P1 (w1 wr : World) (a b : Aut) (N k : Nat) (tv : Value) : Prop := ∃ rs, OwnI w1 wr N tv rs ∧ rs.length = k ∧ RowsI N rs (val a b 1 false)
set_option linter.unusedSimpArgs false in
set_option maxRecDepth 100000 in
set_option maxHeartbeats 4000000 in
theorem rapart_any (v z : Value) (a b : Aut) (w : World) (ha : DfaAt w w.heap.size v a) (hb : DfaAt w w.heap.size z b) (hg : Good2 a b) :
    Calls Tryd.prog 79 #[v, z] w fun e w' => Hid (∃ A cap rs, e = .returned (.slice A a.next.length cap) ∧ rs.length = a.next.length ∧ RowsI b.next.length rs (lev a b) ∧ TabI w' A b.next.length rs ∧ Below w.heap.size w w') := by
  obtain ⟨L, s, A, c, F, cf, rfl, ha⟩ := ha
  obtain ⟨L', t, C, d, G, cg, rfl, hb⟩ := hb
  obtain ⟨wx, hwx, hBx, hX, hd1⟩ := box_dfa w ha
  obtain ⟨w1, hw1, hB1, hY, hd2⟩ := box_dfa wx (hb.on hBx)
  have hs1 : wx.heap.size = w.heap.size + 1 := by rw [hwx]; simp
  rw [hs1] at hY
  have HB := Lib.hid (hBx.trans (hB1.mono hBx.size))
  have HX := Lib.hid (hX.on hB1)
  have HY := Lib.hid hY
  have HDA := Lib.hid (hd1.on hB1)
  have HDB := Lib.hid hd2
  have HW : Hid (w1 = (w.alloc (.cells #[.int .i64 L, .int .i64 s, .slice A a.next.length c, .slice F a.fin.length cf] 25)).alloc (.cells #[.int .i64 L', .int .i64 t, .slice C b.next.length d, .slice G b.fin.length cg] 25)) := by
    rw [← hwx]; exact hw1
  have HG := Lib.hid hg
  obtain ⟨n, hn⟩ := Int.eq_ofNat_of_zero_le (show 0 ≤ L by have := hg.ga.l1; have := ha.eL; omega)
  subst hn
  have HL : Hid (a.L = (n : Int)) := ha.eL
  have HLb : Hid (b.L = (n : Int)) := by have := hg.eL; have := ha.eL; unfold Hid; omega
  have hn6 : n ≤ 6 := by have := hg.ga.l6; have := ha.eL; omega
  have hM40 := hg.ga.n40
  have hN40 := hg.gb.n40
  have hfa := hg.ga.fin
  have hfb := hg.gb.fin
  clear hwx hw1 hBx hB1 hX hY hd1 hd2 hs1 ha hb hg
  generalize a.fin.length = fa at *
  generalize b.fin.length = fb at *
  generalize hM : a.next.length = M at *
  generalize hN : b.next.length = N at *
  have HM := Lib.hid hM
  have HN := Lib.hid hN
  have hfa1 : fa ≤ M := by omega
  have hfa2 : M ≤ fa := by omega
  have hfb1 : fb ≤ N := by omega
  have hfb2 : N ≤ fb := by omega
  clear hM hN hfa hfb
  have HS : Hid (P1 w1 w1 a b N 0 (.slice none 0 0)) := ⟨[], ⟨(own_start w1).nil 26 1, fun r hr => by simp at hr⟩, rfl, fun j r hj => by simp at hj⟩
  go_enter Tryd.func79, Tryd.ntmps79
  go_wp2
  rw [← HW.out]
  clear HW
  go_loopw [5, 6] (fun tv i wr => ∃ (k : Nat), k ≤ M ∧ i = .int .i64 k ∧ Hid (P1 w1 wr a b N k tv)) (fun _ i _ => M - (intOf i).toNat)
  case atStart => exact ⟨0, by omega, rfl, HS⟩
  case round =>
    clear HS
    obtain ⟨k, hk, rfl, HS⟩ := hrel
    obtain ⟨rs, hown, hlen, hrows⟩ := HS.out
    have HLen := Lib.hid hlen
    have HRows := Lib.hid hrows
    have HRL := Lib.hid hown.2
    have HO := Lib.hid hown
    have hlen1 : (rs.map (irV N)).length < 1099511627776 := by rw [List.length_map]; omega
    clear HS hown hlen hrows
    have hc2 := (HX.out.on HO.out.1.below).c2
    by_cases hkM : k < M
    · as_aux_lemma =>
        have hd2 := (HY.out.on HO.out.1.below).c2
        go_wp2_with (at_make; refine mk_ints rfl _ _ rfl N rfl rfl (by omega) ?_)
        intro w4 hm4
        have hj4 := HO.out.1.join (Own.of_nums hm4)
        have HR0 : Hid (Own w1 w4 (eInts (rowV wr.heap.size N) (iF N (v0 a b k 0)) :: eRows u5 (rs.map (irV N)) :: eEachI N rs) []) := by
          rw [← v0_start]; exact hj4
        clear hm4 hj4 HO hc2 hd2
        generalize wr.heap.size = gw at *
        go_wp2
        have HKl : Hid (k < a.next.length) := by unfold Hid; rw [HM.out]; exact hkM
        go_loopw [8] (fun i wi => ∃ (q : Nat), q ≤ N ∧ i = .int .i64 q ∧ Hid (Own w1 wi (eInts (rowV gw N) (iF N (v0 a b k q)) :: eRows u5 (rs.map (irV N)) :: eEachI N rs) [])) (fun i _ => N - (intOf i).toNat)
        case atStart => exact ⟨0, by omega, rfl, HR0⟩
        case round =>
          clear HR0
          obtain ⟨q, hq, rfl, HR⟩ := hrel
          by_cases hqN : q < N
          · have hqN' : Hid (q < b.next.length) := by unfold Hid; rw [HN.out]; exact hqN
            obtain ⟨hk1, hk2⟩ := own_ints_cell (g := gw) (n := N) (cap := N) (l := iF N (v0 a b k q)) HR.out (List.mem_append_left _ List.mem_cons_self) (iF_length _ _) (iF_get _ hqN)
            have HR1 := Lib.hid (own_ints_set HR.out (iF_length _ _) q (-1))
            obtain ⟨hk3, hk4⟩ := own_ints_cell (g := gw) (n := N) (cap := N) (l := (iF N (v0 a b k q)).set q (-1)) HR1.out (List.mem_append_left _ List.mem_cons_self) (by rw [List.length_set]; exact iF_length _ _) (x := -1) (j := q) (by rw [List.getElem?_set, if_pos rfl, if_pos (by rw [iF_length]; exact hqN)])
            have HR2 := Lib.hid (own_ints_set HR1.out (by rw [List.length_set]; exact iF_length _ _) q 0)
            have HE1 : Hid (finA a k = finA b q → Own w1 (wr.setCell ⟨gw, q, none⟩ (.int .i64 (-1))) (eInts (rowV gw N) (iF N (v0 a b k (q + 1))) :: eRows u5 (rs.map (irV N)) :: eEachI N rs) []) := fun e => by
              rw [← v0_one HG.out HKl.out hqN'.out e]; exact HR1.out
            have HE2 : Hid (finA a k ≠ finA b q → Own w1 ((wr.setCell ⟨gw, q, none⟩ (.int .i64 (-1))).setCell ⟨gw, q, none⟩ (.int .i64 0)) (eInts (rowV gw N) (iF N (v0 a b k (q + 1))) :: eRows u5 (rs.map (irV N)) :: eEachI N rs) []) := fun e => by
              rw [← v0_two HG.out HKl.out hqN'.out e]; exact HR2.out
            obtain ⟨adf, eF, hfa', hcf, _⟩ := (HDA.out.on HR1.out.below).fins.at_ (HG.out.ga.fin_at HKl.out)
            obtain ⟨adg, eG, hfb', hcg, _⟩ := (HDB.out.on HR1.out.below).fins.at_ (HG.out.gb.fin_at hqN'.out)
            subst eF eG
            have hc3 := (HX.out.on HR1.out.below).c3
            have hd3 := (HY.out.on HR1.out.below).c3
            have e1 : (k : Int) < (fa : Int) := by omega
            have e2 : (q : Int) < (fb : Int) := by omega
            have e3 : (q : Int) < (N : Int) := by omega
            clear HR HR1 HR2 hqN' hfa' hfb'
            generalize v0 a b k q q = old at *
            go_wp2_with fail
            generalize hw5 : wr.setCell ⟨gw, q, none⟩ (.int .i64 (-1)) = w5 at *
            clear hw5 hk1 hk2
            go_region
            clear hcf hcg hc3 hd3
            rcases h1 : finA a k with _ | _ <;> rcases h2 : finA b q with _ | _ <;> rw [h1, h2] at HE1 HE2
            · have HE := Lib.hid ((HE1.out rfl).drewN 1)
              clear HE1 HE2 h1 h2
              go_wp2
              go_roundw
              case rel => exact ⟨q + 1, by omega, by go_num, HE⟩
              case measure => simp [intOf]; omega
            · have HE := Lib.hid ((HE2.out (by decide)).drewN 1)
              clear HE1 HE2 h1 h2
              go_wp2
              go_roundw
              case rel => exact ⟨q + 1, by omega, by go_num, HE⟩
              case measure => simp [intOf]; omega
            · have HE := Lib.hid ((HE2.out (by decide)).drewN 1)
              clear HE1 HE2 h1 h2
              go_wp2
              go_roundw
              case rel => exact ⟨q + 1, by omega, by go_num, HE⟩
              case measure => simp [intOf]; omega
            · have HE := Lib.hid ((HE1.out rfl).drewN 1)
              clear HE1 HE2 h1 h2
              go_wp2
              go_roundw
              case rel => exact ⟨q + 1, by omega, by go_num, HE⟩
              case measure => simp [intOf]; omega
          · obtain rfl : q = N := by omega
            have HO2 : Hid (Own w1 wr (eRows u5 (rs.map (irV q)) :: eInts (rowV gw q) (iF q (val a b 1 false k)) :: eEachI q rs) []) := by rw [← v0_full]; exact HR.out.two
            clear HR
            go_wp2_with (at_builtin; refine own_row (by rfl) _ _ (by rfl) (by rfl) HO2.out (by rfl) (by rfl) hlen1 ?_)
            intro g8 cap8 w8 ho8
            have HE : Hid (P1 w1 w8 a b q (k + 1) (.slice (some ⟨g8, 0, none⟩) (rs.length + 1) cap8)) :=
              ⟨rs ++ [(gw, iF q (val a b 1 false k))], ownI_snoc (iF_length _ _) HRL.out ho8, by rw [List.length_append, HLen.out]; rfl, rowsI_snoc HRows.out gw HLen.out⟩
            clear ho8 HO2
            go_wp2
            go_roundw
            case rel => exact ⟨k + 1, by omega, by go_num, HE⟩
            case measure => simp [intOf]; omega
    · obtain rfl : k = M := by omega
      obtain ⟨At, ct, htv⟩ := ownI_form HO.out
      rw [HLen.out] at htv
      subst htv
      have HS2 : Hid (T1 w1 wr a b N 0 true (.slice At k ct)) := ⟨rs, HO.out, by rw [HLen.out, HM.out], HRows.out, fun _ => .inl rfl, fun e => absurd e (by decide)⟩
      clear HO HRows HRL HLen hlen1
      go_wp2
      clear hc2
      generalize wr = wz at *
      go_loopw [9, 10] (fun gv i wr => ∃ (x : Nat) (gb : Bool), x ≤ 120 ∧ gv = .bool gb ∧ i = .int .i64 ((x : Int) + 1) ∧ Hid (T1 w1 wr a b N x gb (.slice At k ct))) (fun _ i _ => 200 - (intOf i).toNat)
      case atStart => exact ⟨0, true, by omega, rfl, rfl, HS2⟩
      case round =>
        clear HS2
        obtain ⟨x, gb, hx, rfl, rfl, HS⟩ := hrel
        rcases gb with _ | _
        · obtain ⟨rs, h1, h2, h3, _, h5⟩ := HS.out
          have HT := Lib.hid (ownI_tab (N := N) (rs := rs) (A := At) (cap := ct) (by rw [h2, HM.out]; exact h1))
          have HBe := Lib.hid (HB.out.trans (h1.1.below.mono HB.out.size))
          have HLen := Lib.hid h2
          rw [HM.out] at HLen
          have HR : Hid (RowsI N rs (lev a b)) := rowsI_congr h3 fun y z hy hz => val_end HG.out (fun p q hp hq e => by
            have := lev_gap HG.out (h5 rfl) (x + 1) (by omega) p q hp hq
            exact this e) (by rw [← h2]; exact hy) (by rw [HN.out]; exact hz) false
          clear h1 h2 h3 h5 HS
          go_wp2
          go_ret
          exact ⟨At, ct, rs, rfl, HLen.out, HR.out, HT.out, HBe.out⟩
        · have hx2 : x ≤ 100 := by
            obtain ⟨rs, _, _, _, h4, _⟩ := HS.out
            rcases h4 rfl with rfl | ⟨p, q, hp, hq, e⟩
            · omega
            · have := lev_lt HG.out hp hq e
              rw [HM.out, HN.out] at this
              omega
          have HT0 := Lib.hid (t1_start HS.out)
          clear HS
          go_wp2
          go_loopw [9, 11] (fun gv i wr => ∃ (s : Nat) (gb : Bool), s ≤ k ∧ gv = .bool gb ∧ i = .int .i64 s ∧ Hid (T2 w1 wr a b N x s 0 gb (.slice At k ct))) (fun _ i _ => k - (intOf i).toNat)
          case atStart => exact ⟨0, false, by omega, rfl, rfl, HT0⟩
          case round =>
            clear HT0
            obtain ⟨s, gb, hs, rfl, rfl, HS⟩ := hrel
            have HBw : Hid (Below w1.heap.size w1 wr) := by obtain ⟨rs, h1, _⟩ := HS.out; exact h1.1.below
            have hc2 := (HX.out.on HBw.out).c2
            by_cases hsk : s < k
            · go_wp2
              clear hc2 HBw
              go_loopw [9, 12] (fun gv i wr => ∃ (t : Nat) (gb : Bool), t ≤ N ∧ gv = .bool gb ∧ i = .int .i64 t ∧ Hid (T2 w1 wr a b N x s t gb (.slice At k ct))) (fun _ i _ => N - (intOf i).toNat)
              case atStart => exact ⟨0, gb, by omega, rfl, rfl, HS⟩
              case round =>
                clear HS
                obtain ⟨t, gb, ht, rfl, rfl, HS⟩ := hrel
                have HBw : Hid (Below w1.heap.size w1 wr) := by obtain ⟨rs, h1, _⟩ := HS.out; exact h1.1.below
                have hd2 := (HY.out.on HBw.out).c2
                by_cases htN : t < N
                · have HC0 := Lib.hid (c2_start HS.out)
                  have HKs : Hid (s < a.next.length) := by unfold Hid; rw [HM.out]; exact hsk
                  have HKt : Hid (t < b.next.length) := by unfold Hid; rw [HN.out]; exact htN
                  go_wp2
                  clear hd2 HBw HS
                  go_loopw [9, 13] (fun gv i wr => ∃ (c : Nat) (gb : Bool), c ≤ n ∧ gv = .bool gb ∧ i = .int .i64 c ∧ Hid (C2 w1 wr a b N x s t c gb (.slice At k ct))) (fun _ i _ => n - (intOf i).toNat)
                  case atStart => exact ⟨0, gb, by omega, rfl, rfl, HC0⟩
                  case round =>
                    clear HC0
                    obtain ⟨c, gb, hc, rfl, rfl, HS⟩ := hrel
                    have HBw : Hid (Below w1.heap.size w1 wr) := by rcases HS.out with ⟨⟨rs, h1, _⟩, _⟩ | ⟨⟨rs, h1, _⟩, _⟩ <;> exact h1.1.below
                    have hc0 := (HX.out.on HBw.out).c0
                    by_cases hcn : c < n
                    · rcases HS.out with ⟨⟨rs, hown, hlen, hrows, hag⟩, hneg, hall⟩ | ⟨⟨rs, hown, hlen, hrows, hag⟩, hpos⟩
                      · as_aux_lemma =>
                          have hT := ownI_tab (N := N) (rs := rs) (A := At) (cap := ct) (by rw [hlen, HM.out]; exact hown)
                          have HcL : Hid ((c : Int) < a.L) := by rw [HL.out]; unfold Hid; omega
                          obtain ⟨ad, ar, mr, cr, eA, hadb, hcell, hjm, harb, hac⟩ := (HDA.out.on HBw.out).step_at HG.out.ga HKs.out (i := c) HcL.out
                          obtain ⟨ad', ar', mr', cr', eC, hadb', hcell', hjm', harb', hac'⟩ := (HDB.out.on HBw.out).step_at HG.out.gb HKt.out (i := c) (by rw [HLb.out]; omega)
                          subst eA eC
                          have hu := HG.out.ga.step_lt HKs.out HcL.out
                          have hv := HG.out.gb.step_lt HKt.out (a := c) (by rw [HLb.out]; omega)
                          rw [HM.out] at hu
                          rw [HN.out] at hv
                          obtain ⟨rS, hrS⟩ : ∃ r, rs[s]? = some r := ⟨_, List.getElem?_eq_getElem (by rw [hlen, HM.out]; exact hsk)⟩
                          obtain ⟨rU, hrU⟩ : ∃ r, rs[Df.step a s c]? = some r := ⟨_, List.getElem?_eq_getElem (by rw [hlen, HM.out]; exact hu)⟩
                          obtain ⟨⟨adt, e0, hatb, hats⟩, hrSb, hrSc⟩ := hT s rS hrS
                          subst e0
                          obtain ⟨⟨adt', e0, hatb', hatu⟩, hrUb, hrUc⟩ := hT _ rU hrU
                          cases e0
                          have c1 := hrSc t _ (hrows.get hrS htN)
                          have c2 := hrUc (Df.step b t c) _ (hrows.get hrU hv)
                          have c4 := (ownI_frozen hown hrS (hrows.get hrS htN)).2
                          have hca := (HX.out.on HBw.out).c2
                          have hcb := (HY.out.on HBw.out).c2
                          have hv1 : vt a b (x + 1) s t s t = val a b (x + 1) false s t := by unfold vt; rw [turn_at]
                          rw [hv1] at c1
                          have HHit : Hid (vt a b (x + 1) s t (Df.step a s c) (Df.step b t c) = (x : Int) ↔ lev a b (Df.step a s c) (Df.step b t c) = (x : Int)) := val_hit
                          have HSet : Hid (lev a b (Df.step a s c) (Df.step b t c) = (x : Int) → C2 w1 ((wr.drewN 1).setCell ⟨rS.1, t, none⟩ (.int .i64 ((x : Int) + 1))) a b N x s t (c + 1) true (.slice (some adt) k ct)) := fun e =>
                            .inr ⟨t2_set HG.out HKs.out HKt.out (ownI_on hown (below_drewN (Below.refl _ _) 1)) hlen hrows hrS hneg HcL.out e, by rw [val_set HG.out HKs.out HKt.out hneg HcL.out e]; omega⟩
                          have HKeep : Hid (lev a b (Df.step a s c) (Df.step b t c) ≠ (x : Int) → C2 w1 (wr.drewN 1) a b N x s t (c + 1) gb (.slice (some adt) k ct)) := fun e =>
                            .inl ⟨⟨rs, ownI_on hown (below_drewN (Below.refl _ _) 1), hlen, hrows, hag⟩, hneg, fun y hy => by
                              rcases Nat.lt_or_eq_of_le (Nat.le_of_lt_succ hy) with h | rfl
                              · exact hall y h
                              · exact e⟩
                          unfold irV at hats hatu
                          have e1 : (s : Int) < (k : Int) := by omega
                          have e2 : (t : Int) < (N : Int) := by omega
                          have e3 : (c : Int) < (mr : Int) := by omega
                          have e4 : (c : Int) < (mr' : Int) := by omega
                          have e5 : (Df.step a s c : Int) < (k : Int) := by omega
                          have e6 : (Df.step b t c : Int) < (N : Int) := by omega
                          have hw9 : IntKind.i64.wrap ((x : Int) + 1 - 1) = (x : Int) := by rw [show ((x : Int) + 1 - 1) = (x : Int) by omega]; exact IntWalk.i64_in _ ⟨by omega, by omega⟩
                          clear hown hlen hrows hag hT hrSc hrUc hrS hrU HS hall hv1 hadb hadb' harb harb' hatb hatb' hrSb hrUb HcL
                          generalize hX : vt a b (x + 1) s t (Df.step a s c) (Df.step b t c) = X at *
                          clear hX
                          generalize lev a b (Df.step a s c) (Df.step b t c) = Y at *
                          generalize Df.step a s c = u at *
                          generalize Df.step b t c = v at *
                          generalize val a b (x + 1) false s t = V at *
                          by_cases hit : X = (x : Int)
                          · have HE := Lib.hid (HSet.out (HHit.out.1 hit))
                            clear HSet HKeep HHit
                            subst hit
                            go_wp2_with fail
                            go_region
                            clear hcell hcell' hac hac' hw9 hatu c2 hca hcb
                            go_wp2
                            go_roundw
                            case rel => exact ⟨c + 1, true, by omega, rfl, by go_num, HE⟩
                            case measure => simp [intOf]; omega
                          · have HE := Lib.hid (HKeep.out (fun e => hit (HHit.out.2 e)))
                            clear HSet HKeep HHit
                            go_wp2_with fail
                            go_region
                            clear hcell hcell' hac hac' hw9 hatu c2 hca hcb
                            go_wp2
                            go_roundw
                            case rel => exact ⟨c + 1, gb, by omega, rfl, by go_num, HE⟩
                            case measure => simp [intOf]; omega
                      · as_aux_lemma =>
                          have hT := ownI_tab (N := N) (rs := rs) (A := At) (cap := ct) (by rw [hlen, HM.out]; exact hown)
                          obtain ⟨rS, hrS⟩ : ∃ r, rs[s]? = some r := ⟨_, List.getElem?_eq_getElem (by rw [hlen, HM.out]; exact hsk)⟩
                          obtain ⟨⟨adt, e0, hatb, hats⟩, hrSb, hrSc⟩ := hT s rS hrS
                          subst e0
                          have c1 := hrSc t _ (hrows.get hrS htN)
                          have hv1 : vt a b (x + 1) s (t + 1) s t = val a b (x + 1) true s t := by unfold vt; rw [turn_done]
                          rw [hv1] at c1
                          have HE : Hid (T2 w1 wr a b N x s (t + 1) gb (.slice (some adt) k ct)) := ⟨rs, hown, hlen, hrows, hag⟩
                          unfold irV at hats
                          have e1 : (s : Int) < (k : Int) := by omega
                          have e2 : (t : Int) < (N : Int) := by omega
                          clear hown hlen hrows hag hT hrSc hrS HS hv1 hatb hrSb
                          generalize val a b (x + 1) true s t = V at *
                          go_wp2
                          go_roundw
                          case rel => exact ⟨t + 1, gb, by omega, rfl, by go_num, HE⟩
                          case measure => simp [intOf]; omega
                    · obtain rfl : c = n := by omega
                      have HE := Lib.hid (c2_end HG.out HKs.out HKt.out HL.out HS.out)
                      clear HS
                      go_wp2
                      go_roundw
                      case rel => exact ⟨t + 1, gb, by omega, rfl, by go_num, HE⟩
                      case measure => simp [intOf]; omega
                · obtain rfl : t = N := by omega
                  have HE := Lib.hid (t2_row HN.out HS.out)
                  clear HS
                  go_wp2
                  go_roundw
                  case rel => exact ⟨s + 1, gb, by omega, rfl, by go_num, HE⟩
                  case measure => simp [intOf]; omega
            · obtain rfl : s = k := by omega
              have HE := Lib.hid (t2_end HM.out HS.out)
              clear HS
              go_wp2
              go_roundw
              case rel => exact ⟨x + 1, gb, by omega, rfl, by go_num, HE⟩
              case measure => simp [intOf]; omega
end Go.Proofs.YtinehjfanabegaaDoor.Sm

namespace Go.Proofs.YtinehjfanabegaaDoor.Sm
open Go.RowKit Go.IntWalk Go.Proofs.YtinehjfanabegaaDoor.Wd Go.Proofs.YtinehjfanabegaaDoor.Wo Go.Proofs.YtinehjfanabegaaDoor.Df Go.Proofs.YtinehjfanabegaaDoor.Rc

/-- What it answers: whether, and the word. -/
def tellsR (a b : Aut) : Bool × List Int := match diffW a b a.s.toNat b.s.toNat with
  | none => (true, [])
  | some w => (false, w)
/-- The word under way: what is written, and what is still to come. -/
def WInv (w2 wr : World) (a b : Aut) (x y k : Nat) (lv : Value) (W : List Int) : Prop := ∃ l, Own w2 wr [eInts lv l] [] ∧ l ++ pick2 a b k x y = W ∧ lev a b x y = (k : Int) ∧ x < a.next.length ∧ y < b.next.length ∧ l.length + k ≤ 80
/-- What a table's row reads as, at one place. -/
theorem TabI.at_ {w : World} {A : Option Addr} {N : Nat} {rs : List Ir} {M : Nat → Nat → Int} (h : TabI w A N rs) (hr : RowsI N rs M) {x y : Nat} (hx : x < rs.length) (hy : y < N) : ∃ ad r, A = some ad ∧ w.cell? (ad.add x) = some (.slice (some ⟨r, 0, none⟩) N N) ∧ w.cell? ⟨r, y, none⟩ = some (.int .i64 (M x y)) := by
  obtain ⟨r, hrx⟩ : ∃ r, rs[x]? = some r := ⟨_, List.getElem?_eq_getElem hx⟩
  obtain ⟨⟨ad, e, _, h2⟩, _, h4⟩ := h x r hrx
  exact ⟨ad, r.1, e, h2, h4 y _ (hr.get hrx hy)⟩
theorem lev_small {a b : Aut} (g : Good2 a b) {x y : Nat} (hx : x < a.next.length) (hy : y < b.next.length) : -1 ≤ lev a b x y ∧ lev a b x y ≤ 80 := by
  have h1 := g.ga.n40
  have h2 := g.gb.n40
  rcases lev_cases a b x y with e | ⟨k, e⟩
  · omega
  · have := lev_lt g hx hy e; omega
set_option linter.unusedSimpArgs false in
set_option maxRecDepth 100000 in
set_option maxHeartbeats 4000000 in
theorem rsame_any (v z : Value) (a b : Aut) (w : World) (ha : DfaAt w w.heap.size v a) (hb : DfaAt w w.heap.size z b) (hg : Good2 a b) :
    Calls Tryd.prog 46 #[v, z] w fun e w' => Hid (∃ lv, e = .returned (.tuple #[.bool (tellsR a b).1, lv]) ∧ Own w w' [] [eInts lv (tellsR a b).2]) := by
  have HA := ha
  have HZ := hb
  obtain ⟨L, s, A, c, F, cf, rfl, ha⟩ := ha
  obtain ⟨L', t, C, d, G, cg, rfl, hb⟩ := hb
  obtain ⟨wx, hwx, hBx, hX, hd1⟩ := box_dfa w ha
  obtain ⟨w1, hw1, hB1, hY, hd2⟩ := box_dfa wx (hb.on hBx)
  have hs1 : wx.heap.size = w.heap.size + 1 := by rw [hwx]; simp
  rw [hs1] at hY
  have HB := Lib.hid (hBx.trans (hB1.mono hBx.size))
  have HX := Lib.hid (hX.on hB1)
  have HY := Lib.hid hY
  have HDA := Lib.hid (hd1.on hB1)
  have HDB := Lib.hid hd2
  have HT := Lib.hid (rapart_any _ _ a b w1 (HA.on HB.out) (HZ.on HB.out) hg)
  have HW : Hid (w1 = (w.alloc (.cells #[.int .i64 L, .int .i64 s, .slice A a.next.length c, .slice F a.fin.length cf] 25)).alloc (.cells #[.int .i64 L', .int .i64 t, .slice C b.next.length d, .slice G b.fin.length cg] 25)) := by
    rw [← hwx]; exact hw1
  have HG := Lib.hid hg
  obtain ⟨n, hn⟩ := Int.eq_ofNat_of_zero_le (show 0 ≤ L by have := hg.ga.l1; have := ha.eL; omega)
  subst hn
  obtain ⟨p, hp⟩ := Int.eq_ofNat_of_zero_le (show 0 ≤ s by have := hg.ga.st.1; have := ha.es; omega)
  obtain ⟨q, hq⟩ := Int.eq_ofNat_of_zero_le (show 0 ≤ t by have := hg.gb.st.1; have := hb.es; omega)
  subst hp hq
  have HL : Hid (a.L = (n : Int)) := ha.eL
  have HLb : Hid (b.L = (n : Int)) := by have := hg.eL; have := ha.eL; unfold Hid; omega
  have hn6 : n ≤ 6 := by have := hg.ga.l6; have := ha.eL; omega
  have hsp : a.s.toNat = p := by have := ha.es; omega
  have hsq : b.s.toNat = q := by have := hb.es; omega
  have hpM := hg.ga.s_lt
  have hqN := hg.gb.s_lt
  rw [hsp] at hpM
  rw [hsq] at hqN
  have HPl := Lib.hid hpM
  have HQl := Lib.hid hqN
  have HR : Hid (tellsR a b = match diffW a b p q with | none => (true, []) | some w => (false, w)) := by unfold tellsR Hid; rw [hsp, hsq]
  have hM40 := hg.ga.n40
  have hN40 := hg.gb.n40
  have hfa := hg.ga.fin
  have hfb := hg.gb.fin
  clear hwx hw1 hBx hB1 hX hY hd1 hd2 hs1 ha hb hg HA HZ hsp hsq
  generalize a.fin.length = fa at *
  generalize b.fin.length = fb at *
  generalize hM : a.next.length = M at *
  generalize hN : b.next.length = N at *
  have HM := Lib.hid hM
  have HN := Lib.hid hN
  have hfa1 : fa ≤ M := by omega
  have hfa2 : M ≤ fa := by omega
  have hfb1 : fb ≤ N := by omega
  have hfb2 : N ≤ fb := by omega
  clear hM hN hfa hfb
  obtain ⟨T, hT⟩ : ∃ T, T = tellsR a b := ⟨_, rfl⟩
  have HTT := Lib.hid hT
  clear hT
  rw [← HTT.out]
  have hc0 := HX.out.c0
  have hc1 := HX.out.c1
  have hc2 := HX.out.c2
  have hc3 := HX.out.c3
  have hd0 := HY.out.c0
  have hd1 := HY.out.c1
  have hd2 := HY.out.c2
  have hd3 := HY.out.c3
  go_enter Tryd.func46, Tryd.ntmps46
  go_wp2_with fail
  rw [← HW.out]
  clear HW
  refine HT.out.mono ?_
  rintro e w2 he
  obtain ⟨At, ct, rs, rfl, hlen, hrows, htab, hbel⟩ := he.out
  have HBe := Lib.hid (HB.out.trans (hbel.mono HB.out.size))
  have HX2 := Lib.hid (HX.out.on hbel)
  have HY2 := Lib.hid (HY.out.on hbel)
  have HDA2 := Lib.hid (HDA.out.on hbel)
  have HDB2 := Lib.hid (HDB.out.on hbel)
  have HLen := Lib.hid hlen
  have HRows := Lib.hid hrows
  have HTab := Lib.hid htab
  clear HX HY HDA HDB HB hc0 hc1 hc2 hc3 hd0 hd1 hd2 hd3 he hlen hrows htab hbel HT
  have HPl : Hid (p < a.next.length) := by unfold Hid; rw [HM.out]; exact hpM
  have HQl : Hid (q < b.next.length) := by unfold Hid; rw [HN.out]; exact hqN
  have hc1 := HX2.out.c1
  have hd1 := HY2.out.c1
  obtain ⟨adt, r0, eA, h1, h2⟩ := HTab.out.at_ HRows.out (x := p) (y := q) (by rw [HLen.out]; exact hpM) hqN
  subst eA
  have e1 : (p : Int) < (M : Int) := by omega
  have e2 : (q : Int) < (N : Int) := by omega
  rcases lev_cases a b p q with hv | ⟨k, hv⟩
  · as_aux_lemma =>
      rw [hv] at h2
      have HE : Hid (T = (true, [])) := by
        unfold Hid
        rw [HTT.out, HR.out, (diffW_none HG.out HPl.out HQl.out).2 ((lev_never HG.out HPl.out HQl.out).1 hv)]
      have HO : Hid (Own w2 w2 [] [eInts (.slice none 0 0) []]) := ((own_start w2).nil 3 1).fin
      clear hv
      go_wp2
      go_ret2
      exact ⟨_, by rw [HE.out]; rfl, by rw [HE.out]; exact HO.out.base HBe.out⟩
  · rw [hv] at h2
    have hk := lev_lt HG.out HPl.out HQl.out hv
    rw [HM.out, HN.out] at hk
    have HS : Hid (WInv w2 w2 a b p q k (.slice none 0 0) (pick2 a b k p q)) := ⟨[], (own_start w2).nil 3 1, rfl, hv, HPl.out, HQl.out, by simp; omega⟩
    have HE : Hid (T = (false, pick2 a b k p q)) := by
      unfold Hid
      rw [HTT.out, HR.out, diffW_lev hv]
    clear hv
    go_wp2
    clear hc1 hd1 h1 h2
    generalize pick2 a b k p q = W at *
    go_loopw [7, 8, 9, 10] (fun sv tv kv lv wr => ∃ (x y j : Nat), sv = .int .i64 x ∧ tv = .int .i64 y ∧ kv = .int .i64 j ∧ j ≤ 80 ∧ Hid (WInv w2 wr a b x y j lv W)) (fun _ _ kv _ _ => (intOf kv).toNat)
    case atStart => exact ⟨p, q, k, rfl, rfl, rfl, by omega, HS⟩
    case round =>
      clear HS
      obtain ⟨x, y, j, rfl, rfl, rfl, hj, HS⟩ := hrel
      rcases j with _ | j
      · as_aux_lemma =>
          obtain ⟨l, ho, hw, _⟩ := HS.out
          have HO := Lib.hid ho
          have HE2 : Hid (T = (false, l)) := by
            unfold Hid
            rw [HE.out, ← hw]
            have : pick2 a b 0 x y = [] := rfl
            rw [this, List.append_nil]
          clear ho hw HS
          go_wp2
          go_ret2
          exact ⟨_, by rw [HE2.out]; rfl, by rw [HE2.out]; exact (HO.out.base HBe.out).fin⟩
      · obtain ⟨l, ho, hw, hl, hxM, hyN, hll⟩ := HS.out
        have HO := Lib.hid ho
        have HWw := Lib.hid hw
        have HLv := Lib.hid hl
        have HxM := Lib.hid hxM
        have HyN := Lib.hid hyN
        rw [HM.out] at hxM
        rw [HN.out] at hyN
        obtain ⟨c0, hc0, hc0l⟩ := lev_down HG.out HxM.out HyN.out hl
        have hc0n : c0 < n := by have := HL.out; omega
        have HC0 := Lib.hid hc0l
        have HS0 : Hid (Own w2 wr [eInts u10 l] [] ∧ ∀ e : Nat, e < 0 → lev a b (Df.step a x e) (Df.step b y e) ≠ (j : Int)) := ⟨ho, fun e he => absurd he (Nat.not_lt_zero _)⟩
        clear HS ho hw hl hc0 hc0l HO
        go_wp2
        generalize wr = wz at *
        go_loopw [11] (fun cv wr => ∃ (c : Nat), c ≤ c0 ∧ cv = .int .i64 c ∧ Hid (Own w2 wr [eInts u10 l] [] ∧ ∀ e : Nat, e < c → lev a b (Df.step a x e) (Df.step b y e) ≠ (j : Int))) (fun cv _ => c0 - (intOf cv).toNat)
        case atStart => exact ⟨0, by omega, rfl, HS0⟩
        case round =>
          clear HS0
          obtain ⟨c, hc, rfl, HS⟩ := hrel
          as_aux_lemma =>
            obtain ⟨ho, hall⟩ := HS.out
            have hb2 := ho.below
            have HcL : Hid ((c : Int) < a.L) := by rw [HL.out]; unfold Hid; omega
            obtain ⟨ad, ar, mr, cr, eA, hadb, hcell, hjm, harb, hac⟩ := (HDA2.out.on hb2).step_at HG.out.ga HxM.out (i := c) HcL.out
            obtain ⟨ad', ar', mr', cr', eC, hadb', hcell', hjm', harb', hac'⟩ := (HDB2.out.on hb2).step_at HG.out.gb HyN.out (i := c) (by rw [HLb.out]; omega)
            subst eA eC
            have hu := HG.out.ga.step_lt HxM.out HcL.out
            have hv := HG.out.gb.step_lt HyN.out (a := c) (by rw [HLb.out]; omega)
            have HuM := Lib.hid hu
            have HvN := Lib.hid hv
            rw [HM.out] at hu
            rw [HN.out] at hv
            obtain ⟨adt', rU, eT, hatu, hcu⟩ := (HTab.out.on hb2).at_ HRows.out (x := Df.step a x c) (y := Df.step b y c) (by rw [HLen.out]; exact hu) hv
            cases eT
            have hca := (HX2.out.on hb2).c2
            have hcb := (HY2.out.on hb2).c2
            have e1 : (x : Int) < (M : Int) := by omega
            have e2 : (y : Int) < (N : Int) := by omega
            have e3 : (c : Int) < (mr : Int) := by omega
            have e4 : (c : Int) < (mr' : Int) := by omega
            have e5 : (Df.step a x c : Int) < (M : Int) := by omega
            have e6 : (Df.step b y c : Int) < (N : Int) := by omega
            have hw9 : IntKind.i64.wrap (((j + 1 : Nat) : Int) - 1) = (j : Int) := by rw [show (((j + 1 : Nat) : Int) - 1) = (j : Int) by omega]; exact IntWalk.i64_in _ ⟨by omega, by omega⟩
            have hO2 := ho.drewN 1
            by_cases hit : lev a b (Df.step a x c) (Df.step b y c) = (j : Int)
            · have HW2 : Hid (pick2 a b (j + 1) x y = (c : Int) :: pick2 a b j (Df.step a x c) (Df.step b y c)) := pick2_lev HG.out HxM.out HyN.out HLv.out HcL.out hit fun e he => hall e he
              have hbl : l.length < 17592186044416 := by omega
              have HO9 : Hid (∀ g cap w', Own w2 w' (eInts (.slice (some ⟨g, 0, none⟩) (l.length + 1) cap) (l ++ [(c : Int)]) :: []) [] → WInv w2 w' a b (Df.step a x c) (Df.step b y c) j (.slice (some ⟨g, 0, none⟩) (l.length + 1) cap) W) := fun g cap w' ho => ⟨l ++ [(c : Int)], ho, by rw [← HWw.out, HW2.out, List.append_assoc]; rfl, hit, HuM.out, HvN.out, by simp; omega⟩
              have HOd := Lib.hid hO2
              have HStA := Lib.hid (fun W (h : Below w2.heap.size w2 W) => (HDA2.out.on h).step_at HG.out.ga HxM.out (i := c) HcL.out)
              have HStB := Lib.hid (fun W (h : Below w2.heap.size w2 W) => (HDB2.out.on h).step_at HG.out.gb HyN.out (i := c) (by rw [HLb.out]; omega))
              clear ho hall HS hadb hadb' harb harb' HC0 hO2 hb2
              generalize hX : lev a b (Df.step a x c) (Df.step b y c) = X at *
              clear hX
              subst hit
              generalize Df.step a x c = u at *
              generalize Df.step b y c = v at *
              go_wp2_with fail
              go_region
              clear hcell hcell' hac hac' hw9 hatu hcu hca hcb
              go_wp2_with (at_builtin; refine own_int (by rfl) _ _ (by rfl) (by rfl) HOd.out (by rfl) hbl ?_)
              intro g8 cap8 w8 ho8
              have HE9 := Lib.hid (HO9.out _ _ _ ho8)
              have hb8 := ho8.below
              obtain ⟨ad2, ar2, mr2, cr2, eA, hadb2, hcell2, hjm2, harb2, hac2⟩ := HStA.out w8 hb8
              obtain ⟨ad3, ar3, mr3, cr3, eC, hadb3, hcell3, hjm3, harb3, hac3⟩ := HStB.out w8 hb8
              cases eA
              cases eC
              have hca2 := (HX2.out.on hb8).c2
              have hcb2 := (HY2.out.on hb8).c2
              have e7 : (c : Int) < (mr2 : Int) := by omega
              have e8 : (c : Int) < (mr3 : Int) := by omega
              clear ho8 hb8 HOd HO9 HStA HStB hadb2 hadb3 harb2 harb3
              go_wp2
              clear hcell2 hcell3 hac2 hac3 hca2 hcb2
              go_roundw
              case rel => exact ⟨u, v, j, by go_num, by go_num, by go_num, by omega, HE9⟩
              case measure => simp [intOf]
            · have hne : c < c0 := by
                rcases Nat.lt_or_eq_of_le hc with h | h
                · exact h
                · exact absurd (by rw [h]; exact HC0.out) hit
              have HE2 : Hid (Own w2 (wr.drewN 1) [eInts u10 l] [] ∧ ∀ e : Nat, e < c + 1 → lev a b (Df.step a x e) (Df.step b y e) ≠ (j : Int)) := ⟨hO2, fun e he => by
                rcases Nat.lt_or_eq_of_le (Nat.le_of_lt_succ he) with h | h
                · exact hall e h
                · rw [h]; exact hit⟩
              clear ho hb2 hall HS hadb hadb' harb harb' HC0 hO2
              generalize lev a b (Df.step a x c) (Df.step b y c) = X at *
              generalize Df.step a x c = u at *
              generalize Df.step b y c = v at *
              go_wp2_with fail
              go_region
              clear hcell hcell' hac hac' hw9 hatu hcu hca hcb
              go_wp2
              go_roundw
              case rel => exact ⟨c + 1, by omega, by go_num, HE2⟩
              case measure => simp [intOf]; omega
end Go.Proofs.YtinehjfanabegaaDoor.Sm
