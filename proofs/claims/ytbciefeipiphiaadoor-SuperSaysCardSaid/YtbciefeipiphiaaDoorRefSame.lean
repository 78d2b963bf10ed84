/- Tables of ints that a call makes, rows that are written to; the rounds of the table that says in how many steps two states are told apart. The walk of the document's answer that tells states apart: stilewardref1's Apart. The walk of the document's answer whether two accept the same: stilewardref1's Same. -/
import Derived.Test.YtbciefeipiphiaaDoorReached
import Derived.Test.YtbciefeipiphiaaDoorDfaM
import Derived.Test.YtbciefeipiphiaaDoorRefPair

namespace Go.Proofs.YtbciefeipiphiaaDoor.Sm
open Go.RowKit Go.IntWalk Go.Proofs.YtbciefeipiphiaaDoor.Wd Go.Proofs.YtbciefeipiphiaaDoor.Wo Go.Proofs.YtbciefeipiphiaaDoor.Df Go.Proofs.YtbciefeipiphiaaDoor.Rc

/-- The rows: a block and a list of ints each. -/
abbrev Ir := Nat × List Int
def irV (N : Nat) (r : Ir) : Value := .slice (some ⟨r.1, 0, none⟩) N N
def eEachI (N : Nat) (rs : List Ir) : List Ent := rs.map fun r => eInts (irV N r) r.2
theorem eEachI_snoc (N : Nat) (rs : List Ir) (r : Ir) : eEachI N (rs ++ [r]) = eEachI N rs ++ [eInts (irV N r) r.2] := by unfold eEachI; rw [List.map_append]; rfl
/-- A table whose rows are still written to. -/
def OwnI (w0 w : World) (N : Nat) (tv : Value) (rs : List Ir) : Prop := Own w0 w (eRows tv (rs.map (irV N)) :: eEachI N rs) [] ∧ ∀ r ∈ rs, r.2.length = N
theorem ownI_on {w0 w w' : World} {N : Nat} {tv : Value} {rs : List Ir} (h : OwnI w0 w N tv rs) (hb : Below w.heap.size w w') : OwnI w0 w' N tv rs := ⟨h.1.on hb, h.2⟩
theorem ownI_form {w0 w : World} {N : Nat} {tv : Value} {rs : List Ir} (h : OwnI w0 w N tv rs) : ∃ A cap, tv = .slice A rs.length cap := by
  obtain ⟨A, cap, hv, _⟩ := h.1.form (e := eRows tv (rs.map (irV N))) (by simp)
  simp only [eRows, List.length_map] at hv
  exact ⟨A, cap, hv⟩
theorem ownI_row {w0 w : World} {N cap : Nat} {A : Option Addr} {rs : List Ir} (h : OwnI w0 w N (.slice A rs.length cap) rs) {k : Nat} {r : Ir} (hk : rs[k]? = some r) : ∃ ad, A = some ad ∧ ad.block < w.heap.size ∧ w.cell? (ad.add k) = some (irV N r) := by
  have hm : (⟨27, 1, .slice A rs.length cap, rs.length, rs.map (irV N)⟩ : Ent) ∈ (eRows (.slice A rs.length cap) (rs.map (irV N)) :: eEachI N rs) ++ [] := by
    have : eRows (.slice A rs.length cap) (rs.map (irV N)) = ⟨27, 1, .slice A rs.length cap, rs.length, rs.map (irV N)⟩ := by unfold eRows; rw [List.length_map]
    rw [this]; simp
  exact h.1.cells hm k (irV N r) (by rw [List.getElem?_map, hk]; rfl)
theorem ownI_mem {N : Nat} {rs : List Ir} {tv : Value} {r : Ir} (hr : r ∈ rs) : eInts (irV N r) r.2 ∈ (eRows tv (rs.map (irV N)) :: eEachI N rs) ++ [] := List.mem_append_left _ (List.mem_cons_of_mem _ (List.mem_map.2 ⟨r, hr, rfl⟩))
theorem ownI_frozen {w0 w : World} {N : Nat} {tv : Value} {rs : List Ir} (h : OwnI w0 w N tv rs) {i : Nat} {r : Ir} (hi : rs[i]? = some r) {j : Nat} {x : Int} (hj : r.2[j]? = some x) : w.cell? ⟨r.1, j, none⟩ = some (.int .i64 x) ∧ w.frozen? ⟨r.1, j, none⟩ = false := by
  have hm := List.mem_of_getElem? hi
  exact own_ints_cell (g := r.1) (n := N) (cap := N) (l := r.2) h.1 (ownI_mem hm) (h.2 r hm) hj
theorem ownI_lt {w0 w : World} {N : Nat} {tv : Value} {rs : List Ir} (h : OwnI w0 w N tv rs) {i : Nat} {r : Ir} (hi : rs[i]? = some r) : r.1 < w.heap.size := by
  have hm := List.mem_of_getElem? hi
  have hm2 : (⟨3, 1, .slice (some ⟨r.1, 0, none⟩) N N, N, r.2.map i64⟩ : Ent) ∈ (eRows tv (rs.map (irV N)) :: eEachI N rs) ++ [] := by
    have : eInts (irV N r) r.2 = ⟨3, 1, .slice (some ⟨r.1, 0, none⟩) N N, N, r.2.map i64⟩ := by unfold eInts irV; rw [h.2 r hm]
    rw [← this]; exact ownI_mem hm
  exact (h.1.lt hm2).2
theorem map_set_eq {α β : Type} (f : α → β) (l : List α) (i : Nat) (x : α) (h : ∀ y, l[i]? = some y → f x = f y) : (l.set i x).map f = l.map f := by
  refine List.ext_getElem? fun k => ?_
  rw [List.getElem?_map, List.getElem?_map, List.getElem?_set]
  by_cases e : i = k
  · subst e
    by_cases hl : i < l.length
    · rw [if_pos rfl, if_pos hl, List.getElem?_eq_getElem hl, Option.map_some, Option.map_some, h _ (List.getElem?_eq_getElem hl)]
    · rw [if_pos rfl, if_neg hl, List.getElem?_eq_none (by omega)]
      try rfl
  · rw [if_neg e]
/-- 'm[i][j] = x'. -/
theorem ownI_set {w0 w : World} {N : Nat} {tv : Value} {rs : List Ir} (h : OwnI w0 w N tv rs) {i : Nat} {r : Ir} (hi : rs[i]? = some r) (j : Nat) (x : Int) :
    OwnI w0 (w.setCell ⟨r.1, j, none⟩ (.int .i64 x)) N tv (rs.set i (r.1, r.2.set j x)) := by
  obtain ⟨hil, hie⟩ := List.getElem?_eq_some_iff.1 hi
  have hm := List.mem_of_getElem? hi
  have hlen : i + 1 < (eRows tv (rs.map (irV N)) :: eEachI N rs).length := by simp [eEachI]; exact hil
  have h1 := h.1.pull (i + 1) hlen
  have e1 : (eRows tv (rs.map (irV N)) :: eEachI N rs)[i + 1] = eInts (irV N r) r.2 := by
    simp only [List.getElem_cons_succ, eEachI, List.getElem_map, hie]
  rw [e1] at h1
  have h2 := own_ints_set h1 (h.2 r hm) j x
  have hrows : (rs.set i (r.1, r.2.set j x)).map (irV N) = rs.map (irV N) := map_set_eq _ _ _ _ fun y hy => by
    obtain rfl := Option.some.inj (hi.symm.trans hy); rfl
  have heach : eEachI N (rs.set i (r.1, r.2.set j x)) = (eEachI N rs).set i (eInts (irV N r) (r.2.set j x)) := by unfold eEachI; rw [List.map_set]; rfl
  refine ⟨?_, fun q hq => ?_⟩
  · rw [hrows, heach]
    refine Own.put (i + 1) (by simp [eEachI]; exact hil) ?_
    simp only [List.getElem_cons_succ, List.getElem_set_self, List.eraseIdx_cons_succ, List.eraseIdx_set_eq]
    simp only [List.eraseIdx_cons_succ] at h2
    exact h2
  · rcases List.mem_or_eq_of_mem_set hq with hq | rfl
    · exact h.2 q hq
    · rw [List.length_set]; exact h.2 r hm
theorem ownI_snoc {w0 w : World} {N : Nat} {v : Value} {rs : List Ir} {g : Nat} {l : List Int} (hl : l.length = N) (hr : ∀ r ∈ rs, r.2.length = N) (h : Own w0 w (eRows v (rs.map (irV N) ++ [rowV g N]) :: eInts (rowV g N) l :: eEachI N rs) []) : OwnI w0 w N v (rs ++ [(g, l)]) := by
  refine ⟨?_, fun r hm => ?_⟩
  · rw [List.map_append, eEachI_snoc]
    exact h.perm ((List.perm_append_singleton _ _).symm.cons _)
  · rcases List.mem_append.1 hm with hm | hm
    · exact hr r hm
    · simp at hm; subst hm; exact hl
/-- What reads as a table of ints. -/
def TabI (w : World) (A : Option Addr) (N : Nat) (rs : List Ir) : Prop :=
  ∀ (k : Nat) (r : Ir), rs[k]? = some r → (∃ ad, A = some ad ∧ ad.block < w.heap.size ∧ w.cell? (ad.add k) = some (irV N r)) ∧ r.1 < w.heap.size ∧ ∀ j x, r.2[j]? = some x → w.cell? ⟨r.1, j, none⟩ = some (.int .i64 x)
theorem ownI_tab {w0 w : World} {N cap : Nat} {A : Option Addr} {rs : List Ir} (h : OwnI w0 w N (.slice A rs.length cap) rs) : TabI w A N rs := fun _ _ hk => ⟨ownI_row h hk, ownI_lt h hk, fun _ _ hj => (ownI_frozen h hk hj).1⟩
theorem TabI.on {w w' : World} {A : Option Addr} {N : Nat} {rs : List Ir} (h : TabI w A N rs) (hb : Below w.heap.size w w') : TabI w' A N rs := fun k r hk => by
  obtain ⟨⟨ad, e, h2, h3⟩, h4, h5⟩ := h k r hk
  exact ⟨⟨ad, e, Nat.lt_of_lt_of_le h2 hb.size, (hb.cell (p := ad.add k) (by rw [Wd.block_add]; exact h2)).trans h3⟩, Nat.lt_of_lt_of_le h4 hb.size, fun j x hj => (hb.cell (p := ⟨r.1, j, none⟩) h4).trans (h5 j x hj)⟩
/-- A row of a function. -/
def iF (n : Nat) (f : Nat → Int) : List Int := (List.range n).map f
theorem iF_length (n : Nat) (f : Nat → Int) : (iF n f).length = n := by simp [iF]
theorem iF_get {n i : Nat} (f : Nat → Int) (h : i < n) : (iF n f)[i]? = some (f i) := by unfold iF; rw [List.getElem?_map, List.getElem?_range h]; rfl
theorem iF_congr {n : Nat} {f g : Nat → Int} (h : ∀ t, t < n → f t = g t) : iF n f = iF n g := List.map_congr_left fun t ht => h t (List.mem_range.1 ht)
theorem iF_set (n : Nat) (f : Nat → Int) (i : Nat) (x : Int) : (iF n f).set i x = iF n (fun t => if t = i then x else f t) := by
  refine List.ext_getElem? fun k => ?_
  rw [List.getElem?_set, iF_length]
  by_cases hk : k < n
  · rw [iF_get _ hk, iF_get _ hk]
    by_cases e : i = k
    · subst e; simp [hk]
    · rw [if_neg e, if_neg (fun q => e q.symm)]
  · rw [List.getElem?_eq_none (by rw [iF_length]; omega), List.getElem?_eq_none (by rw [iF_length]; omega)]
    split
    · rw [if_neg (by omega)]
    · rfl
theorem iF_zero (n : Nat) : iF n (fun _ => 0) = List.replicate n 0 := by
  unfold iF; rw [List.map_const']; simp
/-- The rows are those of a table of functions. -/
def RowsI (N : Nat) (rs : List Ir) (M : Nat → Nat → Int) : Prop := ∀ i r, rs[i]? = some r → r.2 = iF N (M i)
theorem RowsI.get {N : Nat} {rs : List Ir} {M : Nat → Nat → Int} (h : RowsI N rs M) {i j : Nat} {r : Ir} (hi : rs[i]? = some r) (hj : j < N) : r.2[j]? = some (M i j) := by rw [h i r hi]; exact iF_get _ hj
theorem rowsI_congr {N : Nat} {rs : List Ir} {M M' : Nat → Nat → Int} (h : RowsI N rs M) (e : ∀ i j, i < rs.length → j < N → M i j = M' i j) : RowsI N rs M' := fun i r hi => by
  rw [h i r hi]
  exact iF_congr fun t ht => e i t (List.getElem?_eq_some_iff.1 hi).1 ht
theorem rowsI_set {N : Nat} {rs : List Ir} {M M' : Nat → Nat → Int} (h : RowsI N rs M) {i j : Nat} {r : Ir} {x : Int} (hi : rs[i]? = some r) (hx : M' i j = x) (e : ∀ y z, y < rs.length → z < N → ¬(y = i ∧ z = j) → M y z = M' y z) : RowsI N (rs.set i (r.1, r.2.set j x)) M' := fun k q hk => by
  rw [List.getElem?_set] at hk
  by_cases ek : i = k
  · subst ek
    have hil := (List.getElem?_eq_some_iff.1 hi).1
    rw [if_pos rfl, if_pos hil] at hk
    obtain rfl := Option.some.inj hk
    simp only
    rw [h i r hi, iF_set]
    refine iF_congr fun t ht => ?_
    by_cases e2 : t = j
    · subst e2; rw [if_pos rfl]; exact hx.symm
    · rw [if_neg e2]; exact e i t hil ht (fun q => e2 q.2)
  · rw [if_neg ek] at hk
    rw [h k q hk]
    exact iF_congr fun t ht => e k t (List.getElem?_eq_some_iff.1 hk).1 ht (fun q => ek q.1.symm)
theorem rowsI_snoc {N : Nat} {rs : List Ir} {M : Nat → Nat → Int} (h : RowsI N rs M) (g : Nat) {k : Nat} (hk : rs.length = k) : RowsI N (rs ++ [(g, iF N (M k))]) M := fun j r hj => by
  by_cases hl : j < rs.length
  · rw [List.getElem?_append_left hl] at hj; exact h j r hj
  · have h2 := (List.getElem?_eq_some_iff.1 hj).1
    rw [List.length_append, List.length_singleton] at h2
    obtain rfl : j = rs.length := by omega
    rw [List.getElem?_append_right (Nat.le_refl _), Nat.sub_self] at hj
    simp at hj; subst hj; rw [hk]

/-! ### the rounds -/
/-- A first row, midway. -/
def v0 (a b : Aut) (s t y : Nat) : Int := if y < t then val a b 1 false s y else 0
theorem v0_start (a b : Aut) (s n : Nat) : List.replicate n 0 = iF n (v0 a b s 0) := by
  rw [← iF_zero]; exact iF_congr fun t _ => by unfold v0; rw [if_neg (by omega)]
theorem v0_full {a b : Aut} {s n : Nat} : iF n (v0 a b s n) = iF n (val a b 1 false s) := iF_congr fun y hy => by unfold v0; rw [if_pos hy]
/-- Whose turn is over. -/
def turn (s t x y : Nat) : Bool := decide (x < s ∨ (x = s ∧ y < t))
def vt (a b : Aut) (k s t x y : Nat) : Int := val a b k (turn s t x y) x y
/-- Has a pair whose turn is over been set in this round? -/
def Ag (a b : Aut) (k s t : Nat) (g : Bool) : Prop := (g = true → ∃ x y, x < a.next.length ∧ y < b.next.length ∧ lev a b x y = (k : Int)) ∧ (g = false → ∀ x y, x < a.next.length → y < b.next.length → turn s t x y = true → lev a b x y ≠ (k : Int))
theorem turn_row (s n x y : Nat) (hy : y < n) : turn s n x y = turn (s + 1) 0 x y := by
  unfold turn; rw [decide_eq_decide]; omega
theorem turn_next (s t x y : Nat) (h : ¬(x = s ∧ y = t)) : turn s t x y = turn s (t + 1) x y := by
  unfold turn; rw [decide_eq_decide]; omega
theorem turn_at (s t : Nat) : turn s t s t = false := by unfold turn; rw [decide_eq_false]; omega
theorem turn_done (s t : Nat) : turn s (t + 1) s t = true := by unfold turn; rw [decide_eq_true]; omega
theorem turn_start (x y : Nat) : turn 0 0 x y = false := by unfold turn; rw [decide_eq_false]; omega
theorem turn_all {s x : Nat} (y : Nat) (h : x < s) : turn s 0 x y = true := by unfold turn; rw [decide_eq_true]; omega
/-- The table in round k + 1, at the pair's turn. -/
def T2 (w1 wr : World) (a b : Aut) (N k s t : Nat) (g : Bool) (tv : Value) : Prop := ∃ rs, OwnI w1 wr N tv rs ∧ rs.length = a.next.length ∧ RowsI N rs (vt a b (k + 1) s t) ∧ Ag a b (k + 1) s t g
/-- The head of round k + 1. -/
def T1 (w1 wr : World) (a b : Aut) (N k : Nat) (g : Bool) (tv : Value) : Prop := ∃ rs, OwnI w1 wr N tv rs ∧ rs.length = a.next.length ∧ RowsI N rs (val a b (k + 1) false) ∧ (g = true → k = 0 ∨ ∃ x y, x < a.next.length ∧ y < b.next.length ∧ lev a b x y = (k : Int)) ∧ (g = false → ∀ x y, x < a.next.length → y < b.next.length → lev a b x y ≠ (k : Int))
theorem t1_start {w1 wr : World} {a b : Aut} {N k : Nat} {g : Bool} {tv : Value} (h : T1 w1 wr a b N k g tv) : T2 w1 wr a b N k 0 0 false tv := by
  obtain ⟨rs, h1, h2, h3, _⟩ := h
  exact ⟨rs, h1, h2, rowsI_congr h3 fun x y _ _ => by unfold vt; rw [turn_start], ⟨fun e => absurd e (by decide), fun _ x y _ _ e => by rw [turn_start] at e; cases e⟩⟩
theorem t2_row {w1 wr : World} {a b : Aut} {N k s : Nat} {g : Bool} {tv : Value} (hN : b.next.length = N) (h : T2 w1 wr a b N k s N g tv) : T2 w1 wr a b N k (s + 1) 0 g tv := by
  obtain ⟨rs, h1, h2, h3, h4, h5⟩ := h
  exact ⟨rs, h1, h2, rowsI_congr h3 fun x y _ hy => by unfold vt; rw [turn_row s N x y hy], h4, fun e x y hx hy ht => h5 e x y hx hy (by rw [turn_row s N x y (by omega)]; exact ht)⟩
theorem t2_end {w1 wr : World} {a b : Aut} {N k s : Nat} {g : Bool} {tv : Value} (hs : a.next.length = s) (h : T2 w1 wr a b N k s 0 g tv) : T1 w1 wr a b N (k + 1) g tv := by
  obtain ⟨rs, h1, h2, h3, h4, h5⟩ := h
  exact ⟨rs, h1, h2, rowsI_congr h3 fun x y hx _ => by unfold vt; rw [turn_all y (by omega), val_next], fun e => .inr (h4 e), fun e x y hx hy => h5 e x y hx hy (turn_all y (by omega))⟩
/-- A pair that is known already: its turn changes nothing. -/
theorem t2_known {w1 wr : World} {a b : Aut} {N k s t : Nat} {g : Bool} {tv : Value} (h : T2 w1 wr a b N k s t g tv) (h0 : 0 ≤ val a b (k + 1) false s t) : T2 w1 wr a b N k s (t + 1) g tv := by
  obtain ⟨rs, h1, h2, h3, h4, h5⟩ := h
  refine ⟨rs, h1, h2, rowsI_congr h3 fun x y _ _ => ?_, h4, fun e x y hx hy ht => ?_⟩
  · unfold vt
    by_cases q : x = s ∧ y = t
    · obtain ⟨rfl, rfl⟩ := q; rw [turn_at, turn_done, val_old h0]
    · rw [turn_next s t x y q]
  · by_cases q : x = s ∧ y = t
    · obtain ⟨rfl, rfl⟩ := q
      have := val_known h0
      intro el
      unfold val at h0
      rw [if_neg (fun q => q.elim (fun q => by omega) (fun q => absurd q.2 (by decide)))] at h0
      omega
    · exact h5 e x y hx hy (by rw [turn_next s t x y q]; exact ht)
/-- Within the letters: not set yet, or set. -/
def C2 (w1 wr : World) (a b : Aut) (N k s t c : Nat) (g : Bool) (tv : Value) : Prop :=
  (T2 w1 wr a b N k s t g tv ∧ val a b (k + 1) false s t < 0 ∧ ∀ e : Nat, e < c → lev a b (Df.step a s e) (Df.step b t e) ≠ (k : Int)) ∨ (T2 w1 wr a b N k s (t + 1) g tv ∧ 0 ≤ val a b (k + 1) true s t)
theorem c2_start {w1 wr : World} {a b : Aut} {N k s t : Nat} {g : Bool} {tv : Value} (h : T2 w1 wr a b N k s t g tv) : C2 w1 wr a b N k s t 0 g tv := by
  by_cases h0 : 0 ≤ val a b (k + 1) false s t
  · exact .inr ⟨t2_known h h0, by rw [val_old h0]; exact h0⟩
  · exact .inl ⟨h, by omega, fun e he => by omega⟩
end Go.Proofs.YtbciefeipiphiaaDoor.Sm

namespace Go.Proofs.YtbciefeipiphiaaDoor.Sm
open Go.RowKit Go.IntWalk Go.Proofs.YtbciefeipiphiaaDoor.Wd Go.Proofs.YtbciefeipiphiaaDoor.Wo Go.Proofs.YtbciefeipiphiaaDoor.Df Go.Proofs.YtbciefeipiphiaaDoor.Rc

/-- The first rows under way. -/
def P1 (w1 wr : World) (a b : Aut) (N k : Nat) (tv : Value) : Prop := ∃ rs, OwnI w1 wr N tv rs ∧ rs.length = k ∧ RowsI N rs (val a b 1 false)
end Go.Proofs.YtbciefeipiphiaaDoor.Sm

namespace Go.Proofs.YtbciefeipiphiaaDoor.Sm
open Go.RowKit Go.IntWalk Go.Proofs.YtbciefeipiphiaaDoor.Wd Go.Proofs.YtbciefeipiphiaaDoor.Wo Go.Proofs.YtbciefeipiphiaaDoor.Df Go.Proofs.YtbciefeipiphiaaDoor.Rc

/-- What a table's row reads as, at one place. -/
theorem TabI.at_ {w : World} {A : Option Addr} {N : Nat} {rs : List Ir} {M : Nat → Nat → Int} (h : TabI w A N rs) (hr : RowsI N rs M) {x y : Nat} (hx : x < rs.length) (hy : y < N) : ∃ ad r, A = some ad ∧ w.cell? (ad.add x) = some (.slice (some ⟨r, 0, none⟩) N N) ∧ w.cell? ⟨r, y, none⟩ = some (.int .i64 (M x y)) := by
  obtain ⟨r, hrx⟩ : ∃ r, rs[x]? = some r := ⟨_, List.getElem?_eq_getElem hx⟩
  obtain ⟨⟨ad, e, _, h2⟩, _, h4⟩ := h x r hrx
  exact ⟨ad, r.1, e, h2, h4 y _ (hr.get hrx hy)⟩
end Go.Proofs.YtbciefeipiphiaaDoor.Sm
