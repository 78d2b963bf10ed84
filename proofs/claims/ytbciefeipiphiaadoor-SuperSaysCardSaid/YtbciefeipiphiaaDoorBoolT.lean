/- Tables of bools that a call makes: rows of bools, each in a block of its own; an append of a new row; what reads as such a table. -/
import Derived.Test.YtbciefeipiphiaaDoorProg
import Derived.Test.YtbciefeipiphiaaDoorOwn
import Derived.Handy
namespace Go.Proofs.YtbciefeipiphiaaDoor.Df
open Go.RowKit Go.IntWalk Go.Proofs.YtbciefeipiphiaaDoor.Wd

theorem int_eq' {a b : Int} (h : a = b) : (a != b) = false := by rw [h]; exact bne_self_eq_false _
theorem int_ne' {a b : Int} (h : a ≠ b) : (a != b) = true := bne_iff_ne.2 h
def BoolsAt (w : World) (B : Nat) (A : Option Addr) (bs : List Bool) : Prop := Cells w B A (bs.map Value.bool)
theorem BoolsAt.nil (w : World) (B : Nat) (A : Option Addr) : BoolsAt w B A [] := Cells.nil _ _ _
theorem BoolsAt.on {w w' : World} {A : Option Addr} {bs : List Bool} (h : BoolsAt w w.heap.size A bs) (hb : Below w.heap.size w w') : BoolsAt w' w'.heap.size A bs := (Cells.below h hb).more hb.size
theorem BoolsAt.at_ {w : World} {B : Nat} {A : Option Addr} {bs : List Bool} (h : BoolsAt w B A bs) {k : Nat} {b : Bool} (hk : bs[k]? = some b) : ∃ ad, A = some ad ∧ ad.block < B ∧ w.cell? (ad.add k) = some (.bool b) ∧ k < bs.length := by
  obtain ⟨ad, e, h1, h2⟩ := h k (.bool b) (by rw [List.getElem?_map, hk]; rfl)
  exact ⟨ad, e, h1, h2, (List.getElem?_eq_some_iff.1 hk).1⟩
theorem own_bools {w0 w : World} {fv : Value} {bs : List Bool} {es fs : List Ent} (h : Own w0 w es fs) (hm : eBools fv bs ∈ es ++ fs) :
    ∃ A cap, fv = .slice A bs.length cap ∧ bs.length ≤ cap ∧ cap ≤ 9223372036854775807 ∧ BoolsAt w w.heap.size A bs := by
  obtain ⟨A, cap, hv, h1, h2, _⟩ := h.form hm
  simp only [eBools] at hv h1
  subst hv
  unfold maxLen at h2
  exact ⟨A, cap, rfl, h1, h2, h.cells hm⟩
end Go.Proofs.YtbciefeipiphiaaDoor.Df
namespace Go.Proofs.YtbciefeipiphiaaDoor.Rc
open Go.RowKit Go.IntWalk Go.Proofs.YtbciefeipiphiaaDoor.Wd Go.Proofs.YtbciefeipiphiaaDoor.Df

/-- 'make([]bool, n)'. -/
theorem mk_bools {w : World} {ops : Array Oper} {rest : List Oper} {o : Oper} {a : Act} {Q : Exit → Act → World → Prop} (hgd : o.guard = none) (l c : Operand)
    (ho : o.op = Op.makeSlice 23 l c) (n : Nat) (hl : a.eval l = .int .i64 (n : Int)) (hc : a.eval c = .int .i64 (n : Int)) (hn : n ≤ 17592186044416)
    (h : ∀ w', Own w w' [eBools (.slice (some ⟨w.heap.size, 0, none⟩) n n) (List.replicate n false)] [] → wpList Tryd.prog ops Q rest (a.put o.dst (.slice (some ⟨w.heap.size, 0, none⟩) n n)) w') : wpList Tryd.prog ops Q (o :: rest) a w := by
  obtain ⟨i0, hi, hz0, hz1, hz2⟩ := info_parts infoBool
  refine wpList_make_full w hgd l c 23 ho w.heap.size 4 i0 (.bool false) 1 Tryd.underlying23 hi hz0 hz1 .i64 .i64 _ _ n hl hc rfl rfl (by rw [hz2]; omega) (by unfold maxLen; omega) (Nat.le_refl _) ?_
  intro w' hown hg
  refine h w' ⟨(Below.refl _ _).grown hg (Nat.le_refl _) (fun k hk => by cases hk), fun e he => ?_, fun e he => by simp at he, by simp, fun e _ f hf => by simp at hf⟩
  have e' : (madeCells (Value.bool false).cells (n * 1)).toList = (List.replicate n false).map Value.bool := by
    have : (Value.bool false).cells = #[.bool false] := rfl
    rw [this, Nat.mul_one, toList_madeCells_one, List.map_replicate]
  simp at he; subst he
  rw [e'] at hown
  unfold eBools
  rw [List.length_replicate]
  exact hown
theorem own_bools_set {w0 w : World} {g n cap : Nat} {l : List Bool} {es fs : List Ent} (h : Own w0 w (eBools (.slice (some ⟨g, 0, none⟩) n cap) l :: es) fs) (hl : l.length = n) (j : Nat) (x : Bool) :
    Own w0 (w.setCell ⟨g, j, none⟩ (.bool x)) (eBools (.slice (some ⟨g, 0, none⟩) n cap) (l.set j x) :: es) fs := by
  subst hl
  have h2 := Own.set (t := 4) (sz := 1) (n := l.length) (cap := cap) (xs := l.map Value.bool) h j (.bool x)
  rw [show (l.map Value.bool).set j (.bool x) = (l.set j x).map Value.bool from by rw [List.map_set]] at h2
  unfold eBools
  rw [List.length_set]
  exact h2
theorem own_bools_cell {w0 w : World} {g n cap : Nat} {l : List Bool} {es fs : List Ent} (h : Own w0 w es fs) (he : eBools (.slice (some ⟨g, 0, none⟩) n cap) l ∈ es ++ fs) (hl : l.length = n) {j : Nat} {x : Bool} (hj : l[j]? = some x) :
    w.cell? ⟨g, j, none⟩ = some (.bool x) ∧ w.frozen? ⟨g, j, none⟩ = false := by
  subst hl
  exact h.cell (t := 4) (sz := 1) (n := l.length) (cap := cap) (xs := l.map Value.bool) he (by rw [List.getElem?_map, hj]; rfl)
theorem infoBRow : (Tryd.prog.info? 23).map (fun i => (i.zero, i.size, i.bytes)) = some (some (.slice none 0 0), 1, 24) := by kernel_rfl
/-- The rows' values. -/
def eBRows (v : Value) (l : List Value) : Ent := ⟨23, 1, v, l.length, l⟩
/-- The rows: a block and a list of bools each. -/
abbrev Br := Nat × List Bool
def brV (N : Nat) (r : Br) : Value := .slice (some ⟨r.1, 0, none⟩) N N
def eEachB (N : Nat) (rs : List Br) : List Ent := rs.map fun r => eBools (brV N r) r.2
theorem eEachB_snoc (N : Nat) (rs : List Br) (r : Br) : eEachB N (rs ++ [r]) = eEachB N rs ++ [eBools (brV N r) r.2] := by unfold eEachB; rw [List.map_append]; rfl
/-- 'append(l, row)' of one row of bools. -/
theorem own_brow {w0 w : World} {ops : Array Oper} {rest : List Oper} {o : Oper} {a : Act} {Q : Exit → Act → World → Prop} (hgd : o.guard = none) (s x : Operand)
    (ho : o.op = .call { callee := .builtin .append, args := #[s, x], argTypes := #[50, 50] })
    {v : Value} {l : List Value} {es fs : List Ent} (hs : a.eval s = v) (h : Own w0 w (eBRows v l :: es) fs) {y : Value} (hy : y.oneCell' = true) {t' : TypeId} (hx : a.eval x = .slice (some ⟨w.heap.size, 0, none⟩) 1 1) (hb : l.length < 1099511627776)
    (hK : ∀ g cap w', Own w0 w' (eBRows (.slice (some ⟨g, 0, none⟩) (l.length + 1) cap) (l ++ [y]) :: es) fs → wpList Tryd.prog ops Q rest (a.put o.dst (.slice (some ⟨g, 0, none⟩) (l.length + 1) cap)) w') : wpList Tryd.prog ops Q (o :: rest) a (w.alloc (.cells #[y] t')) := by
  refine own_append_lit hgd s x _ ho Tryd.underlying50 infoBRow rfl (by decide) hs h hx rfl (fun u hu => by simp at hu; subst hu; exact hy) (by omega) (by unfold maxLen; omega) (by omega) ?_
  intro g cap w' ho
  refine hK g cap w' ?_
  unfold eBRows
  simpa using ho
/-- A table that is owned: the value of its rows' row; all rows done but what es has. -/
def OwnT (w0 w : World) (N : Nat) (tv : Value) (rs : List Br) (es : List Ent) : Prop := Own w0 w (eBRows tv (rs.map (brV N)) :: es) (eEachB N rs) ∧ ∀ r ∈ rs, r.2.length = N
theorem ownT_form {w0 w : World} {N : Nat} {tv : Value} {rs : List Br} {es : List Ent} (h : OwnT w0 w N tv rs es) : ∃ A cap, tv = .slice A rs.length cap := by
  obtain ⟨A, cap, hv, _⟩ := h.1.form List.mem_cons_self
  simp only [eBRows, List.length_map] at hv
  exact ⟨A, cap, hv⟩
theorem ownT_row {w0 w : World} {N cap : Nat} {A : Option Addr} {rs : List Br} {es : List Ent} (h : OwnT w0 w N (.slice A rs.length cap) rs es) {k : Nat} {r : Br} (hk : rs[k]? = some r) : ∃ ad, A = some ad ∧ ad.block < w.heap.size ∧ w.cell? (ad.add k) = some (brV N r) := by
  have hm : (⟨23, 1, .slice A rs.length cap, rs.length, rs.map (brV N)⟩ : Ent) ∈ (eBRows (.slice A rs.length cap) (rs.map (brV N)) :: es) ++ eEachB N rs := by
    have : eBRows (.slice A rs.length cap) (rs.map (brV N)) = ⟨23, 1, .slice A rs.length cap, rs.length, rs.map (brV N)⟩ := by unfold eBRows; rw [List.length_map]
    rw [this]; simp
  exact h.1.cells hm k (brV N r) (by rw [List.getElem?_map, hk]; rfl)
theorem ownT_at {w0 w : World} {N : Nat} {tv : Value} {rs : List Br} {es : List Ent} (h : OwnT w0 w N tv rs es) {k : Nat} {r : Br} (hk : rs[k]? = some r) {j : Nat} {b : Bool} (hj : r.2[j]? = some b) : r.1 < w.heap.size ∧ w.cell? ⟨r.1, j, none⟩ = some (.bool b) := by
  have hr := List.mem_of_getElem? hk
  have hm : eBools (brV N r) r.2 ∈ (eBRows tv (rs.map (brV N)) :: es) ++ eEachB N rs := List.mem_append_right _ (List.mem_map.2 ⟨r, hr, rfl⟩)
  refine ⟨?_, (own_bools_cell (g := r.1) (n := N) (cap := N) (l := r.2) h.1 hm (h.2 r hr) hj).1⟩
  have hm2 : (⟨4, 1, .slice (some ⟨r.1, 0, none⟩) N N, N, r.2.map Value.bool⟩ : Ent) ∈ (eBRows tv (rs.map (brV N)) :: es) ++ eEachB N rs := by
    have : eBools (brV N r) r.2 = ⟨4, 1, .slice (some ⟨r.1, 0, none⟩) N N, N, r.2.map Value.bool⟩ := by unfold eBools brV; rw [h.2 r hr]
    rwa [this] at hm
  exact (h.1.lt hm2).2
/-- What reads as a table of bools. -/
def TabAt (w : World) (A : Option Addr) (N : Nat) (rs : List Br) : Prop :=
  ∀ k r, rs[k]? = some r → r.2.length = N ∧ (∃ ad, A = some ad ∧ ad.block < w.heap.size ∧ w.cell? (ad.add k) = some (brV N r)) ∧ r.1 < w.heap.size ∧ ∀ j b, r.2[j]? = some b → w.cell? ⟨r.1, j, none⟩ = some (.bool b)
theorem ownT_tab {w0 w : World} {N cap : Nat} {A : Option Addr} {rs : List Br} {es : List Ent} (hN : 0 < N) (h : OwnT w0 w N (.slice A rs.length cap) rs es) : TabAt w A N rs := fun k r hk => by
  have hl := h.2 r (List.mem_of_getElem? hk)
  obtain ⟨b, hb⟩ : ∃ b, r.2[0]? = some b := ⟨_, List.getElem?_eq_getElem (by omega)⟩
  exact ⟨hl, ownT_row h hk, (ownT_at h hk hb).1, fun j b hj => (ownT_at h hk hj).2⟩
theorem TabAt.on {w w' : World} {A : Option Addr} {N : Nat} {rs : List Br} (h : TabAt w A N rs) (hb : Below w.heap.size w w') : TabAt w' A N rs := fun k r hk => by
  obtain ⟨h1, ⟨ad, e, h2, h3⟩, h4, h5⟩ := h k r hk
  exact ⟨h1, ⟨ad, e, Nat.lt_of_lt_of_le h2 hb.size, (hb.cell (p := ad.add k) (by rw [Wd.block_add]; exact h2)).trans h3⟩, Nat.lt_of_lt_of_le h4 hb.size, fun j b hj => (hb.cell (p := ⟨r.1, j, none⟩) h4).trans (h5 j b hj)⟩
/-- A row of a function. -/
def bF (n : Nat) (f : Nat → Bool) : List Bool := (List.range n).map f
theorem bF_length (n : Nat) (f : Nat → Bool) : (bF n f).length = n := by simp [bF]
theorem bF_get {n i : Nat} (f : Nat → Bool) (h : i < n) : (bF n f)[i]? = some (f i) := by unfold bF; rw [List.getElem?_map, List.getElem?_range h]; rfl
theorem bF_congr {n : Nat} {f g : Nat → Bool} (h : ∀ t, t < n → f t = g t) : bF n f = bF n g := List.map_congr_left fun t ht => h t (List.mem_range.1 ht)
theorem bF_set (n : Nat) (f : Nat → Bool) (i : Nat) (x : Bool) : (bF n f).set i x = bF n (fun t => if t = i then x else f t) := by
  refine List.ext_getElem? fun k => ?_
  rw [List.getElem?_set, bF_length]
  by_cases hk : k < n
  · rw [bF_get _ hk, bF_get _ hk]
    by_cases e : i = k
    · subst e; simp [hk]
    · rw [if_neg e, if_neg (fun q => e q.symm)]
  · rw [List.getElem?_eq_none (by rw [bF_length]; omega), List.getElem?_eq_none (by rw [bF_length]; omega)]
    split
    · rw [if_neg (by omega)]
    · rfl
theorem bF_false (n : Nat) : bF n (fun _ => false) = List.replicate n false := by
  unfold bF; rw [List.map_const']; simp
def OwnM (w0 w : World) (N : Nat) (tv : Value) (rs : List Br) : Prop := Own w0 w (eBRows tv (rs.map (brV N)) :: eEachB N rs) [] ∧ ∀ r ∈ rs, r.2.length = N
theorem ownM_split {w0 w : World} {a : Ent} {es : List Ent} (h : Own w0 w (a :: es) []) : Own w0 w [a] es := by
  obtain ⟨a1, a2⟩ := List.pairwise_cons.1 h.apart
  exact ⟨h.below, fun e he => by simp at he; subst he; exact h.each _ List.mem_cons_self, fun e he => h.each e (List.mem_cons_of_mem _ he), by simp, fun e he f hf => by simp at he; subst he; exact a1 f hf⟩
theorem ownM_T {w0 w : World} {N : Nat} {tv : Value} {rs : List Br} (h : OwnM w0 w N tv rs) : OwnT w0 w N tv rs [] := ⟨ownM_split h.1, h.2⟩
theorem ownM_on {w0 w w' : World} {N : Nat} {tv : Value} {rs : List Br} (h : OwnM w0 w N tv rs) (hb : Below w.heap.size w w') : OwnM w0 w' N tv rs := ⟨h.1.on hb, h.2⟩
theorem map_set_same {α β : Type} (f : α → β) (l : List α) (i : Nat) (x : α) (h : ∀ y, l[i]? = some y → f x = f y) : (l.set i x).map f = l.map f := by
  refine List.ext_getElem? fun k => ?_
  rw [List.getElem?_map, List.getElem?_map, List.getElem?_set]
  by_cases e : i = k
  · subst e
    by_cases hl : i < l.length
    · rw [if_pos rfl, if_pos hl, List.getElem?_eq_getElem hl, Option.map_some, Option.map_some, h _ (List.getElem?_eq_getElem hl)]
    · rw [if_pos rfl, if_neg hl, List.getElem?_eq_none (by omega)]
      try rfl
  · rw [if_neg e]
/-- 'm[i][j] = x'. -/
theorem ownM_set {w0 w : World} {N : Nat} {tv : Value} {rs : List Br} (h : OwnM w0 w N tv rs) {i : Nat} {r : Br} (hi : rs[i]? = some r) (j : Nat) (x : Bool) :
    OwnM w0 (w.setCell ⟨r.1, j, none⟩ (.bool x)) N tv (rs.set i (r.1, r.2.set j x)) := by
  obtain ⟨hil, hie⟩ := List.getElem?_eq_some_iff.1 hi
  have hm := List.mem_of_getElem? hi
  have hlen : i + 1 < (eBRows tv (rs.map (brV N)) :: eEachB N rs).length := by simp [eEachB]; exact hil
  have h1 := h.1.pull (i + 1) hlen
  have e1 : (eBRows tv (rs.map (brV N)) :: eEachB N rs)[i + 1] = eBools (brV N r) r.2 := by
    simp only [List.getElem_cons_succ, eEachB, List.getElem_map, hie]
  rw [e1] at h1
  have h2 := own_bools_set h1 (h.2 r hm) j x
  have hrows : (rs.set i (r.1, r.2.set j x)).map (brV N) = rs.map (brV N) := map_set_same _ _ _ _ fun y hy => by
    obtain rfl := Option.some.inj (hi.symm.trans hy); rfl
  have heach : eEachB N (rs.set i (r.1, r.2.set j x)) = (eEachB N rs).set i (eBools (brV N r) (r.2.set j x)) := by unfold eEachB; rw [List.map_set]; rfl
  refine ⟨?_, fun q hq => ?_⟩
  · rw [hrows, heach]
    refine Own.put (i + 1) (by simp [eEachB]; exact hil) ?_
    simp only [List.getElem_cons_succ, List.getElem_set_self, List.eraseIdx_cons_succ, List.eraseIdx_set_eq]
    simp only [List.eraseIdx_cons_succ] at h2
    exact h2
  · rcases List.mem_or_eq_of_mem_set hq with hq | rfl
    · exact h.2 q hq
    · rw [List.length_set]; exact h.2 r hm
theorem ownM_snoc {w0 w : World} {N : Nat} {v : Value} {rs : List Br} {g : Nat} {l : List Bool} (hl : l.length = N) (hr : ∀ r ∈ rs, r.2.length = N) (h : Own w0 w (eBRows v (rs.map (brV N) ++ [.slice (some ⟨g, 0, none⟩) N N]) :: eBools (.slice (some ⟨g, 0, none⟩) N N) l :: eEachB N rs) []) : OwnM w0 w N v (rs ++ [(g, l)]) := by
  refine ⟨?_, fun r hm => ?_⟩
  · rw [List.map_append, eEachB_snoc]
    exact h.perm ((List.perm_append_singleton _ _).symm.cons _)
  · rcases List.mem_append.1 hm with hm | hm
    · exact hr r hm
    · simp at hm; subst hm; exact hl
theorem ownM_frozen {w0 w : World} {N : Nat} {tv : Value} {rs : List Br} (h : OwnM w0 w N tv rs) {i : Nat} {r : Br} (hi : rs[i]? = some r) {j : Nat} {b : Bool} (hj : r.2[j]? = some b) : w.cell? ⟨r.1, j, none⟩ = some (.bool b) ∧ w.frozen? ⟨r.1, j, none⟩ = false := by
  have hm := List.mem_of_getElem? hi
  exact own_bools_cell (g := r.1) (n := N) (cap := N) (l := r.2) h.1 (List.mem_append_left _ (List.mem_cons_of_mem _ (List.mem_map.2 ⟨r, hm, rfl⟩))) (h.2 r hm) hj
/-- The rows are those of a table of functions. -/
def RowsM (N : Nat) (rs : List Br) (M : Nat → Nat → Bool) : Prop := ∀ i r, rs[i]? = some r → r.2 = bF N (M i)
def mSet (M : Nat → Nat → Bool) (i j : Nat) : Nat → Nat → Bool := fun x y => if x = i ∧ y = j then true else M x y
theorem rowsM_set {N : Nat} {rs : List Br} {M : Nat → Nat → Bool} (h : RowsM N rs M) {i j : Nat} {r : Br} (hi : rs[i]? = some r) : RowsM N (rs.set i (r.1, r.2.set j true)) (mSet M i j) := fun k q hk => by
  rw [List.getElem?_set] at hk
  by_cases e : i = k
  · subst e
    rw [if_pos rfl, if_pos (List.getElem?_eq_some_iff.1 hi).1] at hk
    obtain rfl := Option.some.inj hk
    simp only
    rw [h i r hi, bF_set]
    refine bF_congr fun t _ => ?_
    unfold mSet
    by_cases e2 : t = j
    · rw [if_pos e2, if_pos ⟨rfl, e2⟩]
    · rw [if_neg e2, if_neg (fun q => e2 q.2)]
  · rw [if_neg e] at hk
    rw [h k q hk]
    refine bF_congr fun t _ => ?_
    unfold mSet
    rw [if_neg (fun q => e q.1.symm)]
theorem rowsM_snoc {N : Nat} {rs : List Br} {M : Nat → Nat → Bool} (h : RowsM N rs M) (g : Nat) {k : Nat} (hk : rs.length = k) : RowsM N (rs ++ [(g, bF N (M k))]) M := fun j r hj => by
  by_cases hl : j < rs.length
  · rw [List.getElem?_append_left hl] at hj; exact h j r hj
  · have h2 := (List.getElem?_eq_some_iff.1 hj).1
    rw [List.length_append, List.length_singleton] at h2
    obtain rfl : j = rs.length := by omega
    rw [List.getElem?_append_right (Nat.le_refl _), Nat.sub_self] at hj
    simp at hj; subst hj; rw [hk]
end Go.Proofs.YtbciefeipiphiaaDoor.Rc
