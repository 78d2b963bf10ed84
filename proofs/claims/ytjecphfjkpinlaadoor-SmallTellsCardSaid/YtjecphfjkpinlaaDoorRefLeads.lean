/- The walks of the document's answer for what is reached and alive: stilewardref1's Leads, Reached, Live, Alive. -/
import Derived.Test.YtjecphfjkpinlaaDoorRefIn
import Derived.Test.YtjecphfjkpinlaaDoorReachM
namespace Go.Proofs.YtjecphfjkpinlaaDoor.Rc
open Go.RowKit Go.IntWalk Go.Proofs.YtjecphfjkpinlaaDoor.Wd Go.Proofs.YtjecphfjkpinlaaDoor.Wo Go.Proofs.YtjecphfjkpinlaaDoor.Df

/-! ### a table whose rows are still written to -/
def OwnM (w0 w : World) (N : Nat) (tv : Value) (rs : List Br) : Prop := Own w0 w (eBRows tv (rs.map (brV N)) :: eEachB N rs) [] ∧ ∀ r ∈ rs, r.2.length = N
theorem ownM_split {w0 w : World} {a : Ent} {es : List Ent} (h : Own w0 w (a :: es) []) : Own w0 w [a] es := by
  obtain ⟨a1, a2⟩ := List.pairwise_cons.1 h.apart
  exact ⟨h.below, fun e he => by simp at he; subst he; exact h.each _ List.mem_cons_self, fun e he => h.each e (List.mem_cons_of_mem _ he), by simp, fun e he f hf => by simp at he; subst he; exact a1 f hf⟩
theorem ownM_T {w0 w : World} {N : Nat} {tv : Value} {rs : List Br} (h : OwnM w0 w N tv rs) : OwnT w0 w N tv rs [] := ⟨ownM_split h.1, h.2⟩
theorem ownM_on {w0 w w' : World} {N : Nat} {tv : Value} {rs : List Br} (h : OwnM w0 w N tv rs) (hb : Below w.heap.size w w') : OwnM w0 w' N tv rs := ⟨h.1.on hb, h.2⟩
theorem map_set_same {α β : Type} (f : α → β) (l : List α) (i : Nat) (x : α) (h : ∀ y, l[i]? = some y → f x = f y) : (l.set i x).map f = l.map f := by
  refine List.ext_getElem? fun k => ?_
  rw [List.getElem?_map, List.getElem?_map, List.getElem?_set]
  by_cases e : i = k
  · subst e
    by_cases hl : i < l.length
    · rw [if_pos rfl, if_pos hl, List.getElem?_eq_getElem hl, Option.map_some, Option.map_some, h _ (List.getElem?_eq_getElem hl)]
    · rw [if_pos rfl, if_neg hl, List.getElem?_eq_none (by omega)]
      try rfl
  · rw [if_neg e]
/-- 'm[i][j] = x'. -/
theorem ownM_set {w0 w : World} {N : Nat} {tv : Value} {rs : List Br} (h : OwnM w0 w N tv rs) {i : Nat} {r : Br} (hi : rs[i]? = some r) (j : Nat) (x : Bool) :
    OwnM w0 (w.setCell ⟨r.1, j, none⟩ (.bool x)) N tv (rs.set i (r.1, r.2.set j x)) := by
  obtain ⟨hil, hie⟩ := List.getElem?_eq_some_iff.1 hi
  have hm := List.mem_of_getElem? hi
  have hlen : i + 1 < (eBRows tv (rs.map (brV N)) :: eEachB N rs).length := by simp [eEachB]; exact hil
  have h1 := h.1.pull (i + 1) hlen
  have e1 : (eBRows tv (rs.map (brV N)) :: eEachB N rs)[i + 1] = eBools (brV N r) r.2 := by
    simp only [List.getElem_cons_succ, eEachB, List.getElem_map, hie]
  rw [e1] at h1
  have h2 := own_bools_set h1 (h.2 r hm) j x
  have hrows : (rs.set i (r.1, r.2.set j x)).map (brV N) = rs.map (brV N) := map_set_same _ _ _ _ fun y hy => by
    obtain rfl := Option.some.inj (hi.symm.trans hy); rfl
  have heach : eEachB N (rs.set i (r.1, r.2.set j x)) = (eEachB N rs).set i (eBools (brV N r) (r.2.set j x)) := by unfold eEachB; rw [List.map_set]; rfl
  refine ⟨?_, fun q hq => ?_⟩
  · rw [hrows, heach]
    refine Own.put (i + 1) (by simp [eEachB]; exact hil) ?_
    simp only [List.getElem_cons_succ, List.getElem_set_self, List.eraseIdx_cons_succ, List.eraseIdx_set_eq]
    simp only [List.eraseIdx_cons_succ] at h2
    exact h2
  · rcases List.mem_or_eq_of_mem_set hq with hq | rfl
    · exact h.2 q hq
    · rw [List.length_set]; exact h.2 r hm
theorem ownM_snoc {w0 w : World} {N : Nat} {v : Value} {rs : List Br} {g : Nat} {l : List Bool} (hl : l.length = N) (hr : ∀ r ∈ rs, r.2.length = N) (h : Own w0 w (eBRows v (rs.map (brV N) ++ [rowV g N]) :: eBools (rowV g N) l :: eEachB N rs) []) : OwnM w0 w N v (rs ++ [(g, l)]) := by
  refine ⟨?_, fun r hm => ?_⟩
  · rw [List.map_append, eEachB_snoc]
    exact h.perm ((List.perm_append_singleton _ _).symm.cons _)
  · rcases List.mem_append.1 hm with hm | hm
    · exact hr r hm
    · simp at hm; subst hm; exact hl
theorem ownM_frozen {w0 w : World} {N : Nat} {tv : Value} {rs : List Br} (h : OwnM w0 w N tv rs) {i : Nat} {r : Br} (hi : rs[i]? = some r) {j : Nat} {b : Bool} (hj : r.2[j]? = some b) : w.cell? ⟨r.1, j, none⟩ = some (.bool b) ∧ w.frozen? ⟨r.1, j, none⟩ = false := by
  have hm := List.mem_of_getElem? hi
  exact own_bools_cell (g := r.1) (n := N) (cap := N) (l := r.2) h.1 (List.mem_append_left _ (List.mem_cons_of_mem _ (List.mem_map.2 ⟨r, hm, rfl⟩))) (h.2 r hm) hj
/-- The rows are those of a table of functions. -/
def RowsM (N : Nat) (rs : List Br) (M : Nat → Nat → Bool) : Prop := ∀ i r, rs[i]? = some r → r.2 = bF N (M i)
def mSet (M : Nat → Nat → Bool) (i j : Nat) : Nat → Nat → Bool := fun x y => if x = i ∧ y = j then true else M x y
theorem rowsM_set {N : Nat} {rs : List Br} {M : Nat → Nat → Bool} (h : RowsM N rs M) {i j : Nat} {r : Br} (hi : rs[i]? = some r) : RowsM N (rs.set i (r.1, r.2.set j true)) (mSet M i j) := fun k q hk => by
  rw [List.getElem?_set] at hk
  by_cases e : i = k
  · subst e
    rw [if_pos rfl, if_pos (List.getElem?_eq_some_iff.1 hi).1] at hk
    obtain rfl := Option.some.inj hk
    simp only
    rw [h i r hi, bF_set]
    refine bF_congr fun t _ => ?_
    unfold mSet
    by_cases e2 : t = j
    · rw [if_pos e2, if_pos ⟨rfl, e2⟩]
    · rw [if_neg e2, if_neg (fun q => e2 q.2)]
  · rw [if_neg e] at hk
    rw [h k q hk]
    refine bF_congr fun t _ => ?_
    unfold mSet
    rw [if_neg (fun q => e q.1.symm)]
/-- A first row, midway. -/
def r1 (d : Aut) (i c t : Nat) : Bool := decide (t = i ∨ t ∈ (S1 d i).take c)
theorem r1_start (d : Aut) (i n : Nat) : (List.replicate n false).set i true = bF n (r1 d i 0) := by
  rw [← bF_false, bF_set]
  refine bF_congr fun t _ => ?_
  unfold r1
  by_cases e : t = i
  · rw [if_pos e, decide_eq_true (.inl e)]
  · rw [if_neg e, decide_eq_false]
    rw [List.take_zero]; simp [e]
theorem r1_step {d : Aut} {i c t n : Nat} (h : (S1 d i)[c]? = some t) : (bF n (r1 d i c)).set t true = bF n (r1 d i (c + 1)) := by
  obtain ⟨h1, h2⟩ := List.getElem?_eq_some_iff.1 h
  rw [bF_set]
  refine bF_congr fun u _ => ?_
  unfold r1
  have hm : u ∈ (S1 d i).take (c + 1) ↔ u ∈ (S1 d i).take c ∨ u = t := by rw [← List.take_append_getElem h1, h2]; simp
  by_cases e : u = t
  · rw [if_pos e, decide_eq_true (.inr (hm.2 (.inr e)))]
  · rw [if_neg e]
    by_cases h3 : u = i ∨ u ∈ (S1 d i).take c
    · rw [decide_eq_true h3, decide_eq_true (h3.imp id (fun q => hm.2 (.inl q)))]
    · rw [decide_eq_false h3, decide_eq_false (fun q => h3 (q.imp id (fun q => (hm.1 q).resolve_right e)))]
def R1 (d : Aut) (i t : Nat) : Bool := decide (t = i ∨ t ∈ S1 d i)
theorem r1_full {d : Aut} {i c n : Nat} (h : (S1 d i).length = c) : bF n (r1 d i c) = bF n (R1 d i) := bF_congr fun t _ => by unfold r1 R1; rw [List.take_of_length_le (by omega)]
theorem rowsM_snoc {N : Nat} {rs : List Br} {M : Nat → Nat → Bool} (h : RowsM N rs M) (g : Nat) {k : Nat} (hk : rs.length = k) : RowsM N (rs ++ [(g, bF N (M k))]) M := fun j r hj => by
  by_cases hl : j < rs.length
  · rw [List.getElem?_append_left hl] at hj; exact h j r hj
  · have h2 := (List.getElem?_eq_some_iff.1 hj).1
    rw [List.length_append, List.length_singleton] at h2
    obtain rfl : j = rs.length := by omega
    rw [List.getElem?_append_right (Nat.le_refl _), Nat.sub_self] at hj
    simp at hj; subst hj; rw [hk]
/-- Under way: the first rows; the phases. -/
def P1 (w1 wr : World) (d : Aut) (N k : Nat) (tv : Value) : Prop := ∃ rs, OwnM w1 wr N tv rs ∧ rs.length = k ∧ RowsM N rs (R1 d)
def P2 (w1 wr : World) (d : Aut) (N : Nat) (tv : Value) (k i j : Nat) : Prop := ∃ rs M, OwnM w1 wr N tv rs ∧ rs.length = N ∧ RowsM N rs M ∧ Tabl d M k i j
end Go.Proofs.YtjecphfjkpinlaaDoor.Rc
