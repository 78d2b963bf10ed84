/- The walks of package dfa's Not and products. -/
import Derived.Test.YtdkbdoogjehkfaaDoorDfaW
import Derived.Deep.RegionHeld3
import Derived.Deep.RegionLaw
import Derived.Lib.SliceRun
import Derived.Deep.DeepCutAuto
namespace Go.Proofs.YtdkbdoogjehkfaaDoor.Df
open Go.RowKit Go.IntWalk Go.Proofs.YtdkbdoogjehkfaaDoor.Wd Go.Proofs.YtdkbdoogjehkfaaDoor.Wo

/-! ### an automaton that is built -/
abbrev zero4 : List Value := [.int .i64 0, .int .i64 0, .slice none 0 0, .slice none 0 0]
/-- The rows and the flags so far; the struct at block g; xs: what is owned besides. -/
def Build (w1 wr : World) (g : Nat) (xs : List Ent) (L s : Int) (rows : List (List Int)) (bs : List Bool) (nv fv : Value) (rs : List (Value × List Int)) : Prop :=
  rs.map (·.2) = rows ∧ Own w1 wr (eRows nv (rs.map (·.1)) :: eBools fv bs :: eDfa g [.int .i64 L, .int .i64 s, nv, fv] :: xs) (eEach rs)
theorem take_succ_map {α β : Type} (f : α → β) (l : List α) {k : Nat} {x : α} (h : l[k]? = some x) : (l.take (k + 1)).map f = (l.take k).map f ++ [f x] := by
  obtain ⟨h1, h2⟩ := List.getElem?_eq_some_iff.1 h
  rw [← List.take_append_getElem h1, List.map_append, h2]; rfl
theorem take_succ' {α : Type} (l : List α) {k : Nat} {x : α} (h : l[k]? = some x) : l.take (k + 1) = l.take k ++ [x] := by
  obtain ⟨h1, h2⟩ := List.getElem?_eq_some_iff.1 h
  rw [← List.take_append_getElem h1, h2]
theorem Build.c2 {w1 wr : World} {g : Nat} {xs : List Ent} {L s : Int} {rows : List (List Int)} {bs : List Bool} {nv fv : Value} {rs : List (Value × List Int)} (h : Build w1 wr g xs L s rows bs nv fv rs) :
    wr.cell? ⟨g, 2, none⟩ = some nv ∧ wr.frozen? ⟨g, 2, none⟩ = false := h.2.dcell (l := [.int .i64 L, .int .i64 s, nv, fv]) (by simp) rfl
theorem Build.c3 {w1 wr : World} {g : Nat} {xs : List Ent} {L s : Int} {rows : List (List Int)} {bs : List Bool} {nv fv : Value} {rs : List (Value × List Int)} (h : Build w1 wr g xs L s rows bs nv fv rs) :
    wr.cell? ⟨g, 3, none⟩ = some fv ∧ wr.frozen? ⟨g, 3, none⟩ = false := h.2.dcell (l := [.int .i64 L, .int .i64 s, nv, fv]) (by simp) rfl
theorem Build.lt {w1 wr : World} {g : Nat} {xs : List Ent} {L s : Int} {rows : List (List Int)} {bs : List Bool} {nv fv : Value} {rs : List (Value × List Int)} (h : Build w1 wr g xs L s rows bs nv fv rs) :
    w1.heap.size ≤ g ∧ g < wr.heap.size := h.2.lt (ad := ⟨g, 0, none⟩) (xs := [.int .i64 L, .int .i64 s, nv, fv]) (t := 49) (sz := 4) (n := 1) (cap := 1) (by simp [eDfa])
theorem Build.on {w1 wr w2 : World} {g : Nat} {xs : List Ent} {L s : Int} {rows : List (List Int)} {bs : List Bool} {nv fv : Value} {rs : List (Value × List Int)} (h : Build w1 wr g xs L s rows bs nv fv rs) (hb : Below wr.heap.size wr w2) :
    Build w1 w2 g xs L s rows bs nv fv rs := ⟨h.1, h.2.on hb⟩
/-- What the two slices look like. -/
theorem Build.form {w1 wr : World} {g : Nat} {xs : List Ent} {L s : Int} {rows : List (List Int)} {bs : List Bool} {nv fv : Value} {rs : List (Value × List Int)} (h : Build w1 wr g xs L s rows bs nv fv rs) :
    ∃ A c F cf, nv = .slice A rows.length c ∧ fv = .slice F bs.length cf := by
  obtain ⟨A, c, h1, _⟩ := h.2.form (e := eRows nv (rs.map (·.1))) (by simp)
  obtain ⟨F, cf, h2, _⟩ := h.2.form (e := eBools fv bs) (by simp)
  simp only [eRows, eBools, List.length_map] at h1 h2
  exact ⟨A, c, F, cf, by rw [h1, ← h.1, List.length_map], h2⟩
/-- What is built is laid into the result's own block, and reads as an automaton. -/
theorem build_end {w1 wr w2 : World} {g gr : Nat} {xs : List Ent} {L s : Int} {rows : List (List Int)} {bs : List Bool} {nv fv : Value} {rs : List (Value × List Int)} (h : Build w1 wr g (eDfa gr zero4 :: xs) L s rows bs nv fv rs)
    (hs : ∀ r ∈ rows, ∀ x ∈ r, Small x) (hL : Small L) (hS : Small s) (hw : w2 = (((wr.setCell ⟨gr, 0, none⟩ (.int .i64 L)).setCell ⟨gr, 1, none⟩ (.int .i64 s)).setCell ⟨gr, 2, none⟩ nv).setCell ⟨gr, 3, none⟩ fv) :
    DfaOwn w1 w2 (.agg #[.int .i64 L, .int .i64 s, nv, fv]) ⟨L, s, rows, bs⟩ ∧
      w2.cell? ⟨gr, 0, none⟩ = some (.int .i64 L) ∧ w2.cell? ⟨gr, 1, none⟩ = some (.int .i64 s) ∧ w2.cell? ⟨gr, 2, none⟩ = some nv ∧ w2.cell? ⟨gr, 3, none⟩ = some fv := by
  subst hw
  have h2 := (((h.2.four.dset 0 (.int .i64 L)).dset 1 (.int .i64 s)).dset 2 nv).dset 3 fv
  refine ⟨⟨nv, fv, rs, rfl, h.1.symm, h2.two.fin.two.fin.only.weak (fun e he => ?_), (fun p hp => hs _ (by rw [← h.1]; exact List.mem_map.2 ⟨p, hp, rfl⟩)), hL, hS⟩,
    (h2.dcell (g := gr) (l := [.int .i64 L, .int .i64 s, nv, fv]) (by simp) rfl).1, (h2.dcell (g := gr) (l := [.int .i64 L, .int .i64 s, nv, fv]) (by simp) rfl).1, (h2.dcell (g := gr) (l := [.int .i64 L, .int .i64 s, nv, fv]) (by simp) rfl).1, (h2.dcell (g := gr) (l := [.int .i64 L, .int .i64 s, nv, fv]) (by simp) rfl).1⟩
  simp only [List.mem_cons] at he ⊢
  rcases he with he | he | he
  · exact .inr (.inl he)
  · exact .inl he
  · exact .inr (.inr he)
/-- The zero automaton is laid into the result's own block. -/
theorem res_bad {w1 wr w2 : World} {gr : Nat} {es fs : List Ent} (h : Own w1 wr (eDfa gr zero4 :: es) fs)
    (hw : w2 = (((wr.setCell ⟨gr, 0, none⟩ (.int .i64 0)).setCell ⟨gr, 1, none⟩ (.int .i64 0)).setCell ⟨gr, 2, none⟩ (.slice none 0 0)).setCell ⟨gr, 3, none⟩ (.slice none 0 0)) :
    Below w1.heap.size w1 w2 ∧ w2.cell? ⟨gr, 0, none⟩ = some (.int .i64 0) ∧ w2.cell? ⟨gr, 1, none⟩ = some (.int .i64 0) ∧ w2.cell? ⟨gr, 2, none⟩ = some (.slice none 0 0) ∧ w2.cell? ⟨gr, 3, none⟩ = some (.slice none 0 0) := by
  subst hw
  have h2 := (((h.dset 0 (.int .i64 0)).dset 1 (.int .i64 0)).dset 2 (.slice none 0 0)).dset 3 (.slice none 0 0)
  exact ⟨h2.below, (h2.dcell (g := gr) (l := zero4) (by simp) rfl).1, (h2.dcell (g := gr) (l := zero4) (by simp) rfl).1, (h2.dcell (g := gr) (l := zero4) (by simp) rfl).1, (h2.dcell (g := gr) (l := zero4) (by simp) rfl).1⟩
/-- The result's own block, as it was made. -/
theorem Build.res {w1 wr : World} {g gr : Nat} {xs : List Ent} {L s : Int} {rows : List (List Int)} {bs : List Bool} {nv fv : Value} {rs : List (Value × List Int)} (h : Build w1 wr g (eDfa gr zero4 :: xs) L s rows bs nv fv rs) {j : Nat} (hj : j < 4) :
    wr.cell? ⟨gr, j, none⟩ = some zero4[j] ∧ wr.frozen? ⟨gr, j, none⟩ = false := h.2.dcell (g := gr) (l := zero4) (by simp) (List.getElem?_eq_getElem hj)
theorem Build.str {w1 wr : World} {g : Nat} {xs : List Ent} {L s : Int} {rows : List (List Int)} {bs : List Bool} {nv fv : Value} {rs : List (Value × List Int)} (h : Build w1 wr g xs L s rows bs nv fv rs) :
    wr.cell? ⟨g, 0, none⟩ = some (.int .i64 L) ∧ wr.cell? ⟨g, 1, none⟩ = some (.int .i64 s) ∧ wr.cell? ⟨g, 2, none⟩ = some nv ∧ wr.cell? ⟨g, 3, none⟩ = some fv :=
  ⟨(h.2.dcell (l := [.int .i64 L, .int .i64 s, nv, fv]) (by simp) rfl).1, (h.2.dcell (l := [.int .i64 L, .int .i64 s, nv, fv]) (by simp) rfl).1, h.c2.1, h.c3.1⟩
/-- A row is laid to what is built. -/
theorem build_row {w1 w2 w3 : World} {g : Nat} {xs : List Ent} {L s : Int} {rows : List (List Int)} {bs : List Bool} {nv fv nv' x : Value} {rs : List (Value × List Int)} {r : List Int} (hm : rs.map (·.2) = rows)
    (h : Own w1 w3 (eRows nv' (rs.map (·.1) ++ [x]) :: eInts x r :: eBools fv bs :: eDfa g [.int .i64 L, .int .i64 s, nv, fv] :: xs) (eEach rs)) (hw : w2 = w3.setCell ⟨g, 2, none⟩ nv') :
    Build w1 w2 g xs L s (rows ++ [r]) bs nv' fv (rs ++ [(x, r)]) := by
  subst hw
  have h2 := (h.two.fin).three.dset 2 nv'
  refine ⟨by rw [List.map_append, hm]; rfl, ?_⟩
  have h3 := h2.three'.weak (fs' := eEach (rs ++ [(x, r)])) (fun e he => by
    unfold eEach at he ⊢
    rw [List.map_append] at he
    rcases List.mem_append.1 he with he | he
    · exact List.mem_cons_of_mem _ he
    · simp at he; subst he; exact List.mem_cons_self)
  simpa using h3
/-- A flag is laid to what is built. -/
theorem build_flag {w1 w2 w3 : World} {g : Nat} {xs : List Ent} {L s : Int} {rows : List (List Int)} {bs : List Bool} {nv fv fv' : Value} {rs : List (Value × List Int)} {b : Bool} (hm : rs.map (·.2) = rows)
    (h : Own w1 w3 (eBools fv' (bs ++ [b]) :: eRows nv (rs.map (·.1)) :: eDfa g [.int .i64 L, .int .i64 s, nv, fv] :: xs) (eEach rs)) (hw : w2 = w3.setCell ⟨g, 3, none⟩ fv') :
    Build w1 w2 g xs L s rows (bs ++ [b]) nv fv' rs := by
  subst hw
  exact ⟨hm, ((h.three.dset 3 fv').three').two⟩

theorem Good.small_L {d : Aut} (g : Good d) : Small d.L := ⟨by have := g.l1; omega, by have := g.l6; omega⟩
theorem Good.small_s {d : Aut} (g : Good d) : Small d.s := ⟨by have := g.st.1; omega, by have := g.st.2; have := g.n40; omega⟩
theorem good_small {d : Aut} (g : Good d) : ∀ r ∈ d.next, ∀ x ∈ r, Small x := fun r hr x hx => by
  have h := g.go r hr x hx
  have := g.n40
  exact ⟨by have := h.1; omega, by have := h.2; omega⟩

/-! ### Not -/
end Go.Proofs.YtdkbdoogjehkfaaDoor.Df
