/- The walk of the document's answer for package dfa: stilewardref1's Pair. -/
import Derived.Test.YtnlkkfcjonchgaaDoorRefNot
namespace Go.Proofs.YtnlkkfcjonchgaaDoor.Df
open Go.RowKit Go.IntWalk Go.Proofs.YtnlkkfcjonchgaaDoor.Wd Go.Proofs.YtnlkkfcjonchgaaDoor.Wo

/-- The row of one, as far as letter c. -/
def trow {α : Type} [DecidableEq α] (S : α → List α) (l : List α) (x : α) (c : Nat) : List Int := ((S x).take c).map fun t => ((num (addAll l ((S x).take c)) t : Nat) : Int)
theorem trow_step {α : Type} [DecidableEq α] {S : α → List α} {l : List α} {x t : α} {c : Nat} (h : (S x)[c]? = some t) :
    trow S l x (c + 1) = trow S l x c ++ [((num (addTo (addAll l ((S x).take c)) t) t : Nat) : Int)] := by
  have hc := (List.getElem?_eq_some_iff.1 h).1
  have ht := (List.getElem?_eq_some_iff.1 h).2
  obtain ⟨m, hm⟩ := addTo_prefix (addAll l ((S x).take c)) t
  unfold trow
  rw [addAll_succ h, ← List.take_append_getElem hc, List.map_append, ht]
  congr 1
  exact List.map_congr_left fun y hy => by rw [hm, idx_append (mem_addAll.2 (.inr hy))]
theorem trow_full {α : Type} [DecidableEq α] {S : α → List α} {l : List α} {x : α} {n : Nat} (h : (S x).length = n) : trow S l x n = srow S (addAll l (S x)) x := by
  unfold trow srow; rw [List.take_of_length_le (by omega)]
def kindF (K : Int) : Bool → Bool → Bool := if K = 0 then fun x y => x && y else if K = 1 then fun x y => x || y else fun x y => x && !y
def fsts (l : List (Nat × Nat)) : List Int := l.map fun p => ((p.1 : Nat) : Int)
def snds (l : List (Nat × Nat)) : List Int := l.map fun p => ((p.2 : Nat) : Int)
theorem fsts_get {l : List (Nat × Nat)} {k : Nat} {p : Nat × Nat} (h : l[k]? = some p) : (fsts l)[k]? = some ((p.1 : Nat) : Int) := by unfold fsts; rw [List.getElem?_map, h]; rfl
theorem snds_get {l : List (Nat × Nat)} {k : Nat} {p : Nat × Nat} (h : l[k]? = some p) : (snds l)[k]? = some ((p.2 : Nat) : Int) := by unfold snds; rw [List.getElem?_map, h]; rfl
theorem fsts_len (l : List (Nat × Nat)) : (fsts l).length = l.length := List.length_map _
theorem snds_len (l : List (Nat × Nat)) : (snds l).length = l.length := List.length_map _
theorem fsts_app (l : List (Nat × Nat)) (p : Nat × Nat) : fsts (l ++ [p]) = fsts l ++ [((p.1 : Nat) : Int)] := by unfold fsts; rw [List.map_append]; rfl
theorem snds_app (l : List (Nat × Nat)) (p : Nat × Nat) : snds (l ++ [p]) = snds l ++ [((p.2 : Nat) : Int)] := by unfold snds; rw [List.map_append]; rfl
/-- What a row of ints that is owned reads as. -/
theorem own_read {w0 w : World} {es fs : List Ent} (h : Own w0 w es fs) {v : Value} {l : List Int} (he : eInts v l ∈ es ++ fs) : ∃ A cap, v = .slice A l.length cap ∧ Cells w w.heap.size A (l.map i64) := by
  obtain ⟨A, cap, hv, _, _, _⟩ := h.form he
  simp only [eInts] at hv
  subst hv
  exact ⟨A, cap, rfl, h.cells he⟩
theorem cells_int {w : World} {B : Nat} {A : Option Addr} {l : List Int} (h : Cells w B A (l.map i64)) {k : Nat} {y : Int} (hk : l[k]? = some y) : ∃ ad, A = some ad ∧ ad.block < B ∧ w.cell? (ad.add k) = some (.int .i64 y) :=
  h k (.int .i64 y) (by rw [List.getElem?_map, hk]; rfl)
theorem size_setC (w : World) (ad : Addr) (v : Value) : (w.setCell ad v).heap.size = w.heap.size := by simp
/-- The state, midway. -/
def QInv (w1 wr : World) (g gr : Nat) (a b : Aut) (h : Bool → Bool → Bool) (i : Nat) (xv yv : Value) : Prop :=
  ∃ l nv fv rs, Part (S2 a b) (start2 a b) i l ∧ Build w1 wr g (eDfa gr zero4 :: eInts xv (fsts l) :: eInts yv (snds l) :: []) a.L 0 ((l.take i).map (srow (S2 a b) l)) ((l.take i).map (fun p => h (finA a p.1) (finA b p.2))) nv fv rs
/-- The same within a row. -/
def TInv (w1 wi : World) (g gr : Nat) (a b : Aut) (h : Bool → Bool → Bool) (k : Nat) (l : List (Nat × Nat)) (p : Nat × Nat) (n c : Nat) (nv fv : Value) (rs : List (Value × List Int)) (xv yv rv : Value) : Prop :=
  Own w1 wi [eInts xv (fsts (addAll l ((S2 a b p).take c))), eInts yv (snds (addAll l ((S2 a b p).take c))), eInts rv (trow (S2 a b) l p c),
    eRows nv (rs.map (·.1)), eBools fv ((l.take k).map (fun p => h (finA a p.1) (finA b p.2))), eDfa g [.int .i64 (n : Int), .int .i64 0, nv, fv], eDfa gr zero4] (eEach rs)
end Go.Proofs.YtnlkkfcjonchgaaDoor.Df
