/- The walks of package dfa's products: pairs of states, in the order in which they are found. -/
import Derived.Test.YtendgfbnkpbndaaDoorDfaP
import Derived.Laws.StructEq
namespace Go.Proofs.YtendgfbnkpbndaaDoor.Df
open Go.RowKit Go.IntWalk Go.Proofs.YtendgfbnkpbndaaDoor.Wd Go.Proofs.YtendgfbnkpbndaaDoor.Wo

/-! ### rows of pairs -/
def pcells (l : List (Nat × Nat)) : List Value := l.flatMap fun p => [.int .i64 ((p.1 : Nat) : Int), .int .i64 ((p.2 : Nat) : Int)]
theorem pcells_append (l m : List (Nat × Nat)) : pcells (l ++ m) = pcells l ++ pcells m := List.flatMap_append
theorem pcells_get : ∀ (l : List (Nat × Nat)) (k : Nat) (p : Nat × Nat), l[k]? = some p → (pcells l)[k * 2]? = some (.int .i64 ((p.1 : Nat) : Int)) ∧ (pcells l)[k * 2 + 1]? = some (.int .i64 ((p.2 : Nat) : Int))
  | [], k, p, h => by simp at h
  | q :: l, 0, p, h => by
    simp only [List.getElem?_cons_zero, Option.some.injEq] at h
    subst h
    exact ⟨rfl, rfl⟩
  | q :: l, k + 1, p, h => by
    rw [List.getElem?_cons_succ] at h
    have := pcells_get l k p h
    have e : pcells (q :: l) = .int .i64 ((q.1 : Nat) : Int) :: .int .i64 ((q.2 : Nat) : Int) :: pcells l := rfl
    rw [e, show (k + 1) * 2 = k * 2 + 1 + 1 by omega]
    simpa using this
def PairsAt (w : World) (B : Nat) (A : Option Addr) (l : List (Nat × Nat)) : Prop := Cells w B A (pcells l)
theorem PairsAt.on {w w' : World} {A : Option Addr} {l : List (Nat × Nat)} (h : PairsAt w w.heap.size A l) (hb : Below w.heap.size w w') : PairsAt w' w'.heap.size A l := (Cells.below h hb).more hb.size
theorem PairsAt.at_ {w : World} {B : Nat} {A : Option Addr} {l : List (Nat × Nat)} (h : PairsAt w B A l) {k : Nat} {p : Nat × Nat} (hk : l[k]? = some p) :
    ∃ ad, A = some ad ∧ ad.block < B ∧ w.cell? (ad.add (k * 2)) = some (.int .i64 ((p.1 : Nat) : Int)) ∧ w.cell? ⟨(ad.add (k * 2)).block, (ad.add (k * 2)).off + 1, none⟩ = some (.int .i64 ((p.2 : Nat) : Int)) := by
  obtain ⟨h1, h2⟩ := pcells_get l k p hk
  obtain ⟨ad, e, h3, h4⟩ := h _ _ h1
  obtain ⟨ad2, e2, _, h6⟩ := h _ _ h2
  obtain rfl := Option.some.inj (e.symm.trans e2)
  exact ⟨ad, e, h3, h4, by rw [← Addr.add_succ' (ad.add (k * 2)) 0, Addr.add_add]; exact h6⟩
/-- What slices.Index returns. -/
def pidx (l : List (Nat × Nat)) (p : Nat × Nat) : Int := if p ∈ l then ((num l p : Nat) : Int) else -1
theorem pidx_hit {l : List (Nat × Nat)} {p : Nat × Nat} {k : Nat} (h : p ∉ l.take k) (hk : k < l.length) (he : p = l[k]) : pidx l p = (k : Int) := by
  unfold pidx
  rw [if_pos (he ▸ List.getElem_mem hk), idx_at h hk he]
theorem pidx_none {l : List (Nat × Nat)} {p : Nat × Nat} {k : Nat} (h : p ∉ l.take k) (hk : l.length ≤ k) : pidx l p = -1 := by
  rw [List.take_of_length_le hk] at h
  unfold pidx; rw [if_neg h]
theorem notin_take_succ {α : Type} {l : List α} {p : α} {k : Nat} (h : p ∉ l.take k) (hk : k < l.length) (he : ¬ p = l[k]) : p ∉ l.take (k + 1) := by
  rw [← List.take_append_getElem hk]
  intro hm
  rcases List.mem_append.1 hm with hm | hm
  · exact h hm
  · simp at hm; exact he hm
/-! ### numbered -/
/-! ### checkBoth -/
end Go.Proofs.YtendgfbnkpbndaaDoor.Df
