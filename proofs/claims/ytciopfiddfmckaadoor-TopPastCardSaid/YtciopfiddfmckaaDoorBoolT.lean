/- Tables of bools that a call makes: rows of bools, each in a block of its own; an append of a new row; what reads as such a table. -/
import Derived.Test.YtciopfiddfmckaaDoorProg
import Derived.Test.YtciopfiddfmckaaDoorOwn
import Derived.Handy
namespace Go.Proofs.YtciopfiddfmckaaDoor.Df
open Go.RowKit Go.IntWalk Go.Proofs.YtciopfiddfmckaaDoor.Wd

theorem int_eq' {a b : Int} (h : a = b) : (a != b) = false := by rw [h]; exact bne_self_eq_false _
theorem int_ne' {a b : Int} (h : a ≠ b) : (a != b) = true := bne_iff_ne.2 h
def BoolsAt (w : World) (B : Nat) (A : Option Addr) (bs : List Bool) : Prop := Cells w B A (bs.map Value.bool)
theorem BoolsAt.nil (w : World) (B : Nat) (A : Option Addr) : BoolsAt w B A [] := Cells.nil _ _ _
theorem BoolsAt.on {w w' : World} {A : Option Addr} {bs : List Bool} (h : BoolsAt w w.heap.size A bs) (hb : Below w.heap.size w w') : BoolsAt w' w'.heap.size A bs := (Cells.below h hb).more hb.size
theorem BoolsAt.at_ {w : World} {B : Nat} {A : Option Addr} {bs : List Bool} (h : BoolsAt w B A bs) {k : Nat} {b : Bool} (hk : bs[k]? = some b) : ∃ ad, A = some ad ∧ ad.block < B ∧ w.cell? (ad.add k) = some (.bool b) ∧ k < bs.length := by
  obtain ⟨ad, e, h1, h2⟩ := h k (.bool b) (by rw [List.getElem?_map, hk]; rfl)
  exact ⟨ad, e, h1, h2, (List.getElem?_eq_some_iff.1 hk).1⟩
theorem own_bools {w0 w : World} {fv : Value} {bs : List Bool} {es fs : List Ent} (h : Own w0 w es fs) (hm : eBools fv bs ∈ es ++ fs) :
    ∃ A cap, fv = .slice A bs.length cap ∧ bs.length ≤ cap ∧ cap ≤ 9223372036854775807 ∧ BoolsAt w w.heap.size A bs := by
  obtain ⟨A, cap, hv, h1, h2, _⟩ := h.form hm
  simp only [eBools] at hv h1
  subst hv
  unfold maxLen at h2
  exact ⟨A, cap, rfl, h1, h2, h.cells hm⟩
end Go.Proofs.YtciopfiddfmckaaDoor.Df
namespace Go.Proofs.YtciopfiddfmckaaDoor.Rc
open Go.RowKit Go.IntWalk Go.Proofs.YtciopfiddfmckaaDoor.Wd Go.Proofs.YtciopfiddfmckaaDoor.Df

/-- 'make([]bool, n)'. -/
theorem mk_bools {w : World} {ops : Array Oper} {rest : List Oper} {o : Oper} {a : Act} {Q : Exit → Act → World → Prop} (hgd : o.guard = none) (l c : Operand)
    (ho : o.op = Op.makeSlice 23 l c) (n : Nat) (hl : a.eval l = .int .i64 (n : Int)) (hc : a.eval c = .int .i64 (n : Int)) (hn : n ≤ 17592186044416)
    (h : ∀ w', Own w w' [eBools (.slice (some ⟨w.heap.size, 0, none⟩) n n) (List.replicate n false)] [] → wpList Tryd.prog ops Q rest (a.put o.dst (.slice (some ⟨w.heap.size, 0, none⟩) n n)) w') : wpList Tryd.prog ops Q (o :: rest) a w := by
  obtain ⟨i0, hi, hz0, hz1, hz2⟩ := info_parts infoBool
  refine wpList_make_full w hgd l c 23 ho w.heap.size 4 i0 (.bool false) 1 Tryd.underlying23 hi hz0 hz1 .i64 .i64 _ _ n hl hc rfl rfl (by rw [hz2]; omega) (by unfold maxLen; omega) (Nat.le_refl _) ?_
  intro w' hown hg
  refine h w' ⟨(Below.refl _ _).grown hg (Nat.le_refl _) (fun k hk => by cases hk), fun e he => ?_, fun e he => by simp at he, by simp, fun e _ f hf => by simp at hf⟩
  have e' : (madeCells (Value.bool false).cells (n * 1)).toList = (List.replicate n false).map Value.bool := by
    have : (Value.bool false).cells = #[.bool false] := rfl
    rw [this, Nat.mul_one, toList_madeCells_one, List.map_replicate]
  simp at he; subst he
  rw [e'] at hown
  unfold eBools
  rw [List.length_replicate]
  exact hown
theorem own_bools_set {w0 w : World} {g n cap : Nat} {l : List Bool} {es fs : List Ent} (h : Own w0 w (eBools (.slice (some ⟨g, 0, none⟩) n cap) l :: es) fs) (hl : l.length = n) (j : Nat) (x : Bool) :
    Own w0 (w.setCell ⟨g, j, none⟩ (.bool x)) (eBools (.slice (some ⟨g, 0, none⟩) n cap) (l.set j x) :: es) fs := by
  subst hl
  have h2 := Own.set (t := 4) (sz := 1) (n := l.length) (cap := cap) (xs := l.map Value.bool) h j (.bool x)
  rw [show (l.map Value.bool).set j (.bool x) = (l.set j x).map Value.bool from by rw [List.map_set]] at h2
  unfold eBools
  rw [List.length_set]
  exact h2
theorem own_bools_cell {w0 w : World} {g n cap : Nat} {l : List Bool} {es fs : List Ent} (h : Own w0 w es fs) (he : eBools (.slice (some ⟨g, 0, none⟩) n cap) l ∈ es ++ fs) (hl : l.length = n) {j : Nat} {x : Bool} (hj : l[j]? = some x) :
    w.cell? ⟨g, j, none⟩ = some (.bool x) ∧ w.frozen? ⟨g, j, none⟩ = false := by
  subst hl
  exact h.cell (t := 4) (sz := 1) (n := l.length) (cap := cap) (xs := l.map Value.bool) he (by rw [List.getElem?_map, hj]; rfl)
/-- The rows: a block and a list of bools each. -/
abbrev Br := Nat × List Bool
def brV (N : Nat) (r : Br) : Value := .slice (some ⟨r.1, 0, none⟩) N N
/-- What reads as a table of bools. -/
def TabAt (w : World) (A : Option Addr) (N : Nat) (rs : List Br) : Prop :=
  ∀ k r, rs[k]? = some r → r.2.length = N ∧ (∃ ad, A = some ad ∧ ad.block < w.heap.size ∧ w.cell? (ad.add k) = some (brV N r)) ∧ r.1 < w.heap.size ∧ ∀ j b, r.2[j]? = some b → w.cell? ⟨r.1, j, none⟩ = some (.bool b)
theorem TabAt.on {w w' : World} {A : Option Addr} {N : Nat} {rs : List Br} (h : TabAt w A N rs) (hb : Below w.heap.size w w') : TabAt w' A N rs := fun k r hk => by
  obtain ⟨h1, ⟨ad, e, h2, h3⟩, h4, h5⟩ := h k r hk
  exact ⟨h1, ⟨ad, e, Nat.lt_of_lt_of_le h2 hb.size, (hb.cell (p := ad.add k) (by rw [Wd.block_add]; exact h2)).trans h3⟩, Nat.lt_of_lt_of_le h4 hb.size, fun j b hj => (hb.cell (p := ⟨r.1, j, none⟩) h4).trans (h5 j b hj)⟩
theorem map_set_same {α β : Type} (f : α → β) (l : List α) (i : Nat) (x : α) (h : ∀ y, l[i]? = some y → f x = f y) : (l.set i x).map f = l.map f := by
  refine List.ext_getElem? fun k => ?_
  rw [List.getElem?_map, List.getElem?_map, List.getElem?_set]
  by_cases e : i = k
  · subst e
    by_cases hl : i < l.length
    · rw [if_pos rfl, if_pos hl, List.getElem?_eq_getElem hl, Option.map_some, Option.map_some, h _ (List.getElem?_eq_getElem hl)]
    · rw [if_pos rfl, if_neg hl, List.getElem?_eq_none (by omega)]
      try rfl
  · rw [if_neg e]
end Go.Proofs.YtciopfiddfmckaaDoor.Rc
