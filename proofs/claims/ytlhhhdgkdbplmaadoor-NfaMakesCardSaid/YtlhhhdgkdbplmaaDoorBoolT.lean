/- Tables of bools that a call makes: rows of bools, each in a block of its own; an append of a new row; what reads as such a table. -/
import Derived.Test.YtlhhhdgkdbplmaaDoorFound
import Derived.Test.YtlhhhdgkdbplmaaDoorReachL
import Derived.Test.YtlhhhdgkdbplmaaDoorDfaR
namespace Go.Proofs.YtlhhhdgkdbplmaaDoor.Rc
open Go.RowKit Go.IntWalk Go.Proofs.YtlhhhdgkdbplmaaDoor.Wd Go.Proofs.YtlhhhdgkdbplmaaDoor.Wo Go.Proofs.YtlhhhdgkdbplmaaDoor.Df

theorem infoBRow : (Tryd.prog.info? 27).map (fun i => (i.zero, i.size, i.bytes)) = some (some (.slice none 0 0), 1, 24) := by kernel_rfl
/-- The rows' values. -/
def eBRows (v : Value) (l : List Value) : Ent := ⟨27, 1, v, l.length, l⟩
/-- The rows: a block and a list of bools each. -/
abbrev Br := Nat × List Bool
def brV (N : Nat) (r : Br) : Value := .slice (some ⟨r.1, 0, none⟩) N N
def eEachB (N : Nat) (rs : List Br) : List Ent := rs.map fun r => eBools (brV N r) r.2
theorem eEachB_snoc (N : Nat) (rs : List Br) (r : Br) : eEachB N (rs ++ [r]) = eEachB N rs ++ [eBools (brV N r) r.2] := by unfold eEachB; rw [List.map_append]; rfl
/-- 'append(l, row)' of one row of bools. -/
theorem own_brow {w0 w : World} {ops : Array Oper} {rest : List Oper} {o : Oper} {a : Act} {Q : Exit → Act → World → Prop} (hgd : o.guard = none) (s x : Operand)
    (ho : o.op = .call { callee := .builtin .append, args := #[s, x], argTypes := #[71, 71] })
    {v : Value} {l : List Value} {es fs : List Ent} (hs : a.eval s = v) (h : Own w0 w (eBRows v l :: es) fs) {y : Value} (hy : y.oneCell' = true) {t' : TypeId} (hx : a.eval x = .slice (some ⟨w.heap.size, 0, none⟩) 1 1) (hb : l.length < 1099511627776)
    (hK : ∀ g cap w', Own w0 w' (eBRows (.slice (some ⟨g, 0, none⟩) (l.length + 1) cap) (l ++ [y]) :: es) fs → wpList Tryd.prog ops Q rest (a.put o.dst (.slice (some ⟨g, 0, none⟩) (l.length + 1) cap)) w') : wpList Tryd.prog ops Q (o :: rest) a (w.alloc (.cells #[y] t')) := by
  refine own_append_lit hgd s x _ ho Tryd.underlying71 infoBRow rfl (by decide) hs h hx rfl (fun u hu => by simp at hu; subst hu; exact hy) (by omega) (by unfold maxLen; omega) (by omega) ?_
  intro g cap w' ho
  refine hK g cap w' ?_
  unfold eBRows
  simpa using ho
/-- A table that is owned: the value of its rows' row; all rows done but what es has. -/
def OwnT (w0 w : World) (N : Nat) (tv : Value) (rs : List Br) (es : List Ent) : Prop := Own w0 w (eBRows tv (rs.map (brV N)) :: es) (eEachB N rs) ∧ ∀ r ∈ rs, r.2.length = N
theorem ownT_form {w0 w : World} {N : Nat} {tv : Value} {rs : List Br} {es : List Ent} (h : OwnT w0 w N tv rs es) : ∃ A cap, tv = .slice A rs.length cap := by
  obtain ⟨A, cap, hv, _⟩ := h.1.form List.mem_cons_self
  simp only [eBRows, List.length_map] at hv
  exact ⟨A, cap, hv⟩
theorem ownT_row {w0 w : World} {N cap : Nat} {A : Option Addr} {rs : List Br} {es : List Ent} (h : OwnT w0 w N (.slice A rs.length cap) rs es) {k : Nat} {r : Br} (hk : rs[k]? = some r) : ∃ ad, A = some ad ∧ ad.block < w.heap.size ∧ w.cell? (ad.add k) = some (brV N r) := by
  have hm : (⟨27, 1, .slice A rs.length cap, rs.length, rs.map (brV N)⟩ : Ent) ∈ (eBRows (.slice A rs.length cap) (rs.map (brV N)) :: es) ++ eEachB N rs := by
    have : eBRows (.slice A rs.length cap) (rs.map (brV N)) = ⟨27, 1, .slice A rs.length cap, rs.length, rs.map (brV N)⟩ := by unfold eBRows; rw [List.length_map]
    rw [this]; simp
  exact h.1.cells hm k (brV N r) (by rw [List.getElem?_map, hk]; rfl)
theorem ownT_at {w0 w : World} {N : Nat} {tv : Value} {rs : List Br} {es : List Ent} (h : OwnT w0 w N tv rs es) {k : Nat} {r : Br} (hk : rs[k]? = some r) {j : Nat} {b : Bool} (hj : r.2[j]? = some b) : r.1 < w.heap.size ∧ w.cell? ⟨r.1, j, none⟩ = some (.bool b) := by
  have hr := List.mem_of_getElem? hk
  have hm : eBools (brV N r) r.2 ∈ (eBRows tv (rs.map (brV N)) :: es) ++ eEachB N rs := List.mem_append_right _ (List.mem_map.2 ⟨r, hr, rfl⟩)
  refine ⟨?_, (own_bools_cell (g := r.1) (n := N) (cap := N) (l := r.2) h.1 hm (h.2 r hr) hj).1⟩
  have hm2 : (⟨4, 1, .slice (some ⟨r.1, 0, none⟩) N N, N, r.2.map Value.bool⟩ : Ent) ∈ (eBRows tv (rs.map (brV N)) :: es) ++ eEachB N rs := by
    have : eBools (brV N r) r.2 = ⟨4, 1, .slice (some ⟨r.1, 0, none⟩) N N, N, r.2.map Value.bool⟩ := by unfold eBools brV; rw [h.2 r hr]
    rwa [this] at hm
  exact (h.1.lt hm2).2
/-- What reads as a table of bools. -/
def TabAt (w : World) (A : Option Addr) (N : Nat) (rs : List Br) : Prop :=
  ∀ k r, rs[k]? = some r → r.2.length = N ∧ (∃ ad, A = some ad ∧ ad.block < w.heap.size ∧ w.cell? (ad.add k) = some (brV N r)) ∧ r.1 < w.heap.size ∧ ∀ j b, r.2[j]? = some b → w.cell? ⟨r.1, j, none⟩ = some (.bool b)
theorem ownT_tab {w0 w : World} {N cap : Nat} {A : Option Addr} {rs : List Br} {es : List Ent} (hN : 0 < N) (h : OwnT w0 w N (.slice A rs.length cap) rs es) : TabAt w A N rs := fun k r hk => by
  have hl := h.2 r (List.mem_of_getElem? hk)
  obtain ⟨b, hb⟩ : ∃ b, r.2[0]? = some b := ⟨_, List.getElem?_eq_getElem (by omega)⟩
  exact ⟨hl, ownT_row h hk, (ownT_at h hk hb).1, fun j b hj => (ownT_at h hk hj).2⟩
theorem TabAt.on {w w' : World} {A : Option Addr} {N : Nat} {rs : List Br} (h : TabAt w A N rs) (hb : Below w.heap.size w w') : TabAt w' A N rs := fun k r hk => by
  obtain ⟨h1, ⟨ad, e, h2, h3⟩, h4, h5⟩ := h k r hk
  exact ⟨h1, ⟨ad, e, Nat.lt_of_lt_of_le h2 hb.size, (hb.cell (p := ad.add k) (by rw [Wd.block_add]; exact h2)).trans h3⟩, Nat.lt_of_lt_of_le h4 hb.size, fun j b hj => (hb.cell (p := ⟨r.1, j, none⟩) h4).trans (h5 j b hj)⟩
/-- A row of a function. -/
def bF (n : Nat) (f : Nat → Bool) : List Bool := (List.range n).map f
theorem bF_length (n : Nat) (f : Nat → Bool) : (bF n f).length = n := by simp [bF]
theorem bF_get {n i : Nat} (f : Nat → Bool) (h : i < n) : (bF n f)[i]? = some (f i) := by unfold bF; rw [List.getElem?_map, List.getElem?_range h]; rfl
theorem bF_congr {n : Nat} {f g : Nat → Bool} (h : ∀ t, t < n → f t = g t) : bF n f = bF n g := List.map_congr_left fun t ht => h t (List.mem_range.1 ht)
theorem bF_set (n : Nat) (f : Nat → Bool) (i : Nat) (x : Bool) : (bF n f).set i x = bF n (fun t => if t = i then x else f t) := by
  refine List.ext_getElem? fun k => ?_
  rw [List.getElem?_set, bF_length]
  by_cases hk : k < n
  · rw [bF_get _ hk, bF_get _ hk]
    by_cases e : i = k
    · subst e; simp [hk]
    · rw [if_neg e, if_neg (fun q => e q.symm)]
  · rw [List.getElem?_eq_none (by rw [bF_length]; omega), List.getElem?_eq_none (by rw [bF_length]; omega)]
    split
    · rw [if_neg (by omega)]
    · rfl
theorem bF_false (n : Nat) : bF n (fun _ => false) = List.replicate n false := by
  unfold bF; rw [List.map_const']; simp
end Go.Proofs.YtlhhhdgkdbplmaaDoor.Rc
