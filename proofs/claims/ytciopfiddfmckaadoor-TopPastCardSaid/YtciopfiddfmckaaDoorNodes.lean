/- Rows of nodes in memory: what reads as one, what a call owns, and what came in. -/
import Derived.Test.YtciopfiddfmckaaDoorFormM
import Derived.Test.YtciopfiddfmckaaDoorOwn
import Derived.Deep.Strs
import Derived.Deep.Slices
namespace Go.Proofs.YtciopfiddfmckaaDoor.Fm
open Go.RowKit Go.IntWalk Go.Proofs.YtciopfiddfmckaaDoor.Wd Go.ChangeShapes Go.WideShapes

theorem bel_alloc (w : World) (o : Obj) : Below w.heap.size w (w.alloc o) := (Below.refl _ _).alloc (Nat.le_refl _) o
theorem box_at (w : World) (cs : Array Value) (t : TypeId) (j : Nat) : (w.alloc (.cells cs t)).cell? ⟨w.heap.size, j, none⟩ = cs[j]? := cell_of_row _ _ j cs t _ (heap_alloc_new w _)
def ncells (l : List Nd) : List Value := l.flatMap fun m => [i64 m.1, i64 m.2.1, i64 m.2.2]
theorem ncells_append (l m : List Nd) : ncells (l ++ m) = ncells l ++ ncells m := List.flatMap_append
theorem ncells_at : ∀ (l : List Nd) (k : Nat) (u : Value), (ncells l)[k]? = some u → ∃ i m, l[i]? = some m ∧ ((k = i * 3 ∧ u = i64 m.1) ∨ (k = i * 3 + 1 ∧ u = i64 m.2.1) ∨ (k = i * 3 + 2 ∧ u = i64 m.2.2))
  | [], k, u, h => by simp [ncells] at h
  | q :: l, k, u, h => by
    have e : ncells (q :: l) = i64 q.1 :: i64 q.2.1 :: i64 q.2.2 :: ncells l := rfl
    rw [e] at h
    match k, h with
    | 0, h => exact ⟨0, q, rfl, .inl ⟨rfl, by simpa using h.symm⟩⟩
    | 1, h => exact ⟨0, q, rfl, .inr (.inl ⟨rfl, by simpa using h.symm⟩)⟩
    | 2, h => exact ⟨0, q, rfl, .inr (.inr ⟨rfl, by simpa using h.symm⟩)⟩
    | k + 3, h =>
      obtain ⟨i, m, h1, h2⟩ := ncells_at l k u (by simpa using h)
      refine ⟨i + 1, m, by simpa using h1, ?_⟩
      rcases h2 with ⟨h2, h3⟩ | ⟨h2, h3⟩ | ⟨h2, h3⟩
      · exact .inl ⟨by omega, h3⟩
      · exact .inr (.inl ⟨by omega, h3⟩)
      · exact .inr (.inr ⟨by omega, h3⟩)
theorem ncells_get : ∀ (l : List Nd) (k : Nat) (p : Nd), l[k]? = some p → (ncells l)[k * 3]? = some (i64 p.1) ∧ (ncells l)[k * 3 + 1]? = some (i64 p.2.1) ∧ (ncells l)[k * 3 + 2]? = some (i64 p.2.2)
  | [], k, p, h => by simp at h
  | q :: l, 0, p, h => by
    simp only [List.getElem?_cons_zero, Option.some.injEq] at h
    subst h
    exact ⟨rfl, rfl, rfl⟩
  | q :: l, k + 1, p, h => by
    rw [List.getElem?_cons_succ] at h
    have := ncells_get l k p h
    have e : ncells (q :: l) = i64 q.1 :: i64 q.2.1 :: i64 q.2.2 :: ncells l := rfl
    rw [e, show (k + 1) * 3 = k * 3 + 1 + 1 + 1 by omega]
    simpa using this
def Sml (x : Int) : Prop := -9223372036854775808 ≤ x ∧ x ≤ 9223372036854775807
def NdSmall (m : Nd) : Prop := Sml m.1 ∧ Sml m.2.1 ∧ Sml m.2.2
theorem good_small {L : Int} {i : Nat} {n : Nd} (h6 : L ≤ 6) (hi : i ≤ 1000) (g : NdGood L i n) : NdSmall n := by
  have hp : (2 : Int) ^ L.toNat ≤ 64 := by
    have h : (2 : Nat) ^ L.toNat ≤ 2 ^ 6 := Nat.pow_le_pow_right (by decide) (by omega)
    have h2 : ((2 ^ L.toNat : Nat) : Int) ≤ ((2 ^ 6 : Nat) : Int) := by exact_mod_cast h
    simpa using h2
  have h1 := g.k0; have h2 := g.k9
  refine ⟨⟨by omega, by omega⟩, ?_, ?_⟩
  · by_cases hk : n.1 = 2
    · have := g.set hk; exact ⟨by omega, by omega⟩
    · by_cases ho : 1 ≤ ops n.1
      · have := g.a1 ho; exact ⟨by omega, by omega⟩
      · have := g.a0 hk (by rcases ops_range n.1 with h | h | h <;> omega); exact ⟨by omega, by omega⟩
  · by_cases ho : ops n.1 = 2
    · have := g.b2 ho; exact ⟨by omega, by omega⟩
    · have := g.b0 ho; exact ⟨by omega, by omega⟩
/-- Rows of nodes. -/
def NodesAt (w : World) (B : Nat) (A : Option Addr) (l : List Nd) : Prop := Cells w B A (ncells l) ∧ ∀ m ∈ l, NdSmall m
theorem NodesAt.nil (w : World) (B : Nat) (A : Option Addr) : NodesAt w B A [] := ⟨Cells.nil _ _ _, by simp⟩
theorem NodesAt.on {w w' : World} {A : Option Addr} {l : List Nd} (h : NodesAt w w.heap.size A l) (hb : Below w.heap.size w w') : NodesAt w' w'.heap.size A l := ⟨(Cells.below h.1 hb).more hb.size, h.2⟩
theorem NodesAt.at_ {w : World} {B : Nat} {A : Option Addr} {l : List Nd} (h : NodesAt w B A l) {k : Nat} {p : Nd} (hk : l[k]? = some p) :
    ∃ ad, A = some ad ∧ ad.block < B ∧ w.cell? (ad.add (k * 3)) = some (.int .i64 p.1) ∧ w.cell? ⟨(ad.add (k * 3)).block, (ad.add (k * 3)).off + 1, none⟩ = some (.int .i64 p.2.1) ∧ w.cell? ⟨(ad.add (k * 3)).block, (ad.add (k * 3)).off + 2, none⟩ = some (.int .i64 p.2.2) := by
  obtain ⟨h1, h2, h3⟩ := ncells_get l k p hk
  obtain ⟨ad, e, h4, h5⟩ := h.1 _ _ h1
  obtain ⟨ad2, e2, _, h6⟩ := h.1 _ _ h2
  obtain ⟨ad3, e3, _, h7⟩ := h.1 _ _ h3
  obtain rfl := Option.some.inj (e.symm.trans e2)
  obtain rfl := Option.some.inj (e.symm.trans e3)
  refine ⟨ad, e, h4, h5, ?_, ?_⟩
  · rw [← Addr.add_succ' (ad.add (k * 3)) 0, Addr.add_add]; exact h6
  · rw [← Addr.add_succ' (ad.add (k * 3)) 1, Addr.add_add]; exact h7
theorem NodesAt.small {w : World} {B : Nat} {A : Option Addr} {l : List Nd} (h : NodesAt w B A l) {k : Nat} {p : Nd} (hk : l[k]? = some p) : NdSmall p := h.2 p (List.mem_of_getElem? hk)

/-! ### what a call owns -/
def eNodes (v : Value) (l : List Nd) : Ent := ⟨51, 3, v, l.length, ncells l⟩
theorem infoNode : (Tryd.prog.info? 51).map (fun i => (i.zero, i.size, i.bytes)) = some (some (.agg #[.int .i64 0, .int .i64 0, .int .i64 0]), 3, 24) := by kernel_rfl
theorem own_nodes {w0 w : World} {es fs : List Ent} (h : Own w0 w es fs) {v : Value} {l : List Nd} (he : eNodes v l ∈ es ++ fs) (hs : ∀ m ∈ l, NdSmall m) :
    ∃ A cap, v = .slice A l.length cap ∧ l.length ≤ cap ∧ cap ≤ 9223372036854775807 ∧ NodesAt w w.heap.size A l := by
  obtain ⟨A, cap, hv, h1, h2, _⟩ := h.form he
  simp only [eNodes] at hv h1
  subst hv
  unfold maxLen at h2
  exact ⟨A, cap, rfl, h1, h2, h.cells he, hs⟩
/-- 'append(l, n)' of one node. -/
theorem own_node {w0 w : World} {ops : Array Oper} {rest : List Oper} {o : Oper} {a : Act} {Q : Exit → Act → World → Prop} (hgd : o.guard = none) (s x : Operand)
    (ho : o.op = .call { callee := .builtin .append, args := #[s, x], argTypes := #[48, 48] })
    {v : Value} {l : List Nd} {es fs : List Ent} (hs : a.eval s = v) (h : Own w0 w (eNodes v l :: es) fs) {m : Nd} {t' : TypeId} (hx : a.eval x = .slice (some ⟨w.heap.size, 0, none⟩) 1 1) (hb : l.length < 1099511627776)
    (hK : ∀ g cap w', Own w0 w' (eNodes (.slice (some ⟨g, 0, none⟩) (l.length + 1) cap) (l ++ [m]) :: es) fs → wpList Tryd.prog ops Q rest (a.put o.dst (.slice (some ⟨g, 0, none⟩) (l.length + 1) cap)) w') :
    wpList Tryd.prog ops Q (o :: rest) a (w.alloc (.cells #[.int .i64 m.1, .int .i64 m.2.1, .int .i64 m.2.2] t')) := by
  refine own_append_lit hgd s x _ ho Tryd.underlying48 infoNode rfl (by decide) hs h hx rfl (fun u hu => by simp at hu; rcases hu with rfl | rfl | rfl <;> rfl) (by omega) (by unfold maxLen; omega) (by omega) ?_
  intro g cap w' ho
  refine hK g cap w' ?_
  unfold eNodes
  rw [ncells_append]
  simpa [ncells, i64] using ho
/-! ### what came in -/
set_option maxRecDepth 100000 in
theorem open_nodes {H : Type} {enc : TypeId × Value → H} {w : World} {base : Nat} {spare : Nat → Bool} {held : Bool} {fuel : Nat} {cs : List Value} {x : DataW H × List MemPlace} (h : DataW.trod enc Tryd.prog w base spare held fuel 48 cs = some x) :
    ∃ (A : Option Addr) (c : Nat) (l : List Nd), cs = [.slice A l.length c] ∧ l.length ≤ c ∧ c ≤ 9223372036854775807 ∧ NodesAt w w.heap.size A l ∧ (l.length = 0 ∨ ∃ es sp, x.1 = .slice es sp ∧ es.length = l.length) := by
  rcases Go.Deep.open_slice Tryd.underlying48 h with ⟨hcs, _⟩ | ⟨a, len, cap, m, n, D, Pl, hcs, _, hl, hm, hmm, hxd, hx⟩
  · exact ⟨none, 0, [], by simpa using hcs, by simp, by omega, NodesAt.nil _ _ _, .inl rfl⟩
  · unfold maxLen at hm
    have hlm : len ≤ m := by rw [hmm]; split <;> omega
    have each : ∀ i, i < len → ∃ q : Nd, NdSmall q ∧ w.cell? (a.add (i * 3)) = some (i64 q.1) ∧ w.cell? (a.add (i * 3 + 1)) = some (i64 q.2.1) ∧ w.cell? (a.add (i * 3 + 2)) = some (i64 q.2.2) := by
      intro i hi
      obtain ⟨cs', h1, h2⟩ := hx i (by omega)
      rw [show Tryd.prog.cellsOf 51 = 3 by kernel_rfl] at h1
      obtain ⟨_, hlen, hcell⟩ := World.cells?_some h1
      obtain ⟨y0, y1, y2, k, _, hl3, t0, t1, t2⟩ := Go.Deep.trod_struct3 Tryd.underlying51 h2
      match cs', hlen with
      | [v0, v1, v2], _ =>
        have one : Tryd.prog.cellsOf 3 = 1 := by kernel_rfl
        rw [one] at t0 t1 t2
        have e0 := hcell 0 (by omega)
        have e1 := hcell 1 (by omega)
        have e2 := hcell 2 (by omega)
        rw [Addr.add_add] at e0 e1 e2
        obtain ⟨x0, c0, _, w0⟩ := DataW.trod_int Tryd.underlying3 t0
        obtain ⟨x1, c1, _, w1⟩ := DataW.trod_int Tryd.underlying3 t1
        obtain ⟨x2, c2, _, w2⟩ := DataW.trod_int Tryd.underlying3 t2
        obtain rfl : v0 = .int .i64 x0 := by simpa using c0
        obtain rfl : v1 = .int .i64 x1 := by simpa using c1
        obtain rfl : v2 = .int .i64 x2 := by simpa using c2
        exact ⟨(x0, x1, x2), ⟨bounds_i64 w0, bounds_i64 w1, bounds_i64 w2⟩, by simpa [i64] using e0, by simpa [i64] using e1, by simpa [i64] using e2⟩
    obtain ⟨q, hq⟩ := Go.Deep.choose_lt each
    refine ⟨some a, cap, (List.range len).map q, by simpa using hcs, by simpa using hl, hm, ⟨?_, ?_⟩, .inr ⟨_, _, congrArg Prod.fst hxd, by simp⟩⟩
    · intro k u hk
      obtain ⟨i, mm, h1, h2⟩ := ncells_at _ k u hk
      have hi : i < len := by have := (List.getElem?_eq_some_iff.1 h1).1; simpa using this
      rw [List.getElem?_map, List.getElem?_range hi] at h1
      obtain rfl := Option.some.inj h1
      obtain ⟨_, g0, g1, g2⟩ := hq i hi
      have hlt := World.block_lt_of_cell? w _ g0
      rw [Wd.block_add] at hlt
      rcases h2 with ⟨rfl, rfl⟩ | ⟨rfl, rfl⟩ | ⟨rfl, rfl⟩
      · exact ⟨a, rfl, hlt, g0⟩
      · exact ⟨a, rfl, hlt, g1⟩
      · exact ⟨a, rfl, hlt, g2⟩
    · intro mm hmm
      obtain ⟨i, hi, rfl⟩ := List.mem_map.1 hmm
      exact (hq i (List.mem_range.1 hi)).1
end Go.Proofs.YtciopfiddfmckaaDoor.Fm
