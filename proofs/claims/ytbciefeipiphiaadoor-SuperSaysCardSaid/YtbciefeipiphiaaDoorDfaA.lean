/- Automata in memory: what reads as one, what came in, and what a call has made of rows of its own. -/
import Derived.Test.YtbciefeipiphiaaDoorProg
import Derived.Test.YtbciefeipiphiaaDoorOwn
import Derived.Test.YtbciefeipiphiaaDoorBoolT
import Derived.Test.YtbciefeipiphiaaDoorDfaM
import Derived.Deep.Matrix
import Derived.Deep.Grids
import Derived.Lib.SmallJoins
namespace Go.Proofs.YtbciefeipiphiaaDoor.Wd
open Go.RowKit
/-! ### a struct of an automaton in a block of its own -/
def eDfa (g : Nat) (l : List Value) : Ent := ⟨25, 4, .slice (some ⟨g, 0, none⟩) 1 1, 1, l⟩
theorem Own.dfa {w0 w : World} {es fs : List Ent} (h : Own w0 w es fs) (a b c d : Value) : Own w0 (w.alloc (.cells #[a, b, c, d] 25)) (eDfa w.heap.size [a, b, c, d] :: es) fs :=
  h.lit _ 4 1 #[a, b, c, d] rfl (by simp [maxLen])
theorem Own.dcell {w0 w : World} {es fs : List Ent} (h : Own w0 w es fs) {g : Nat} {l : List Value} (he : eDfa g l ∈ es ++ fs) {j : Nat} {u : Value} (hj : l[j]? = some u) : w.cell? ⟨g, j, none⟩ = some u ∧ w.frozen? ⟨g, j, none⟩ = false := h.cell he hj
theorem Own.dset {w0 w : World} {es fs : List Ent} {g : Nat} {l : List Value} (h : Own w0 w (eDfa g l :: es) fs) (j : Nat) (u : Value) : Own w0 (w.setCell ⟨g, j, none⟩ u) (eDfa g (l.set j u) :: es) fs := h.set j u

end Go.Proofs.YtbciefeipiphiaaDoor.Wd
namespace Go.Proofs.YtbciefeipiphiaaDoor.Df
open Go.RowKit Go.IntWalk Go.Proofs.YtbciefeipiphiaaDoor.Wd Go.ChangeShapes Go.WideShapes
/-- Rows of ints. -/
def RowsAt (w : World) (B : Nat) (A : Option Addr) (rows : List (List Int)) : Prop :=
  ∀ k r, rows[k]? = some r → ∃ ad A' c', A = some ad ∧ ad.block < B ∧ w.cell? (ad.add k) = some (.slice A' r.length c') ∧ r.length ≤ c' ∧ c' ≤ 9223372036854775807 ∧ IntsAt w B A' r
theorem RowsAt.nil (w : World) (B : Nat) (A : Option Addr) : RowsAt w B A [] := fun k r h => by simp at h
theorem RowsAt.below {w w' : World} {B : Nat} {A : Option Addr} {rows : List (List Int)} (h : RowsAt w B A rows) (hb : Below B w w') : RowsAt w' B A rows := fun k r hk => by
  obtain ⟨ad, A', c', e, h1, h2, h3, h4, h5⟩ := h k r hk
  exact ⟨ad, A', c', e, h1, (hb.cell (by rw [Wd.block_add]; exact h1)).trans h2, h3, h4, h5.below hb⟩
theorem RowsAt.more {w : World} {B B' : Nat} {A : Option Addr} {rows : List (List Int)} (h : RowsAt w B A rows) (hB : B ≤ B') : RowsAt w B' A rows := fun k r hk => by
  obtain ⟨ad, A', c', e, h1, h2, h3, h4, h5⟩ := h k r hk
  exact ⟨ad, A', c', e, by omega, h2, h3, h4, h5.more hB⟩
theorem RowsAt.on {w w' : World} {A : Option Addr} {rows : List (List Int)} (h : RowsAt w w.heap.size A rows) (hb : Below w.heap.size w w') : RowsAt w' w'.heap.size A rows := (h.below hb).more hb.size
/-- A function that returns an automaton out of its own block, and an error. -/
theorem results_dfa {fn : Func} {t m : Tmp} (h : fn.results = #[.cell t 25, .tmp m]) (tmps : Array Value) {w : World} {g : Nat} {v0 v1 v2 v3 : Value} (hp : tmps.getD t undef = .pointer (some ⟨g, 0, none⟩))
    (c0 : w.cell? ⟨g, 0, none⟩ = some v0) (c1 : w.cell? ⟨g, 1, none⟩ = some v1) (c2 : w.cell? ⟨g, 2, none⟩ = some v2) (c3 : w.cell? ⟨g, 3, none⟩ = some v3) :
    (results fn tmps).run Tryd.prog w = .ok (.tuple #[.agg #[v0, v1, v2, v3], tmps.getD m undef]) w := by
  have hp' : tmps[t]?.getD undef = .pointer (some ⟨g, 0, none⟩) := by simpa using hp
  simp [results, h, hp', go_sem, c0, c1, c2, c3]
/-- A value that reads as an automaton. -/
structure DfaIs (w : World) (B : Nat) (L s : Int) (A : Option Addr) (c : Nat) (F : Option Addr) (cf : Nat) (d : Aut) : Prop where
  eL : d.L = L
  es : d.s = s
  hL : Small L
  hs : Small s
  hc : d.next.length ≤ c
  hc2 : c ≤ 9223372036854775807
  hf : d.fin.length ≤ cf
  hf2 : cf ≤ 9223372036854775807
  rows : RowsAt w B A d.next
  fins : BoolsAt w B F d.fin
def DfaAt (w : World) (B : Nat) (v : Value) (d : Aut) : Prop :=
  ∃ L s A c F cf, v = .agg #[.int .i64 L, .int .i64 s, .slice A d.next.length c, .slice F d.fin.length cf] ∧ DfaIs w B L s A c F cf d
theorem DfaIs.on {w w' : World} {L s : Int} {A F : Option Addr} {c cf : Nat} {d : Aut} (h : DfaIs w w.heap.size L s A c F cf d) (hb : Below w.heap.size w w') : DfaIs w' w'.heap.size L s A c F cf d :=
  ⟨h.eL, h.es, h.hL, h.hs, h.hc, h.hc2, h.hf, h.hf2, h.rows.on hb, h.fins.on hb⟩
theorem DfaAt.on {w w' : World} {v : Value} {d : Aut} (h : DfaAt w w.heap.size v d) (hb : Below w.heap.size w w') : DfaAt w' w'.heap.size v d := by
  obtain ⟨L, s, A, c, F, cf, e, h1⟩ := h
  exact ⟨L, s, A, c, F, cf, e, h1.on hb⟩
/-! ### what came in -/
theorem rowsAt_of_open {w : World} {x : Addr} {len cap : Nat} {A : Nat → Option Addr} {L C : Nat → Nat} {Z : Nat → List Int} (hl : len ≤ cap)
    (h : ∀ r, r < cap → w.cell? (x.add r) = some (.slice (A r) (L r) (C r)) ∧ L r ≤ C r ∧ C r ≤ maxLen ∧ (Z r).length = C r ∧ (∀ n ∈ Z r, (Lit.int .i64 n).wf = true) ∧ (A r = none → C r = 0) ∧
        ∀ a', A r = some a' → 0 ≤ a'.block ∧ ∀ c, c < C r → w.cell? (a'.add c) = some (.int .i64 ((Z r).getD c 0))) :
    RowsAt w w.heap.size (some x) ((List.range len).map fun r => (Z r).take (L r)) := by
  intro k r hk
  have hlt : k < len := by have := (List.getElem?_eq_some_iff.1 hk).1; simpa using this
  rw [List.getElem?_map, List.getElem?_range hlt] at hk
  obtain rfl := Option.some.inj hk
  obtain ⟨h1, h2, h3, h4, h5, h6, h7⟩ := h k (by omega)
  have hlt2 := World.block_lt_of_cell? w _ h1
  rw [Wd.block_add] at hlt2
  have hlen : ((Z k).take (L k)).length = L k := by rw [List.length_take]; omega
  unfold maxLen at h3
  refine ⟨x, A k, C k, rfl, hlt2, by rw [hlen]; exact h1, by rw [hlen]; exact h2, h3, ?_⟩
  rcases hA : A k with _ | a'
  · have h0 := h6 hA
    have : (Z k).take (L k) = [] := List.eq_nil_of_length_eq_zero (by rw [hlen]; omega)
    show IntsAt _ _ none ((Z k).take (L k))
    rw [this]; exact IntsAt.nil _ _ _
  · exact intsAt_of_open (fun i hi => (h7 a' hA).2 i (by omega)) h5 (L k)
theorem boolsAt_of_open {w : World} {x : Addr} {len cap : Nat} {B : Nat → Bool} (hl : len ≤ cap) (h : ∀ i, i < cap → w.cell? (x.add i) = some (.bool (B i))) :
    BoolsAt w w.heap.size (some x) ((List.range len).map B) := by
  intro k u hk
  have hlt : k < len := by have := (List.getElem?_eq_some_iff.1 hk).1; simpa using this
  rw [List.getElem?_map, List.getElem?_map, List.getElem?_range hlt] at hk
  obtain rfl := Option.some.inj hk
  have h1 := h k (by omega)
  have hlt2 := World.block_lt_of_cell? w _ h1
  rw [Wd.block_add] at hlt2
  exact ⟨x, rfl, hlt2, h1⟩
set_option maxRecDepth 100000 in
theorem dfa_open {H : Type} {enc : TypeId × Value → H} {w : World} {r : Reach} {b0 : Nat} {v : Value} {x : DataW H} {p : List MemPlace} (hv : Value.okWide Tryd.prog w r b0 25 v)
    (h : DataW.Trod enc Tryd.prog w 0 (fun _ => true) true 25 v x p) : ∃ d : Aut, DfaAt w w.heap.size v d := by
  obtain ⟨v0, v1, v2, v3, y0, y1, y2, y3, n, rfl, _, _, t0, t1, t2, t3⟩ := Go.Joins.open_agg4 Tryd.underlying25 (by kernel_rfl) (by kernel_rfl) hv h
  obtain ⟨L, e0, _, hw0⟩ := DataW.trod_int Tryd.underlying3 t0
  obtain ⟨s, e1, _, hw1⟩ := DataW.trod_int Tryd.underlying3 t1
  obtain rfl : v0 = .int .i64 L := by simpa using e0
  obtain rfl : v1 = .int .i64 s := by simpa using e1
  have hN : ∃ (A : Option Addr) (c : Nat) (rows : List (List Int)), v2 = .slice A rows.length c ∧ rows.length ≤ c ∧ c ≤ 9223372036854775807 ∧ RowsAt w w.heap.size A rows := by
    rcases Go.Deep.open_int_rows Tryd.underlying22 Tryd.underlying27 Tryd.underlying3 (by kernel_rfl) (by kernel_rfl) t2 with ⟨hcs, _⟩ | ⟨a, len, cap, A, L, C, Z, hcs, _, hl, hm, _, hx⟩
    · exact ⟨none, 0, [], by simpa using hcs, by simp, by omega, RowsAt.nil _ _ _⟩
    · unfold maxLen at hm
      exact ⟨some a, cap, _, by simpa using hcs, by simpa using hl, hm, rowsAt_of_open hl hx⟩
  have hF : ∃ (A : Option Addr) (c : Nat) (bs : List Bool), v3 = .slice A bs.length c ∧ bs.length ≤ c ∧ c ≤ 9223372036854775807 ∧ BoolsAt w w.heap.size A bs := by
    rcases Go.Deep.open_bools Tryd.underlying23 Tryd.underlying4 (by kernel_rfl) t3 with ⟨hcs, _⟩ | ⟨a, len, cap, B, hcs, _, hl, hm, _, hx⟩
    · exact ⟨none, 0, [], by simpa using hcs, by simp, by omega, BoolsAt.nil _ _ _⟩
    · unfold maxLen at hm
      exact ⟨some a, cap, _, by simpa using hcs, by simpa using hl, hm, boolsAt_of_open hl hx⟩
  obtain ⟨A, c, rows, rfl, k1, k2, k3⟩ := hN
  obtain ⟨F, cf, bs, rfl, q1, q2, q3⟩ := hF
  exact ⟨⟨L, s, rows, bs⟩, L, s, A, c, F, cf, rfl, rfl, rfl, bounds_i64 hw0, bounds_i64 hw1, k1, k2, q1, q2, k3, q3⟩

/-! ### what a call has made -/
/-- The rows of ints, each with its value. -/
def eEach (rs : List (Value × List Int)) : List Ent := rs.map fun p => eInts p.1 p.2
theorem own_rows {w0 w : World} {nv : Value} {rs : List (Value × List Int)} {es fs : List Ent} (h : Own w0 w es fs) (hr : eRows nv (rs.map (·.1)) ∈ es ++ fs) (hi : ∀ e ∈ eEach rs, e ∈ es ++ fs) (hs : ∀ p ∈ rs, ∀ x ∈ p.2, Small x) :
    ∃ A cap, nv = .slice A rs.length cap ∧ rs.length ≤ cap ∧ cap ≤ 9223372036854775807 ∧ RowsAt w w.heap.size A (rs.map (·.2)) := by
  obtain ⟨A, cap, hv, h1, h2, _⟩ := h.form hr
  simp only [eRows, List.length_map] at hv h1
  subst hv
  unfold maxLen at h2
  refine ⟨A, cap, rfl, h1, h2, fun k r hk => ?_⟩
  rw [List.getElem?_map, Option.map_eq_some_iff] at hk
  obtain ⟨p, hp, rfl⟩ := hk
  have hm : p ∈ rs := List.mem_of_getElem? hp
  have hc := h.cells (t := 27) (sz := 1) (n := rs.length) (cap := cap) (A := A) (xs := rs.map (·.1)) (by unfold eRows at hr; rwa [List.length_map] at hr)
  obtain ⟨ad, e, h3, h4⟩ := hc k p.1 (by rw [List.getElem?_map, hp]; rfl)
  have hin : eInts p.1 p.2 ∈ es ++ fs := hi _ (List.mem_map.2 ⟨p, hm, rfl⟩)
  obtain ⟨A', c', hv', h5, h6, _⟩ := h.form hin
  unfold maxLen at h6
  simp only [eInts] at hv' h5 h6
  refine ⟨ad, A', c', e, h3, by rw [h4, hv'], h5, h6, ⟨?_, hs p hm⟩⟩
  exact h.cells (t := 3) (sz := 1) (n := p.2.length) (cap := c') (by rw [← hv']; exact hin)
theorem own_ints_at {w0 w : World} {v : Value} {l : List Int} {es fs : List Ent} (h : Own w0 w es fs) (hm : eInts v l ∈ es ++ fs) (hs : ∀ x ∈ l, Small x) :
    ∃ A cap, v = .slice A l.length cap ∧ l.length ≤ cap ∧ cap ≤ 9223372036854775807 ∧ IntsAt w w.heap.size A l := by
  obtain ⟨A, cap, hv, h1, h2, _⟩ := h.form hm
  simp only [eInts] at hv h1
  subst hv
  unfold maxLen at h2
  exact ⟨A, cap, rfl, h1, h2, h.cells hm, hs⟩
theorem own_dfa {w0 w : World} {nv fv : Value} {rs : List (Value × List Int)} {bs : List Bool} {es fs : List Ent} {L s : Int} (h : Own w0 w es fs) (hr : eRows nv (rs.map (·.1)) ∈ es ++ fs) (hi : ∀ e ∈ eEach rs, e ∈ es ++ fs) (hm : eBools fv bs ∈ es ++ fs)
    (hs : ∀ p ∈ rs, ∀ x ∈ p.2, Small x) (hL : Small L) (hS : Small s) : DfaAt w w.heap.size (.agg #[.int .i64 L, .int .i64 s, nv, fv]) ⟨L, s, rs.map (·.2), bs⟩ := by
  obtain ⟨A, c, rfl, h1, h2, h3⟩ := own_rows h hr hi hs
  obtain ⟨F, cf, rfl, k1, k2, k3⟩ := own_bools h hm
  exact ⟨L, s, A, c, F, cf, by simp, rfl, rfl, hL, hS, by simpa using h1, h2, k1, k2, h3, k3⟩
/-- An automaton that a call has made: in memory of its own. -/
def DfaOwn (w w' : World) (x : Value) (d : Aut) : Prop :=
  ∃ nv fv rs, x = .agg #[.int .i64 d.L, .int .i64 d.s, nv, fv] ∧ d.next = rs.map (·.2) ∧ Own w w' [] (eRows nv (rs.map (·.1)) :: eBools fv d.fin :: eEach rs) ∧ (∀ p ∈ rs, ∀ x ∈ p.2, Small x) ∧ Small d.L ∧ Small d.s
theorem DfaOwn.at_ {w w' : World} {x : Value} {d : Aut} (h : DfaOwn w w' x d) : DfaAt w' w'.heap.size x d := by
  obtain ⟨nv, fv, rs, rfl, h2, h3, h4, h5, h6⟩ := h
  have h7 := own_dfa (nv := nv) (fv := fv) (rs := rs) (bs := d.fin) (L := d.L) (s := d.s) h3 (by simp) (fun e he => by simp [he]) (by simp) h4 h5 h6
  rw [← h2] at h7
  exact h7
theorem DfaOwn.below {w w' : World} {x : Value} {d : Aut} (h : DfaOwn w w' x d) : Below w.heap.size w w' := by
  obtain ⟨_, _, _, _, _, h3, _⟩ := h
  exact h3.below
theorem DfaOwn.base {w w0 w' : World} {x : Value} {d : Aut} (h : DfaOwn w0 w' x d) (hb : Below w.heap.size w w0) : DfaOwn w w' x d := by
  obtain ⟨nv, fv, rs, h1, h2, h3, h4⟩ := h
  exact ⟨nv, fv, rs, h1, h2, h3.base hb, h4⟩
theorem DfaOwn.on {w w' w2 : World} {x : Value} {d : Aut} (h : DfaOwn w w' x d) (hb : Below w'.heap.size w' w2) : DfaOwn w w2 x d := by
  obtain ⟨nv, fv, rs, h1, h2, h3, h4⟩ := h
  exact ⟨nv, fv, rs, h1, h2, h3.on hb, h4⟩
theorem dfaOwn_zero {w w' : World} (hb : Below w.heap.size w w') : DfaOwn w w' (.agg #[.int .i64 0, .int .i64 0, .slice none 0 0, .slice none 0 0]) zeroA :=
  ⟨.slice none 0 0, .slice none 0 0, [], rfl, rfl, (((((own_start w).on hb).nil 4 1).nil 27 1).two.fin.fin), by simp, ⟨by decide, by decide⟩, ⟨by decide, by decide⟩⟩
end Go.Proofs.YtbciefeipiphiaaDoor.Df
