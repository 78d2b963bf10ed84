/- The walks of the document's answer for values: Table, At. -/
import Derived.Test.YtdkbdoogjehkfaaDoorRefUntl
import Derived.Test.YtdkbdoogjehkfaaDoorMeanW
import Derived.Test.YtdkbdoogjehkfaaDoorRefWord
import Derived.StillTailTactics
import Derived.Deep.QuietTactic
import Derived.BigQuiet
namespace Go.Proofs.YtdkbdoogjehkfaaDoor.Fm
open Go.RowKit Go.IntWalk Go.Proofs.YtdkbdoogjehkfaaDoor.Wd Go.Proofs.YtdkbdoogjehkfaaDoor.Wo

/-- A node's value at a place, out of those of the nodes ahead of it. -/
def tabN (n : Nd) (z : List Int) (M : Nat → Nat → Bool) (p : Nat) : Bool :=
  if n.1 = 0 then true
  else if n.1 = 2 then decide (p < z.length) && n.2.1.toNat.testBit (z.getD p 0).toNat
  else if n.1 = 3 then !M n.2.1.toNat p
  else if n.1 = 4 then M n.2.1.toNat p && M n.2.2.toNat p
  else if n.1 = 5 then M n.2.1.toNat p || M n.2.2.toNat p
  else if n.1 = 6 then decide (p < z.length) && M n.2.1.toNat (p + 1)
  else if n.1 = 7 then decide (z.length ≤ p) || M n.2.1.toNat (p + 1)
  else if n.1 = 8 then untl (M n.2.1.toNat) (M n.2.2.toNat) true (z.length - p) p
  else if n.1 = 9 then !untl (M n.2.1.toNat) (M n.2.2.toNat) false (z.length - p) p
  else false
theorem vat_tab {L : Int} {f : List Nd} (hg : ∀ j n, f[j]? = some n → NdGood L j n) {k : Nat} {n : Nd} (hn : f[k]? = some n) (z : List Int) (p : Nat) : vat f z k p = tabN n z (vat f z) p := by
  have gd := hg k n hn
  have ht := tre_get hg hn
  have h0 := gd.k0
  have h9 := gd.k9
  obtain ⟨kd, x, y⟩ := n
  simp only at h0 h9
  have : kd = 0 ∨ kd = 1 ∨ kd = 2 ∨ kd = 3 ∨ kd = 4 ∨ kd = 5 ∨ kd = 6 ∨ kd = 7 ∨ kd = 8 ∨ kd = 9 := by omega
  show val1 z (tre f k) p = _
  rw [ht]
  rcases this with rfl | rfl | rfl | rfl | rfl | rfl | rfl | rfl | rfl | rfl <;> rfl
theorem mid_skip {l : List Bool} {k : Nat} (h : l[k]? = some false) : mid l k = mid l (k + 1) := by
  have hk := (List.getElem?_eq_some_iff.1 h).1
  rw [← mid_set h]
  refine List.ext_getElem? fun i => ?_
  rw [List.getElem?_set]
  by_cases e : k = i
  · subst e
    rw [if_pos rfl, if_pos (by rw [mid_length (by omega)]; exact hk), mid_at hk]
  · rw [if_neg e]

/-! ### a table under way -/
/-- The rows that are done, the one that is written to, the node's own block. -/
def TI (w0 wi : World) (N : Nat) (tv : Value) (rs : List Rc.Br) (gw gb : Nat) (nd : Nd) (V : List Bool) (p : Nat) : Prop :=
  Rc.OwnT w0 wi N tv rs [eBools (.slice (some ⟨gw, 0, none⟩) N N) (mid V p), eNodes (.slice (some ⟨gb, 0, none⟩) 1 1) [nd]]
theorem ti_on {w0 wi wj : World} {N : Nat} {tv : Value} {rs : List Rc.Br} {gw gb : Nat} {nd : Nd} {V : List Bool} {p : Nat} (h : TI w0 wi N tv rs gw gb nd V p) (hb : Below wi.heap.size wi wj) : TI w0 wj N tv rs gw gb nd V p := ⟨h.1.on hb, h.2⟩
theorem ti_start {w0 wr w4 : World} {N : Nat} {tv : Value} {rs : List Rc.Br} {gw : Nat} {x y z : Int} {V : List Bool} (h : Rc.OwnT w0 wr N tv rs []) (hV : V.length = N)
    (ho : Own (wr.alloc (.cells #[.int .i64 x, .int .i64 y, .int .i64 z] 57)) w4 [eBools (.slice (some ⟨gw, 0, none⟩) N N) (List.replicate N false)] []) : TI w0 w4 N tv rs gw wr.heap.size (x, y, z) V 0 := by
  have h1 := h.1.lit 57 3 1 #[.int .i64 x, .int .i64 y, .int .i64 z] rfl (by simp [maxLen])
  have h2 := h1.join ho
  refine ⟨?_, h.2⟩
  rw [mid_zero, hV]
  exact h2.three
theorem ti_cell {w0 wi : World} {N : Nat} {tv : Value} {rs : List Rc.Br} {gw gb : Nat} {nd : Nd} {V : List Bool} {p : Nat} (h : TI w0 wi N tv rs gw gb nd V p) (hV : V.length = N) (hp : p < N) : wi.cell? ⟨gw, p, none⟩ = some (.bool false) ∧ wi.frozen? ⟨gw, p, none⟩ = false :=
  Rc.own_bools_cell (g := gw) (n := N) (cap := N) (l := mid V p) h.1 (by simp) (by rw [mid_length (by omega), hV]) (mid_at (by omega))
theorem ti_set {w0 wi : World} {N : Nat} {tv : Value} {rs : List Rc.Br} {gw gb : Nat} {nd : Nd} {V : List Bool} {p : Nat} {b : Bool} (h : TI w0 wi N tv rs gw gb nd V p) (hV : V.length = N) (hb : V[p]? = some b) : TI w0 (wi.setCell ⟨gw, p, none⟩ (.bool b)) N tv rs gw gb nd V (p + 1) := by
  have hp := (List.getElem?_eq_some_iff.1 hb).1
  have h1 := Rc.own_bools_set (g := gw) (n := N) (cap := N) (l := mid V p) h.1.two (by rw [mid_length (by omega), hV]) p b
  rw [mid_set hb] at h1
  exact ⟨h1.two, h.2⟩
theorem ti_box {w0 wi : World} {N : Nat} {tv : Value} {rs : List Rc.Br} {gw gb : Nat} {x y z : Int} {V : List Bool} {p : Nat} (h : TI w0 wi N tv rs gw gb (x, y, z) V p) : gb < wi.heap.size ∧ wi.cell? ⟨gb, 0, none⟩ = some (.int .i64 x) ∧ wi.cell? ⟨gb, 1, none⟩ = some (.int .i64 y) ∧ wi.cell? ⟨gb, 2, none⟩ = some (.int .i64 z) := by
  have hm : (⟨57, 3, .slice (some ⟨gb, 0, none⟩) 1 1, 1, ncells [(x, y, z)]⟩ : Ent) ∈ [Rc.eBRows tv (rs.map (Rc.brV N)), eBools (.slice (some ⟨gw, 0, none⟩) N N) (mid V p), eNodes (.slice (some ⟨gb, 0, none⟩) 1 1) [(x, y, z)]] ++ Rc.eEachB N rs := by
    simp [eNodes]
  exact ⟨(h.1.lt hm).2, (h.1.cell hm (j := 0) rfl).1, (h.1.cell hm (j := 1) rfl).1, (h.1.cell hm (j := 2) rfl).1⟩
theorem ti_child {w0 wi : World} {N k cap : Nat} {A : Option Addr} {rs : List Rc.Br} {gw gb : Nat} {nd : Nd} {V : List Bool} {p : Nat} (h : TI w0 wi N (.slice A k cap) rs gw gb nd V p) (hl : rs.length = k) {M : Nat → Nat → Bool} (hM : Rc.RowsM N rs M) (hN : 0 < N) {i : Nat} (hi : i < k) :
    ∃ ad g, A = some ad ∧ ad.block < wi.heap.size ∧ wi.cell? (ad.add i) = some (.slice (some ⟨g, 0, none⟩) N N) ∧ g < wi.heap.size ∧ (∀ q, q < N → wi.cell? ⟨g, q, none⟩ = some (.bool (M i q))) ∧ Df.BoolsAt wi wi.heap.size (some ⟨g, 0, none⟩) (Rc.bF N (M i)) := by
  subst hl
  have hT := Rc.ownT_tab hN h
  obtain ⟨r, hr⟩ : ∃ r, rs[i]? = some r := ⟨_, List.getElem?_eq_getElem hi⟩
  obtain ⟨_, ⟨ad, e, h2, h3⟩, h4, h5⟩ := hT i r hr
  have hrow := hM i r hr
  refine ⟨ad, r.1, e, h2, h3, h4, fun q hq => h5 q _ (by rw [hrow]; exact Rc.bF_get _ hq), ?_⟩
  intro j u hj
  rw [List.getElem?_map] at hj
  rcases hb : (Rc.bF N (M i))[j]? with _ | b
  · rw [hb] at hj; cases hj
  · rw [hb] at hj
    simp only [Option.map_some, Option.some.injEq] at hj
    subst hj
    refine ⟨_, rfl, h4, ?_⟩
    have e : ((⟨r.1, 0, none⟩ : Addr).add j) = ⟨r.1, j, none⟩ := by simp [Addr.add]; intro h; exact h.symm
    rw [e]
    exact h5 j b (by rw [hrow]; exact hb)
/-- The row is whole. -/
theorem ti_row {w0 wi : World} {N : Nat} {tv : Value} {rs : List Rc.Br} {gw gb : Nat} {nd : Nd} {V : List Bool} (h : TI w0 wi N tv rs gw gb nd V N) (hV : V.length = N) : Own w0 wi (Rc.eBRows tv (rs.map (Rc.brV N)) :: [eBools (.slice (some ⟨gw, 0, none⟩) N N) V]) (Rc.eEachB N rs) := by
  have h1 := h.1.three.tail
  have e : mid V N = V := by subst hV; exact mid_all V
  rwa [e] at h1
theorem ownT_snoc {w0 w : World} {N : Nat} {v : Value} {rs : List Rc.Br} {g : Nat} {l : List Bool} (hl : l.length = N) (hr : ∀ r ∈ rs, r.2.length = N) (h : Own w0 w (Rc.eBRows v (rs.map (Rc.brV N) ++ [.slice (some ⟨g, 0, none⟩) N N]) :: [eBools (.slice (some ⟨g, 0, none⟩) N N) l]) (Rc.eEachB N rs)) : Rc.OwnT w0 w N v (rs ++ [(g, l)]) [] := by
  refine ⟨?_, fun r hm => ?_⟩
  · have h1 := h.two.fin
    rw [List.map_append]
    refine h1.weak fun e he => ?_
    rw [Rc.eEachB_snoc] at he
    rcases List.mem_append.1 he with he | he
    · exact List.mem_cons_of_mem _ he
    · simp at he; subst he; exact List.mem_cons_self
  · rcases List.mem_append.1 hm with hm | hm
    · exact hr r hm
    · simp at hm; subst hm; exact hl
/-- The rows done. -/
def TO (w0 wr : World) (N : Nat) (tv : Value) (k : Nat) (M : Nat → Nat → Bool) : Prop := ∃ rs, Rc.OwnT w0 wr N tv rs [] ∧ rs.length = k ∧ Rc.RowsM N rs M
theorem rowsM_snoc' {N : Nat} {rs : List Rc.Br} {M : Nat → Nat → Bool} (h : Rc.RowsM N rs M) (g : Nat) {k : Nat} (hk : rs.length = k) {V : List Bool} (hV : V = Rc.bF N (M k)) : Rc.RowsM N (rs ++ [(g, V)]) M := by subst hV; exact Rc.rowsM_snoc h g hk
end Go.Proofs.YtdkbdoogjehkfaaDoor.Fm
