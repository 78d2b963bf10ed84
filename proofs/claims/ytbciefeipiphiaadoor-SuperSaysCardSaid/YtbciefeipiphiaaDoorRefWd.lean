/- What the walk of the document's within needs of memory: the rows under way, and the whole table while it is mended. -/
import Derived.Test.YtbciefeipiphiaaDoorRefPair
import Derived.Test.YtbciefeipiphiaaDoorRefTrim
import Derived.Test.YtbciefeipiphiaaDoorRefGo
import Derived.Test.YtbciefeipiphiaaDoorSuperX
namespace Go.Proofs.YtbciefeipiphiaaDoor.Su
open Go.RowKit Go.IntWalk Go.Proofs.YtbciefeipiphiaaDoor.Wd Go.Proofs.YtbciefeipiphiaaDoor.Wo Go.Proofs.YtbciefeipiphiaaDoor.Df Go.Proofs.YtbciefeipiphiaaDoor.Rc Go.Proofs.YtbciefeipiphiaaDoor.Sm

/-- Number i, which only reads, is taken first; its slot is told. -/
theorem wpZ_takeW {P : Program} {ops : Array Oper} {Q : Exit → Act → World → Prop} {md : Region.Mode} {S : World → Prop} {z : Nat} {i : Nat} {oi : Oper} (d : Option Tmp) {v : Value} {n : Nat} {listed : Array Bool} {a : Act} {w : World} (hi : ops[i]? = some oi) (hd : oi.dst = d) (hs : Region.noSelect ops = true) (hf : Region.free md ops listed i = true)
    (hr : (Region.ready md ops listed).contains i = true) (hz : waitsB md ops z i = true) (hQ : ∀ c a w, Q (.panic c) (a.put d v) w → Q (.panic c) a w) (hy : YieldsIf P ops S oi v a) (hS : S w)
    (h : wpZ P md ops Q S z n (listed.setIfInBounds i true) (a.put d v) w) : wpZ P md ops Q S z (n + 1) listed a w := by
  subst hd
  exact wpZ_take hi hs hf hr hz hQ hy hS h
/-- The state, midway. -/
def QX (w1 wr : World) (g gr : Nat) (P S : Aut) (X : PS) (n i : Nat) (xv yv : Value) : Prop :=
  ∃ l nv fv rs, Part (SX P S X) (start2 P S) i l ∧ FarR rs ∧ Build w1 wr g (eDfa gr zero4 :: eInts xv (fsts l) :: eInts yv (snds l) :: []) (n : Int) 0 ((l.take i).map (srowX P S X l)) ((l.take i).map (finW P S)) nv fv rs
/-- The same within a row. -/
def TX (w1 wi : World) (g gr : Nat) (P S : Aut) (X : PS) (k : Nat) (l : List Pr) (p : Pr) (n c : Nat) (nv fv : Value) (rs : List (Value × List Int)) (xv yv rv : Value) : Prop :=
  Own w1 wi [eInts xv (fsts (addAll l (SXc P S X p c))), eInts yv (snds (addAll l (SXc P S X p c))), eInts rv (rowX P S X l p c),
    eRows nv (rs.map (·.1)), eBools fv ((l.take k).map (finW P S)), eDfa g [.int .i64 (n : Int), .int .i64 0, nv, fv], eDfa gr zero4] (eEach rs)
/-- The whole table, still written to. -/
def TabI (w1 wr : World) (g gr : Nat) (n : Int) (nv fv : Value) (bs : List Bool) (rows : List (List Int)) (rs : List (Value × List Int)) : Prop :=
  rs.map (·.2) = rows ∧ Own w1 wr (eRows nv (rs.map (·.1)) :: eBools fv bs :: eDfa g [.int .i64 n, .int .i64 0, nv, fv] :: eDfa gr zero4 :: eEach rs) []
theorem tabI_of {w1 wr : World} {g gr : Nat} {n : Int} {nv fv : Value} {bs : List Bool} {rows : List (List Int)} {rs : List (Value × List Int)} (h : Build w1 wr g [eDfa gr zero4] n 0 rows bs nv fv rs) (hf : FarR rs) : TabI w1 wr g gr n nv fv bs rows rs :=
  ⟨h.1, own_all h.2 hf⟩
theorem TabI.build {w1 wr : World} {g gr : Nat} {n : Int} {nv fv : Value} {bs : List Bool} {rows : List (List Int)} {rs : List (Value × List Int)} (h : TabI w1 wr g gr n nv fv bs rows rs) : Build w1 wr g [eDfa gr zero4] n 0 rows bs nv fv rs :=
  ⟨h.1, own_cut (es := eRows nv (rs.map (·.1)) :: eBools fv bs :: eDfa g [.int .i64 n, .int .i64 0, nv, fv] :: [eDfa gr zero4]) h.2⟩
theorem TabI.len {w1 wr : World} {g gr : Nat} {n : Int} {nv fv : Value} {bs : List Bool} {rows : List (List Int)} {rs : List (Value × List Int)} (h : TabI w1 wr g gr n nv fv bs rows rs) : rs.length = rows.length := by rw [← h.1, List.length_map]
/-- A place of the table: its cells, and the table with another number there. -/
theorem TabI.at_ {w1 wr : World} {g gr N c : Nat} {n : Int} {A : Option Addr} {fv : Value} {bs : List Bool} {rows : List (List Int)} {rs : List (Value × List Int)} (h : TabI w1 wr g gr n (.slice A N c) fv bs rows rs) {i j : Nat} {r : List Int} {z : Int} (hi : rows[i]? = some r) (hj : r[j]? = some z) :
    ∃ ad gi cap, A = some ad ∧ wr.cell? (ad.add i) = some (.slice (some ⟨gi, 0, none⟩) r.length cap) ∧ wr.cell? ⟨gi, j, none⟩ = some (.int .i64 z) ∧ wr.frozen? ⟨gi, j, none⟩ = false ∧
      ∀ W x, Below wr.heap.size wr W → ∃ rs', TabI w1 (W.setCell ⟨gi, j, none⟩ (.int .i64 x)) g gr n (.slice A N c) fv bs (rows.set i (r.set j x)) rs' := by
  obtain ⟨p, hp, rfl⟩ : ∃ p, rs[i]? = some p ∧ p.2 = r := by
    rw [← h.1, List.getElem?_map] at hi
    exact Option.map_eq_some_iff.1 hi
  obtain ⟨hil, hie⟩ := List.getElem?_eq_some_iff.1 hp
  have hm : eInts p.1 p.2 ∈ (eRows (.slice A N c) (rs.map (·.1)) :: eBools fv bs :: eDfa g [.int .i64 n, .int .i64 0, .slice A N c, fv] :: eDfa gr zero4 :: eEach rs) :=
    List.mem_cons_of_mem _ (List.mem_cons_of_mem _ (List.mem_cons_of_mem _ (List.mem_cons_of_mem _ (List.mem_map.2 ⟨p, List.mem_of_getElem? hp, rfl⟩))))
  have hjl := (List.getElem?_eq_some_iff.1 hj).1
  rcases (h.2.each _ hm).2 with ⟨_, h0⟩ | ⟨gi, cap, cur, e, _⟩
  · have h0 : p.2.length = 0 := h0
    omega
  · have e : p.1 = .slice (some ⟨gi, 0, none⟩) p.2.length cap := e
    obtain ⟨A', c', hv, _⟩ := h.2.form (e := eRows (.slice A N c) (rs.map (·.1))) (by simp)
    simp only [eRows, List.length_map, Value.slice.injEq] at hv
    obtain ⟨rfl, rfl, rfl⟩ := hv
    have hc : Cells wr wr.heap.size A (rs.map (·.1)) := h.2.cells (t := 27) (sz := 1) (n := rs.length) (cap := c) (by simp [eRows])
    obtain ⟨ad, rfl, _, h3⟩ := hc i p.1 (by rw [List.getElem?_map, hp]; rfl)
    rw [e] at h3
    have hm2 := hm
    rw [e] at hm2
    obtain ⟨k1, k2⟩ := own_ints_cell h.2 (List.mem_append_left _ hm2) rfl hj
    refine ⟨ad, gi, cap, rfl, h3, k1, k2, fun W x hW => ⟨rs.set i (p.1, p.2.set j x), ?_, ?_⟩⟩
    · rw [List.map_set, h.1]
    · have h1 := (h.2.on hW).pull (i + 4) (by simp [eEach]; exact hil)
      have e1 : (eRows (.slice (some ad) rs.length c) (rs.map (·.1)) :: eBools fv bs :: eDfa g [.int .i64 n, .int .i64 0, .slice (some ad) rs.length c, fv] :: eDfa gr zero4 :: eEach rs)[i + 4]'(by simp [eEach]; exact hil) = eInts (.slice (some ⟨gi, 0, none⟩) p.2.length cap) p.2 := by
        simp only [List.getElem_cons_succ, eEach, List.getElem_map, hie]
        rw [e]
      rw [e1] at h1
      have h2 := own_ints_set h1 rfl j x
      have hrows : (rs.set i (p.1, p.2.set j x)).map (·.1) = rs.map (·.1) := map_set_same _ _ _ _ fun y hy => by
        obtain rfl := Option.some.inj (hp.symm.trans hy); rfl
      have heach : eEach (rs.set i (p.1, p.2.set j x)) = (eEach rs).set i (eInts p.1 (p.2.set j x)) := by unfold eEach; rw [List.map_set]
      rw [hrows, heach]
      refine Own.put (i + 4) (by simp [eEach]; exact hil) ?_
      simp only [List.getElem_cons_succ, List.getElem_set_self, List.eraseIdx_cons_succ, List.eraseIdx_set_eq]
      simp only [List.eraseIdx_cons_succ] at h2
      rw [e]
      exact h2
theorem TabI.c2 {w1 wr : World} {g gr : Nat} {n : Int} {nv fv : Value} {bs : List Bool} {rows : List (List Int)} {rs : List (Value × List Int)} (h : TabI w1 wr g gr n nv fv bs rows rs) : wr.cell? ⟨g, 2, none⟩ = some nv :=
  (h.2.dcell (g := g) (l := [.int .i64 n, .int .i64 0, nv, fv]) (j := 2) (by simp) rfl).1
end Go.Proofs.YtbciefeipiphiaaDoor.Su
