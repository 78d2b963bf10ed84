/- The walk of the document's answer that trims: stilewardref1's Trim. -/
import Derived.Test.YtbciefeipiphiaaDoorRefPair
import Derived.Test.YtbciefeipiphiaaDoorTrim
import Derived.Test.YtbciefeipiphiaaDoorReached
namespace Go.Proofs.YtbciefeipiphiaaDoor.Rc
open Go.RowKit Go.IntWalk Go.Proofs.YtbciefeipiphiaaDoor.Wd Go.Proofs.YtbciefeipiphiaaDoor.Wo Go.Proofs.YtbciefeipiphiaaDoor.Df

theorem res_one {fn : Func} {t : Tmp} (h : fn.results = #[.cell t 25]) (tmps : Array Value) {w : World} {g : Nat} {v0 v1 v2 v3 : Value} (hp : tmps.getD t undef = .pointer (some ⟨g, 0, none⟩))
    (c0 : w.cell? ⟨g, 0, none⟩ = some v0) (c1 : w.cell? ⟨g, 1, none⟩ = some v1) (c2 : w.cell? ⟨g, 2, none⟩ = some v2) (c3 : w.cell? ⟨g, 3, none⟩ = some v3) :
    (results fn tmps).run Tryd.prog w = .ok (.agg #[v0, v1, v2, v3]) w := by
  have hp' : tmps[t]?.getD undef = .pointer (some ⟨g, 0, none⟩) := by simpa using hp
  simp [results, h, hp', go_sem, c0, c1, c2, c3]
theorem ints_app (l : List Nat) (x : Nat) : ints (l ++ [x]) = ints l ++ [(x : Int)] := by unfold ints; rw [List.map_append]; rfl
theorem sizeAl2 (w : World) (o : Obj) : (w.alloc o).heap.size = w.heap.size + 1 := by simp
/-- The trimmed one under way. -/
def UInv (w1 wr : World) (g gr : Nat) (d : Aut) (s n i : Nat) (lv : Value) : Prop :=
  ∃ l nv fv rr, Part (S1 d) s i l ∧ Build w1 wr g (eDfa gr zero4 :: [eInts lv (ints l)]) (n : Int) 0 ((l.take i).map (srow (S1 d) l)) ((l.take i).map (finA d)) nv fv rr
/-- The same within a row. -/
def VInv (w1 wi : World) (g gr : Nat) (d : Aut) (n k : Nat) (l : List Nat) (x c : Nat) (nv fv : Value) (rr : List (Value × List Int)) (lv rv : Value) : Prop :=
  Own w1 wi [eInts lv (ints (addAll l ((S1 d x).take c))), eInts rv (trow (S1 d) l x c), eRows nv (rr.map (·.1)), eBools fv ((l.take k).map (finA d)), eDfa g [.int .i64 (n : Int), .int .i64 0, nv, fv], eDfa gr zero4] (eEach rr)
end Go.Proofs.YtbciefeipiphiaaDoor.Rc
