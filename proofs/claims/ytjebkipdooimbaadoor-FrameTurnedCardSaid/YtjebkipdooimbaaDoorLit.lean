/- A string made of a slice of bytes that was written out: what it reads, and that nothing else has changed. Asks a program that has the type of slices of bytes. -/
import Derived.Test.YtjebkipdooimbaaDoorProg
import Derived.Test.YtjebkipdooimbaaDoorWords
import Derived.WalkKit
import Derived.Laws.IdiomStrings
import Derived.Laws.NewBlocks
namespace Go.Proofs.YtjebkipdooimbaaDoor.Wd
open Go.RowKit
theorem conv_lit (l : List UInt8) (w : World) (vs : Array Value) (h : vs.toList = l.map fun b => Value.int .u8 (b.toNat : Int)) :
    (convert 46 9 (.slice (some { block := w.heap.size, off := 0 }) l.length l.length)).run Tryd.prog ((w.alloc (.cells vs 5)).drew)
      = .ok (.string (str l)) ((w.alloc (.cells vs 5)).drew) := by
  refine run_convert_bytes_back (P := Tryd.prog) _ 46 9 5 ⟨w.heap.size, 0, none⟩ l.length l Tryd.underlying46 Tryd.underlying5 Tryd.underlying9 ?_
  intro j hj
  have e : vs[j]? = some (.int .u8 (l[j].toNat : Int)) := by
    rw [← Array.getElem?_toList, h, List.getElem?_map, List.getElem?_eq_getElem hj]; rfl
  show (w.alloc (.cells vs 5)).cell? ((⟨w.heap.size, 0, none⟩ : Addr).add j) = _
  rw [show (⟨w.heap.size, 0, none⟩ : Addr).add j = ⟨w.heap.size, j, none⟩ from by unfold Addr.add; simp [eq_comm], World.cell?_alloc_at _ _ _ _ rfl]
  exact e
theorem below_lit (w : World) (vs : Array Value) (t : TypeId) : Below w.heap.size w ((w.alloc (.cells vs t)).drew) :=
  below_drewN ((Below.refl w.heap.size w).alloc (Nat.le_refl _) _) 1
end Go.Proofs.YtjebkipdooimbaaDoor.Wd
