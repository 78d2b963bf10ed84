/- strings.Clone, by the library's contract on what it calls: the same bytes. -/
import Derived.Test.YtjebkipdooimbaaDoorProg
import Derived.Test.YtjebkipdooimbaaDoorWords
import Derived.Shelf.Pu.Clone
import Derived.Handy
namespace Go.Proofs.YtjebkipdooimbaaDoor.Wd
open Go.RowKit Go.Shelf

/-- The contract's numbers of types and functions, as this program has them. -/
def cloneRen : Ren := ⟨fun _ => 30, fun | 0 => 0 | 3 => 3 | 4 => 4 | 5 => 5 | 9 => 9 | 37 => 46 | _ => 76, fun x => x⟩
theorem clone_laid : LaysPu.n25 Tryd.prog cloneRen := by
  constructor <;> first | kernel_rfl | (intro w; kernel_rfl)
theorem clone_ok (s : ByteArray) (w : World) (hs : s.size ≤ 1000000) :
    Calls Tryd.prog 24 #[.string s] w fun e w' => e = .returned (.string s) ∧ Below w.heap.size w w' := by
  have HC : ∀ W : World, Calls Tryd.prog 30 #[.string s] W fun e w' => e = .returned (.string s) ∧ Below W.heap.size W w' := fun W => AnyPu.stringslite_Clone clone_laid s W (by omega)
  have HB := Lib.hid HC
  clear HC
  go_enter Tryd.func24, Tryd.ntmps24
  go_wp2_with fail
  refine (HB.out _).mono ?_
  rintro e w1 ⟨rfl, hb⟩
  go_wp2
  go_ret
  exact ⟨rfl, hb⟩
end Go.Proofs.YtjebkipdooimbaaDoor.Wd
