/- What a ..Says law asks of errors: stilewardsame.Error of an error and its number is true; the listed variable's cell is kept. -/
import Derived.Test.YtnlkkfcjonchgaaDoorErr
import Derived.Test.YtnlkkfcjonchgaaDoorWords
namespace Go.Proofs.YtnlkkfcjonchgaaDoor.Er
open Go.RowKit Go.IntWalk Go.Proofs.YtnlkkfcjonchgaaDoor.Wd

theorem keep_handle {w w' : World} (hg : w.cell? ⟨0, 0, none⟩ = some (.iface 133 (.agg #[.pointer (some ⟨1, 31, none⟩)]))) (hb : Below w.heap.size w w') :
    w'.cell? ⟨0, 0, none⟩ = some (.iface 133 (.agg #[hErr])) := by
  rw [hb.cell (World.block_lt_of_cell? w _ hg)]; exact hg
/-- An error and its number. -/
theorem says (e : Nat) {w : World} (hg : w.cell? ⟨0, 0, none⟩ = some (.iface 133 (.agg #[.pointer (some ⟨1, 31, none⟩)]))) (W : World) (hb : Below w.heap.size w W) :
    Calls Tryd.prog 10 #[errV e, .int .i64 (e : Int)] W fun r w' => r = .returned (.bool true) ∧ Below W.heap.size W w' := by
  rcases e with _ | e
  · exact (error_nil 0 W).mono fun _ _ ⟨h, e⟩ => ⟨by rw [h.out]; rfl, by rw [← e]; exact Below.refl _ _⟩
  · exact (error_told _ _ W (keep_handle hg hb)).mono fun _ _ ⟨h, e⟩ => ⟨by rw [h.out]; simp, e⟩
end Go.Proofs.YtnlkkfcjonchgaaDoor.Er
