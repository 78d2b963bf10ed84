/- What a ..Says law asks of errors: stilewardsame.Error of an error and its number is true; the listed variable's cell is kept. -/
import Derived.Test.YtaelgnmklepebaaDoorErr
import Derived.Test.YtaelgnmklepebaaDoorWords
namespace Go.Proofs.YtaelgnmklepebaaDoor.Er
open Go.RowKit Go.IntWalk Go.Proofs.YtaelgnmklepebaaDoor.Wd

theorem keep_handle {w w' : World} (hg : w.cell? ⟨1, 0, none⟩ = some (.iface 123 (.agg #[.pointer (some ⟨5, 25, none⟩)]))) (hb : Below w.heap.size w w') :
    w'.cell? ⟨1, 0, none⟩ = some (.iface 123 (.agg #[hErr])) := by
  rw [hb.cell (World.block_lt_of_cell? w _ hg)]; exact hg
/-- An error and its number. -/
theorem says (e : Nat) {w : World} (hg : w.cell? ⟨1, 0, none⟩ = some (.iface 123 (.agg #[.pointer (some ⟨5, 25, none⟩)]))) (W : World) (hb : Below w.heap.size w W) :
    Calls Tryd.prog 9 #[errV e, .int .i64 (e : Int)] W fun r w' => r = .returned (.bool true) ∧ Below W.heap.size W w' := by
  rcases e with _ | e
  · exact (error_nil 0 W).mono fun _ _ ⟨h, e⟩ => ⟨by rw [h.out]; rfl, by rw [← e]; exact Below.refl _ _⟩
  · exact (error_told _ _ W (keep_handle hg hb)).mono fun _ _ ⟨h, e⟩ => ⟨by rw [h.out]; simp, e⟩
end Go.Proofs.YtaelgnmklepebaaDoor.Er
