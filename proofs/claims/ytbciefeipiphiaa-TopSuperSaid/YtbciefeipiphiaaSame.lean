/- The walk of package stilewardsame's Ints: are two lists the same? -/
import Derived.Test.YtbciefeipiphiaaProg
import Derived.Test.YtbciefeipiphiaaWords
import Derived.Deep.QuietTactic
import Derived.BigQuiet
namespace Go.Proofs.Ytbciefeipiphiaa.Wd
open Go.RowKit Go.IntWalk

theorem take_eq_step {x y : List Int} {k : Nat} (h : x.take k = y.take k) (hx : k < x.length) (hy : k < y.length) (he : x[k] = y[k]) : x.take (k + 1) = y.take (k + 1) := by
  rw [← List.take_append_getElem hx, ← List.take_append_getElem hy, h, he]
theorem ne_at {x y : List Int} {k : Nat} (hx : k < x.length) (hy : k < y.length) (he : ¬ x[k] = y[k]) : x ≠ y := by
  rintro rfl; exact he rfl
theorem drewN_zero (w : World) : w.drewN 0 = w := rfl

end Go.Proofs.Ytbciefeipiphiaa.Wd
