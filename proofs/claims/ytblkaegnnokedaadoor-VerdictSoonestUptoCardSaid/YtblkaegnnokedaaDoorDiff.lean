/- The walk of package small's difference. -/
import Derived.Test.YtblkaegnnokedaaDoorPairs
import Derived.Test.YtblkaegnnokedaaDoorSearch
namespace Go.Proofs.YtblkaegnnokedaaDoor.Mp
open Go.RowKit Go.IntWalk Go.Proofs.YtblkaegnnokedaaDoor.Wd Go.Proofs.YtblkaegnnokedaaDoor.Wo Go.Proofs.YtblkaegnnokedaaDoor.Df Go.Proofs.YtblkaegnnokedaaDoor.Rc Go.Proofs.YtblkaegnnokedaaDoor.Sm

/-- What it returns. -/
def Dif (a b : Aut) (w : World) (e : Ending) (w' : World) : Prop :=
  (∃ u wv, diffW a b a.s.toNat b.s.toNat = some u ∧ e = .returned (.tuple #[wv, .bool true]) ∧ Own w w' [] [eInts wv u] ∧ (u = [] → wv = .slice none 0 0)) ∨ (diffW a b a.s.toNat b.s.toNat = none ∧ e = .returned (.tuple #[.slice none 0 0, .bool false]) ∧ Below w.heap.size w w')
end Go.Proofs.YtblkaegnnokedaaDoor.Mp
