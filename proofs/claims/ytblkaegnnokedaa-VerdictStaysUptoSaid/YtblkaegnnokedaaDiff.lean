/- The walk of package small's difference. -/
import Derived.Test.YtblkaegnnokedaaPairs
import Derived.Test.YtblkaegnnokedaaSearch
namespace Go.Proofs.Ytblkaegnnokedaa.Mp
open Go.RowKit Go.IntWalk Go.Proofs.Ytblkaegnnokedaa.Wd Go.Proofs.Ytblkaegnnokedaa.Wo Go.Proofs.Ytblkaegnnokedaa.Df Go.Proofs.Ytblkaegnnokedaa.Rc Go.Proofs.Ytblkaegnnokedaa.Sm

/-- What it returns. -/
def Dif (a b : Aut) (w : World) (e : Ending) (w' : World) : Prop :=
  (∃ u wv, diffW a b a.s.toNat b.s.toNat = some u ∧ e = .returned (.tuple #[wv, .bool true]) ∧ Own w w' [] [eInts wv u] ∧ (u = [] → wv = .slice none 0 0)) ∨ (diffW a b a.s.toNat b.s.toNat = none ∧ e = .returned (.tuple #[.slice none 0 0, .bool false]) ∧ Below w.heap.size w w')
end Go.Proofs.Ytblkaegnnokedaa.Mp
