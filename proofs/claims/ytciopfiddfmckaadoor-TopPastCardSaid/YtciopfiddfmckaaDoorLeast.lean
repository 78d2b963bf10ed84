/- What the law ReachLeast asks besides: a literal automaton and its first word; lists that functions of package reach return. -/
import Derived.Test.YtciopfiddfmckaaDoorFirst
import Derived.Test.YtciopfiddfmckaaDoorDfaV
namespace Go.Proofs.YtciopfiddfmckaaDoor.Rc
open Go.RowKit Go.IntWalk Go.Proofs.YtciopfiddfmckaaDoor.Wd Go.Proofs.YtciopfiddfmckaaDoor.Wo Go.Proofs.YtciopfiddfmckaaDoor.Df

theorem word_small {L : Int} (h6 : L ≤ 6) {w : List Int} (hw : Word L w) : ∀ x ∈ w, Small x := fun x hx => by
  have := hw x hx
  exact ⟨by omega, by omega⟩
end Go.Proofs.YtciopfiddfmckaaDoor.Rc
