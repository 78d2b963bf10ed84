/- What the law ReachLeast asks besides: a literal automaton and its first word; lists that functions of package reach return. -/
import Derived.Test.YtbciefeipiphiaaDoorFirst
import Derived.Test.YtbciefeipiphiaaDoorDfaV
namespace Go.Proofs.YtbciefeipiphiaaDoor.Rc
open Go.RowKit Go.IntWalk Go.Proofs.YtbciefeipiphiaaDoor.Wd Go.Proofs.YtbciefeipiphiaaDoor.Wo Go.Proofs.YtbciefeipiphiaaDoor.Df

end Go.Proofs.YtbciefeipiphiaaDoor.Rc
