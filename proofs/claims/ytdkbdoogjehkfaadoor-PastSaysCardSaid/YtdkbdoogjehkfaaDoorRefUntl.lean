/- The walk of the document's answer for until. -/
import Derived.Test.YtdkbdoogjehkfaaDoorFormM
import Derived.Test.YtdkbdoogjehkfaaDoorBoolT
import Derived.Handy
namespace Go.Proofs.YtdkbdoogjehkfaaDoor.Fm
open Go.RowKit Go.IntWalk Go.Proofs.YtdkbdoogjehkfaaDoor.Wd

end Go.Proofs.YtdkbdoogjehkfaaDoor.Fm
