/- Package dfa's Explore at sets. -/
import Derived.Test.YtdkbdoogjehkfaaDoorExpl
namespace Go.Proofs.YtdkbdoogjehkfaaDoor.Df
open Go.RowKit Go.IntWalk Go.Proofs.YtdkbdoogjehkfaaDoor.Wd Go.Proofs.YtdkbdoogjehkfaaDoor.Wo Go.Proofs.YtdkbdoogjehkfaaDoor.Mp
open Go.Maps (Keyed)

end Go.Proofs.YtdkbdoogjehkfaaDoor.Df
