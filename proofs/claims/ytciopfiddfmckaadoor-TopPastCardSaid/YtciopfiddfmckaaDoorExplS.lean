/- Package dfa's Explore at sets. -/
import Derived.Test.YtciopfiddfmckaaDoorExpl
namespace Go.Proofs.YtciopfiddfmckaaDoor.Df
open Go.RowKit Go.IntWalk Go.Proofs.YtciopfiddfmckaaDoor.Wd Go.Proofs.YtciopfiddfmckaaDoor.Wo Go.Proofs.YtciopfiddfmckaaDoor.Mp
open Go.Maps (Keyed)

end Go.Proofs.YtciopfiddfmckaaDoor.Df
