/- The walk of package nfa's Make. -/
import Derived.Test.YtciopfiddfmckaaDoorNfaS
import Derived.Test.YtciopfiddfmckaaDoorExplS
import Derived.Test.YtciopfiddfmckaaDoorDfaR
namespace Go.Proofs.YtciopfiddfmckaaDoor.Nf
open Go.RowKit Go.IntWalk Go.Proofs.YtciopfiddfmckaaDoor.Wd Go.Proofs.YtciopfiddfmckaaDoor.Wo Go.Proofs.YtciopfiddfmckaaDoor.Df

end Go.Proofs.YtciopfiddfmckaaDoor.Nf
