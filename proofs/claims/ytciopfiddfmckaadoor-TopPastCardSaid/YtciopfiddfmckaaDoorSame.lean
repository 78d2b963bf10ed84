/- The walk of package stilewardsame's Ints: are two lists the same? -/
import Derived.Test.YtciopfiddfmckaaDoorProg
import Derived.Test.YtciopfiddfmckaaDoorWords
import Derived.Deep.QuietTactic
import Derived.BigQuiet
namespace Go.Proofs.YtciopfiddfmckaaDoor.Wd
open Go.RowKit Go.IntWalk

end Go.Proofs.YtciopfiddfmckaaDoor.Wd
