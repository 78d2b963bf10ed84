/- slices.Sort of a row of ints that a call owns, by the library's contract. -/
import Derived.Test.YtciopfiddfmckaaDoorDfaP
import Derived.Shelf.Sort.Plain
import Derived.Sort.OwnSortedInts
namespace Go.Proofs.YtciopfiddfmckaaDoor.Wd
open Go.RowKit Go.IntWalk Go.Shelf Go.Sort

end Go.Proofs.YtciopfiddfmckaaDoor.Wd
