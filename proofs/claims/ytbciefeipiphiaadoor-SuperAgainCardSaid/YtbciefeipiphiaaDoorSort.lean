/- slices.Sort of a row of ints that a call owns, by the library's contract. -/
import Derived.Test.YtbciefeipiphiaaDoorDfaP
import Derived.Shelf.Sort.Plain
import Derived.Sort.OwnSortedInts
namespace Go.Proofs.YtbciefeipiphiaaDoor.Wd
open Go.RowKit Go.IntWalk Go.Shelf Go.Sort

/-- A sorted list. -/
def srt (l : List Int) : List Int := l.mergeSort fun x y => decide (x ≤ y)
theorem srt_length (l : List Int) : (srt l).length = l.length := List.length_mergeSort _
end Go.Proofs.YtbciefeipiphiaaDoor.Wd
