/- The walks of the document's answer for package dfa: stilewardref1's Dfa, Two, Run, Accepts and Not. -/
import Derived.Test.YtnlkkfcjonchgaaDoorDfaV
import Derived.Test.YtnlkkfcjonchgaaDoorRefWord
namespace Go.Proofs.YtnlkkfcjonchgaaDoor.Df
open Go.RowKit Go.IntWalk Go.Proofs.YtnlkkfcjonchgaaDoor.Wd Go.Proofs.YtnlkkfcjonchgaaDoor.Wo

end Go.Proofs.YtnlkkfcjonchgaaDoor.Df
