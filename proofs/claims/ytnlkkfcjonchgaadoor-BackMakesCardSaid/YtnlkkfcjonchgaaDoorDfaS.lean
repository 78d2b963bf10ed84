/- The walks of package dfa's Both, Either and But. -/
import Derived.Test.YtnlkkfcjonchgaaDoorDfaR
namespace Go.Proofs.YtnlkkfcjonchgaaDoor.Df
open Go.RowKit Go.IntWalk Go.Proofs.YtnlkkfcjonchgaaDoor.Wd Go.Proofs.YtnlkkfcjonchgaaDoor.Wo

def bothF : Bool → Bool → Bool := fun x y => x && y
def eitherF : Bool → Bool → Bool := fun x y => x || y
def butF : Bool → Bool → Bool := fun x y => x && !y
end Go.Proofs.YtnlkkfcjonchgaaDoor.Df
