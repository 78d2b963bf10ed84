/- The walks of package dfa's Both, Either and But. -/
import Derived.Test.YtlhhhdgkdbplmaaDoorDfaR
namespace Go.Proofs.YtlhhhdgkdbplmaaDoor.Df
open Go.RowKit Go.IntWalk Go.Proofs.YtlhhhdgkdbplmaaDoor.Wd Go.Proofs.YtlhhhdgkdbplmaaDoor.Wo

def bothF : Bool → Bool → Bool := fun x y => x && y
def eitherF : Bool → Bool → Bool := fun x y => x || y
def butF : Bool → Bool → Bool := fun x y => x && !y
end Go.Proofs.YtlhhhdgkdbplmaaDoor.Df
