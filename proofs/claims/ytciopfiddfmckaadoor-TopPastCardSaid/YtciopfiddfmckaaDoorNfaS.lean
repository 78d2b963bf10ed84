/- The walks of package nfa: sets as numbers, Accepts. -/
import Derived.Test.YtciopfiddfmckaaDoorNfaW
namespace Go.Proofs.YtciopfiddfmckaaDoor.Nf
open Go.RowKit Go.IntWalk Go.Proofs.YtciopfiddfmckaaDoor.Wd Go.Proofs.YtciopfiddfmckaaDoor.Wo Go.Proofs.YtciopfiddfmckaaDoor.Df

/-! ### moved -/
/-! ### closed, first, next -/
theorem box_agg {w : World} {g : Nat} {L n : Int} {A M F : Option Addr} {k c km cm kf cf : Nat} (h : BoxN w g L n A k c M km cm F kf cf) :
    w.cell? ⟨g, 0, none⟩ = some (.int .i64 L) ∧ w.cell? ⟨g, 1, none⟩ = some (.int .i64 n) ∧ w.cell? ⟨g, 2, none⟩ = some (.slice A k c) ∧ w.cell? ⟨g, 3, none⟩ = some (.slice M km cm) ∧ w.cell? ⟨g, 4, none⟩ = some (.slice F kf cf) := ⟨h.c0, h.c1, h.c2, h.c3, h.c4⟩
/-! ### Accepts -/
end Go.Proofs.YtciopfiddfmckaaDoor.Nf
