/- stilewardsame.Nfa; package nfa's contracts as the laws take them. -/
import Derived.Test.YtciopfiddfmckaaDoorNfaS
import Derived.Test.YtciopfiddfmckaaDoorWordL
import Derived.Laws.StructEq
import Derived.Test.YtciopfiddfmckaaDoorNfaC
import Derived.Test.YtciopfiddfmckaaDoorNfaR
import Derived.Test.YtciopfiddfmckaaDoorDfaV
namespace Go.Proofs.YtciopfiddfmckaaDoor.Nf
open Go.RowKit Go.IntWalk Go.Proofs.YtciopfiddfmckaaDoor.Wd Go.Proofs.YtciopfiddfmckaaDoor.Wo Go.Proofs.YtciopfiddfmckaaDoor.Df

end Go.Proofs.YtciopfiddfmckaaDoor.Nf

namespace Go.Proofs.YtciopfiddfmckaaDoor.Nf
open Go.RowKit Go.IntWalk Go.Proofs.YtciopfiddfmckaaDoor.Wd Go.Proofs.YtciopfiddfmckaaDoor.Wo Go.Proofs.YtciopfiddfmckaaDoor.Df

/-- A variable that holds such an automaton: its block, and that it reads. -/
structure VarN (w : World) (g : Nat) (L n : Int) (A : Option Addr) (k c : Nat) (M : Option Addr) (km cm : Nat) (F : Option Addr) (kf cf : Nat) (a : Nfa) : Prop where
  box : BoxN w g L n A k c M km cm F kf cf
  at_ : NfaAt w w.heap.size (.agg #[.int .i64 L, .int .i64 n, .slice A k c, .slice M km cm, .slice F kf cf]) a
theorem VarN.on {w w' : World} {g : Nat} {L n : Int} {A M F : Option Addr} {k c km cm kf cf : Nat} {a : Nfa} (h : VarN w g L n A k c M km cm F kf cf a) (hb : Below w.heap.size w w') : VarN w' g L n A k c M km cm F kf cf a := ⟨h.box.on hb, h.at_.on hb⟩
theorem NfaAt.form {w : World} {B : Nat} {v : Value} {a : Nfa} (h : NfaAt w B v a) : ∃ L n A k c M km cm F kf cf, v = .agg #[.int .i64 L, .int .i64 n, .slice A k c, .slice M km cm, .slice F kf cf] := by
  obtain ⟨L, n, A, c, M, cm, F, cf, e, _⟩ := h
  exact ⟨L, n, A, _, c, M, _, cm, F, _, cf, e⟩
end Go.Proofs.YtciopfiddfmckaaDoor.Nf
