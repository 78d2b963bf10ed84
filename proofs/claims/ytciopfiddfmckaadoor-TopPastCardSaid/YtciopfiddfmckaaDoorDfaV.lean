/- The walk of stilewardsame.Bools. The walks of package stilewardsame's Bools, Rows and Dfa. The walks of package dfa's Both, Either and But. The contracts of package dfa as the laws' walks use them; automata in variables of their own. -/
import Derived.Test.YtciopfiddfmckaaDoorBoolT
import Derived.Test.YtciopfiddfmckaaDoorSame
import Derived.Deep.QuietTactic
import Derived.BigQuiet
import Derived.Test.YtciopfiddfmckaaDoorDfaA
import Derived.Test.YtciopfiddfmckaaDoorDfaW
import Derived.Test.YtciopfiddfmckaaDoorDfaR
import Derived.Test.YtciopfiddfmckaaDoorDfaM

namespace Go.Proofs.YtciopfiddfmckaaDoor.Df
open Go.RowKit Go.IntWalk Go.Proofs.YtciopfiddfmckaaDoor.Wd

end Go.Proofs.YtciopfiddfmckaaDoor.Df

namespace Go.Proofs.YtciopfiddfmckaaDoor.Df
open Go.RowKit Go.IntWalk Go.Proofs.YtciopfiddfmckaaDoor.Wd
/-! ### automata -/
end Go.Proofs.YtciopfiddfmckaaDoor.Df

namespace Go.Proofs.YtciopfiddfmckaaDoor.Df
open Go.RowKit Go.IntWalk Go.Proofs.YtciopfiddfmckaaDoor.Wd Go.Proofs.YtciopfiddfmckaaDoor.Wo

end Go.Proofs.YtciopfiddfmckaaDoor.Df

namespace Go.Proofs.YtciopfiddfmckaaDoor.Df
open Go.RowKit Go.IntWalk Go.Proofs.YtciopfiddfmckaaDoor.Wd Go.Proofs.YtciopfiddfmckaaDoor.Wo

/-- A variable that holds an automaton. -/
structure Var (w : World) (g : Nat) (L s : Int) (A : Option Addr) (n c : Nat) (F : Option Addr) (m cf : Nat) (d : Aut) : Prop where
  box : Boxed w g L s A n c F m cf
  at_ : DfaAt w w.heap.size (.agg #[.int .i64 L, .int .i64 s, .slice A n c, .slice F m cf]) d
theorem Var.on {w w' : World} {g : Nat} {L s : Int} {A : Option Addr} {n c : Nat} {F : Option Addr} {m cf : Nat} {d : Aut} (h : Var w g L s A n c F m cf d) (hb : Below w.heap.size w w') : Var w' g L s A n c F m cf d := ⟨h.box.on hb, h.at_.on hb⟩
theorem DfaAt.form {w : World} {B : Nat} {v : Value} {d : Aut} (h : DfaAt w B v d) : ∃ L s A n c F m cf, v = .agg #[.int .i64 L, .int .i64 s, .slice A n c, .slice F m cf] := by
  obtain ⟨L, s, A, c, F, cf, rfl, _⟩ := h
  exact ⟨_, _, _, _, _, _, _, _, rfl⟩
theorem var_new (w : World) {L s : Int} {A : Option Addr} {n c : Nat} {F : Option Addr} {m cf : Nat} {d : Aut} (h : DfaAt w w.heap.size (.agg #[.int .i64 L, .int .i64 s, .slice A n c, .slice F m cf]) d) :
    ∃ w1, w1 = w.alloc (.cells #[.int .i64 L, .int .i64 s, .slice A n c, .slice F m cf] 25) ∧ Below w.heap.size w w1 ∧ Var w1 w.heap.size L s A n c F m cf d :=
  ⟨_, rfl, below_alloc _ _, boxed_new _ _ _ _ _ _ _ _ _ _, h.on (below_alloc _ _)⟩
/-- What a function of automata gives: an automaton and an error. -/
def Gives (f : Nat) (args : Array Value) (W : World) (E : Value) (d : Aut) : Prop :=
  Calls Tryd.prog f args W fun e w' => ∃ L s A n c F m cf, e = .returned (.tuple #[.agg #[.int .i64 L, .int .i64 s, .slice A n c, .slice F m cf], E]) ∧ Hid (DfaAt w' w'.heap.size (.agg #[.int .i64 L, .int .i64 s, .slice A n c, .slice F m cf]) d) ∧ Below W.heap.size W w'
theorem gives_of {f : Nat} {args : Array Value} {W : World} {E : Value} {p : Aut × Nat} (h : Calls Tryd.prog f args W fun e w' => Hid (∃ x, e = .returned (.tuple #[x, errV p.2]) ∧ DfaOwn W w' x p.1)) {d : Aut} (hE : errV p.2 = E) (hd : p.1 = d) : Gives f args W E d := by
  refine h.mono fun e w' he => ?_
  obtain ⟨x, rfl, ho⟩ := he.out
  obtain ⟨L, s, A, n, c, F, m, cf, rfl⟩ := ho.at_.form
  exact ⟨L, s, A, n, c, F, m, cf, by rw [hE], by rw [← hd]; exact ho.at_, ho.below⟩
end Go.Proofs.YtciopfiddfmckaaDoor.Df
