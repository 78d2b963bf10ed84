/- stilewardsame.Nfa; package nfa's contracts as the laws take them. -/
import Derived.Test.YtloihkoamccacaaGreatDoorNfaS
import Derived.Test.YtloihkoamccacaaGreatDoorWordL
import Derived.Laws.StructEq
import Derived.Test.YtloihkoamccacaaGreatDoorNfaC
import Derived.Test.YtloihkoamccacaaGreatDoorNfaR
import Derived.Test.YtloihkoamccacaaGreatDoorDfaV
namespace Go.Proofs.YtloihkoamccacaaGreatDoor.Nf
open Go.RowKit Go.IntWalk Go.Proofs.YtloihkoamccacaaGreatDoor.Wd Go.Proofs.YtloihkoamccacaaGreatDoor.Wo Go.Proofs.YtloihkoamccacaaGreatDoor.Df

end Go.Proofs.YtloihkoamccacaaGreatDoor.Nf

namespace Go.Proofs.YtloihkoamccacaaGreatDoor.Nf
open Go.RowKit Go.IntWalk Go.Proofs.YtloihkoamccacaaGreatDoor.Wd Go.Proofs.YtloihkoamccacaaGreatDoor.Wo Go.Proofs.YtloihkoamccacaaGreatDoor.Df

/-- A variable that holds such an automaton: its block, and that it reads. -/
structure VarN (w : World) (g : Nat) (L n : Int) (A : Option Addr) (k c : Nat) (M : Option Addr) (km cm : Nat) (F : Option Addr) (kf cf : Nat) (a : Nfa) : Prop where
  box : BoxN w g L n A k c M km cm F kf cf
  at_ : NfaAt w w.heap.size (.agg #[.int .i64 L, .int .i64 n, .slice A k c, .slice M km cm, .slice F kf cf]) a
theorem VarN.on {w w' : World} {g : Nat} {L n : Int} {A M F : Option Addr} {k c km cm kf cf : Nat} {a : Nfa} (h : VarN w g L n A k c M km cm F kf cf a) (hb : Below w.heap.size w w') : VarN w' g L n A k c M km cm F kf cf a := ⟨h.box.on hb, h.at_.on hb⟩
theorem NfaAt.form {w : World} {B : Nat} {v : Value} {a : Nfa} (h : NfaAt w B v a) : ∃ L n A k c M km cm F kf cf, v = .agg #[.int .i64 L, .int .i64 n, .slice A k c, .slice M km cm, .slice F kf cf] := by
  obtain ⟨L, n, A, c, M, cm, F, cf, e, _⟩ := h
  exact ⟨L, n, A, _, c, M, _, cm, F, _, cf, e⟩
theorem NfaAt.eqs {w : World} {B : Nat} {L n : Int} {A M F : Option Addr} {k c km cm kf cf : Nat} {a : Nfa} (h : NfaAt w B (.agg #[.int .i64 L, .int .i64 n, .slice A k c, .slice M km cm, .slice F kf cf]) a) : a.L = L ∧ a.n = n ∧ Small L := by
  obtain ⟨L', n', A', c', M', cm', F', cf', e, h1⟩ := h
  simp only [Value.agg.injEq, Array.mk.injEq, List.cons.injEq, Value.int.injEq, true_and, and_true] at e
  obtain ⟨rfl, rfl, _⟩ := e
  exact ⟨h1.eL, h1.en, h1.hL⟩
theorem varN_new (w : World) {L n : Int} {A M F : Option Addr} {k c km cm kf cf : Nat} {a : Nfa} (h : NfaAt w w.heap.size (.agg #[.int .i64 L, .int .i64 n, .slice A k c, .slice M km cm, .slice F kf cf]) a) :
    ∃ w1, w1 = w.alloc (.cells #[.int .i64 L, .int .i64 n, .slice A k c, .slice M km cm, .slice F kf cf] 42) ∧ Below w.heap.size w w1 ∧ VarN w1 w.heap.size L n A k c M km cm F kf cf a :=
  ⟨_, rfl, below_alloc _ _, ⟨by simp, box_cell w _ _ 0, box_cell w _ _ 1, box_cell w _ _ 2, box_cell w _ _ 3, box_cell w _ _ 4⟩, h.on (below_alloc _ _)⟩
/-- What a function of such automata gives: one, and an error. -/
def GivesN (f : Nat) (args : Array Value) (W : World) (E : Value) (a : Nfa) : Prop :=
  Calls Tryz.prog f args W fun e w' => ∃ (L n : Int) (A : Option Addr) (k c : Nat) (M : Option Addr) (km cm : Nat) (F : Option Addr) (kf cf : Nat), e = .returned (.tuple #[.agg #[.int .i64 L, .int .i64 n, .slice A k c, .slice M km cm, .slice F kf cf], E]) ∧
    Hid (NfaAt w' w'.heap.size (.agg #[.int .i64 L, .int .i64 n, .slice A k c, .slice M km cm, .slice F kf cf]) a) ∧ Below W.heap.size W w'
theorem givesN_of {f : Nat} {args : Array Value} {W : World} {E : Value} {p : Nfa × Nat} (h : Calls Tryz.prog f args W fun e w' => Hid (∃ x, e = .returned (.tuple #[x, errV p.2]) ∧ NfaAt w' w'.heap.size x p.1) ∧ Below W.heap.size W w') {a : Nfa} (hE : errV p.2 = E) (ha : p.1 = a) : GivesN f args W E a := by
  subst hE
  subst ha
  refine h.mono fun e w' ⟨he, hb⟩ => ?_
  obtain ⟨x, h1, h2⟩ := he.out
  obtain ⟨L, n, A, k, c, M, km, cm, F, kf, cf, rfl⟩ := h2.form
  exact ⟨L, n, A, k, c, M, km, cm, F, kf, cf, h1, h2, hb⟩
theorem nmir_gives {W : World} {v : Value} {a : Nfa} (h : NfaAt W W.heap.size v a) {E : Value} {r : Nfa} {k : Nat} (hr : mirOut a = (r, k)) (hE : errV k = E) : GivesN 13 #[v] W E r :=
  givesN_of (mirror_any v a W h) (by rw [hr]; exact hE) (by rw [hr])
theorem nof_gives {W : World} {v : Value} {d : Aut} (h : DfaAt W W.heap.size v d) {E : Value} {r : Nfa} {k : Nat} (hr : ofOut d = (r, k)) (hE : errV k = E) : GivesN 12 #[v] W E r :=
  givesN_of ((of_any v d W h).mono fun e w' ⟨he, hb⟩ => ⟨by obtain ⟨x, h1, h2⟩ := he.out; exact ⟨x, h1, h2.at_⟩, hb⟩) (by rw [hr]; exact hE) (by rw [hr])
end Go.Proofs.YtloihkoamccacaaGreatDoor.Nf
