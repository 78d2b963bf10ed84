/- stilewardsame.Nfa; package nfa's contracts as the laws take them. -/
import Derived.Test.YtloihkoamccacaaNfaS
import Derived.Test.YtloihkoamccacaaWordL
import Derived.Laws.StructEq
import Derived.Test.YtloihkoamccacaaNfaC
import Derived.Test.YtloihkoamccacaaNfaR
import Derived.Test.YtloihkoamccacaaDfaV
namespace Go.Proofs.Ytloihkoamccacaa.Nf
open Go.RowKit Go.IntWalk Go.Proofs.Ytloihkoamccacaa.Wd Go.Proofs.Ytloihkoamccacaa.Wo Go.Proofs.Ytloihkoamccacaa.Df

theorem ne_move (a b c : Int) (W : World) : (binOp .neq 101 (.agg #[.int .i64 a, .int .i64 b, .int .i64 c]) (.agg #[.int .i64 a, .int .i64 b, .int .i64 c])).run Try.prog W = .ok (.bool false) W := by
  rw [run_neq_struct, run_equalIn_agg W 9999 _ _ _ (by kernel_rfl) (by kernel_rfl)]
  simp [Program.fieldsOf, Try.underlying101, go_sem]
/-- Few enough for the walk. -/
structure LiteN (a : Nfa) : Prop where
  s : a.st.length ≤ 140737488355328
  m : a.mv.length ≤ 1099511627776
  f : a.fin.length ≤ 140737488355328
theorem liteN_good {a : Nfa} (g : Good a) : LiteN a := ⟨by have := g.s40; omega, by have := g.m240; omega, by have := g.f40; omega⟩
theorem liteN_zero : LiteN zeroN := ⟨by simp [zeroN], by simp [zeroN], by simp [zeroN]⟩
end Go.Proofs.Ytloihkoamccacaa.Nf

namespace Go.Proofs.Ytloihkoamccacaa.Nf
open Go.RowKit Go.IntWalk Go.Proofs.Ytloihkoamccacaa.Wd Go.Proofs.Ytloihkoamccacaa.Wo Go.Proofs.Ytloihkoamccacaa.Df

/-- A variable that holds such an automaton: its block, and that it reads. -/
structure VarN (w : World) (g : Nat) (L n : Int) (A : Option Addr) (k c : Nat) (M : Option Addr) (km cm : Nat) (F : Option Addr) (kf cf : Nat) (a : Nfa) : Prop where
  box : BoxN w g L n A k c M km cm F kf cf
  at_ : NfaAt w w.heap.size (.agg #[.int .i64 L, .int .i64 n, .slice A k c, .slice M km cm, .slice F kf cf]) a
theorem VarN.on {w w' : World} {g : Nat} {L n : Int} {A M F : Option Addr} {k c km cm kf cf : Nat} {a : Nfa} (h : VarN w g L n A k c M km cm F kf cf a) (hb : Below w.heap.size w w') : VarN w' g L n A k c M km cm F kf cf a := ⟨h.box.on hb, h.at_.on hb⟩
theorem NfaAt.form {w : World} {B : Nat} {v : Value} {a : Nfa} (h : NfaAt w B v a) : ∃ L n A k c M km cm F kf cf, v = .agg #[.int .i64 L, .int .i64 n, .slice A k c, .slice M km cm, .slice F kf cf] := by
  obtain ⟨L, n, A, c, M, cm, F, cf, e, _⟩ := h
  exact ⟨L, n, A, _, c, M, _, cm, F, _, cf, e⟩
theorem NfaAt.eqs {w : World} {B : Nat} {L n : Int} {A M F : Option Addr} {k c km cm kf cf : Nat} {a : Nfa} (h : NfaAt w B (.agg #[.int .i64 L, .int .i64 n, .slice A k c, .slice M km cm, .slice F kf cf]) a) : a.L = L ∧ a.n = n ∧ Small L := by
  obtain ⟨L', n', A', c', M', cm', F', cf', e, h1⟩ := h
  simp only [Value.agg.injEq, Array.mk.injEq, List.cons.injEq, Value.int.injEq, true_and, and_true] at e
  obtain ⟨rfl, rfl, _⟩ := e
  exact ⟨h1.eL, h1.en, h1.hL⟩
theorem varN_new (w : World) {L n : Int} {A M F : Option Addr} {k c km cm kf cf : Nat} {a : Nfa} (h : NfaAt w w.heap.size (.agg #[.int .i64 L, .int .i64 n, .slice A k c, .slice M km cm, .slice F kf cf]) a) :
    ∃ w1, w1 = w.alloc (.cells #[.int .i64 L, .int .i64 n, .slice A k c, .slice M km cm, .slice F kf cf] 64) ∧ Below w.heap.size w w1 ∧ VarN w1 w.heap.size L n A k c M km cm F kf cf a :=
  ⟨_, rfl, below_alloc _ _, ⟨by simp, box_cell w _ _ 0, box_cell w _ _ 1, box_cell w _ _ 2, box_cell w _ _ 3, box_cell w _ _ 4⟩, h.on (below_alloc _ _)⟩
/-- What a function of such automata gives: one, and an error. -/
def GivesN (f : Nat) (args : Array Value) (W : World) (E : Value) (a : Nfa) : Prop :=
  Calls Try.prog f args W fun e w' => ∃ (L n : Int) (A : Option Addr) (k c : Nat) (M : Option Addr) (km cm : Nat) (F : Option Addr) (kf cf : Nat), e = .returned (.tuple #[.agg #[.int .i64 L, .int .i64 n, .slice A k c, .slice M km cm, .slice F kf cf], E]) ∧
    Hid (NfaAt w' w'.heap.size (.agg #[.int .i64 L, .int .i64 n, .slice A k c, .slice M km cm, .slice F kf cf]) a) ∧ Below W.heap.size W w'
theorem givesN_of {f : Nat} {args : Array Value} {W : World} {E : Value} {p : Nfa × Nat} (h : Calls Try.prog f args W fun e w' => Hid (∃ x, e = .returned (.tuple #[x, errV p.2]) ∧ NfaAt w' w'.heap.size x p.1) ∧ Below W.heap.size W w') {a : Nfa} (hE : errV p.2 = E) (ha : p.1 = a) : GivesN f args W E a := by
  subst hE
  subst ha
  refine h.mono fun e w' ⟨he, hb⟩ => ?_
  obtain ⟨x, h1, h2⟩ := he.out
  obtain ⟨L, n, A, k, c, M, km, cm, F, kf, cf, rfl⟩ := h2.form
  exact ⟨L, n, A, k, c, M, km, cm, F, kf, cf, h1, h2, hb⟩
theorem nmir_gives {W : World} {v : Value} {a : Nfa} (h : NfaAt W W.heap.size v a) {E : Value} {r : Nfa} {k : Nat} (hr : mirOut a = (r, k)) (hE : errV k = E) : GivesN 45 #[v] W E r :=
  givesN_of (mirror_any v a W h) (by rw [hr]; exact hE) (by rw [hr])
theorem nof_gives {W : World} {v : Value} {d : Aut} (h : DfaAt W W.heap.size v d) {E : Value} {r : Nfa} {k : Nat} (hr : ofOut d = (r, k)) (hE : errV k = E) : GivesN 44 #[v] W E r :=
  givesN_of ((of_any v d W h).mono fun e w' ⟨he, hb⟩ => ⟨by obtain ⟨x, h1, h2⟩ := he.out; exact ⟨x, h1, h2.at_⟩, hb⟩) (by rw [hr]; exact hE) (by rw [hr])
theorem nmake_gives {W : World} {v : Value} {a : Nfa} (h : NfaAt W W.heap.size v a) {E : Value} {r : Aut} {k : Nat} (hr : makeOut a = (r, k)) (hE : errV k = E) : Gives 46 #[v] W E r :=
  gives_of (make_any v a W h) (by rw [hr]; exact hE) (by rw [hr])
end Go.Proofs.Ytloihkoamccacaa.Nf
