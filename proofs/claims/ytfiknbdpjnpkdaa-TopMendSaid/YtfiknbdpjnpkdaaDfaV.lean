/- The walk of stilewardsame.Bools. The walks of package stilewardsame's Bools, Rows and Dfa. The walks of package dfa's Both, Either and But. The contracts of package dfa as the laws' walks use them; automata in variables of their own. -/
import Derived.Test.YtfiknbdpjnpkdaaBoolT
import Derived.Test.YtfiknbdpjnpkdaaSame
import Derived.Deep.QuietTactic
import Derived.BigQuiet
import Derived.Test.YtfiknbdpjnpkdaaDfaA
import Derived.Test.YtfiknbdpjnpkdaaDfaW
import Derived.Test.YtfiknbdpjnpkdaaDfaR
import Derived.Test.YtfiknbdpjnpkdaaDfaM

namespace Go.Proofs.Ytfiknbdpjnpkdaa.Df
open Go.RowKit Go.IntWalk Go.Proofs.Ytfiknbdpjnpkdaa.Wd

theorem takeB_step {α : Type} {x y : List α} {k : Nat} (h : x.take k = y.take k) (hx : k < x.length) (hy : k < y.length) (he : x[k] = y[k]) : x.take (k + 1) = y.take (k + 1) := by
  rw [← List.take_append_getElem hx, ← List.take_append_getElem hy, h, he]
theorem neB_at {α : Type} {x y : List α} {k : Nat} (hx : k < x.length) (hy : k < y.length) (he : ¬ x[k] = y[k]) : x ≠ y := by
  rintro rfl; exact he rfl
end Go.Proofs.Ytfiknbdpjnpkdaa.Df

namespace Go.Proofs.Ytfiknbdpjnpkdaa.Df
open Go.RowKit Go.IntWalk Go.Proofs.Ytfiknbdpjnpkdaa.Wd
/-! ### automata -/
structure Lite (d : Aut) : Prop where
  n : d.next.length ≤ 40
  f : d.fin.length ≤ 40
  r : ∀ r ∈ d.next, r.length ≤ 40
theorem Good.lite {d : Aut} (g : Good d) : Lite d := ⟨g.n40, by rw [g.fin]; exact g.n40, fun r hr => by have := g.row r hr; have := g.l6; omega⟩
theorem lite_zero : Lite zeroA := ⟨by simp [zeroA], by simp [zeroA], by simp [zeroA]⟩
theorem aut_ext {a b : Aut} (h1 : a.L = b.L) (h2 : a.s = b.s) (h3 : a.next = b.next) (h4 : a.fin = b.fin) : a = b := by
  cases a; cases b; simp_all
end Go.Proofs.Ytfiknbdpjnpkdaa.Df

namespace Go.Proofs.Ytfiknbdpjnpkdaa.Df
open Go.RowKit Go.IntWalk Go.Proofs.Ytfiknbdpjnpkdaa.Wd Go.Proofs.Ytfiknbdpjnpkdaa.Wo

def bothF : Bool → Bool → Bool := fun x y => x && y
def eitherF : Bool → Bool → Bool := fun x y => x || y
def butF : Bool → Bool → Bool := fun x y => x && !y
end Go.Proofs.Ytfiknbdpjnpkdaa.Df

namespace Go.Proofs.Ytfiknbdpjnpkdaa.Df
open Go.RowKit Go.IntWalk Go.Proofs.Ytfiknbdpjnpkdaa.Wd Go.Proofs.Ytfiknbdpjnpkdaa.Wo

/-- A variable that holds an automaton. -/
structure Var (w : World) (g : Nat) (L s : Int) (A : Option Addr) (n c : Nat) (F : Option Addr) (m cf : Nat) (d : Aut) : Prop where
  box : Boxed w g L s A n c F m cf
  at_ : DfaAt w w.heap.size (.agg #[.int .i64 L, .int .i64 s, .slice A n c, .slice F m cf]) d
theorem Var.on {w w' : World} {g : Nat} {L s : Int} {A : Option Addr} {n c : Nat} {F : Option Addr} {m cf : Nat} {d : Aut} (h : Var w g L s A n c F m cf d) (hb : Below w.heap.size w w') : Var w' g L s A n c F m cf d := ⟨h.box.on hb, h.at_.on hb⟩
theorem DfaAt.form {w : World} {B : Nat} {v : Value} {d : Aut} (h : DfaAt w B v d) : ∃ L s A n c F m cf, v = .agg #[.int .i64 L, .int .i64 s, .slice A n c, .slice F m cf] := by
  obtain ⟨L, s, A, c, F, cf, rfl, _⟩ := h
  exact ⟨_, _, _, _, _, _, _, _, rfl⟩
theorem DfaAt.eqs {w : World} {B : Nat} {L s : Int} {A : Option Addr} {n c : Nat} {F : Option Addr} {m cf : Nat} {d : Aut} (h : DfaAt w B (.agg #[.int .i64 L, .int .i64 s, .slice A n c, .slice F m cf]) d) : d.L = L ∧ d.s = s ∧ d.next.length = n ∧ d.fin.length = m := by
  obtain ⟨L', s', A', c', F', cf', e, h1⟩ := h
  simp only [Value.agg.injEq, Array.mk.injEq, List.cons.injEq, Value.int.injEq, Value.slice.injEq, true_and, and_true] at e
  obtain ⟨rfl, rfl, ⟨_, rfl, _⟩, _, rfl, _⟩ := e
  exact ⟨h1.eL, h1.es, rfl, rfl⟩
theorem var_new (w : World) {L s : Int} {A : Option Addr} {n c : Nat} {F : Option Addr} {m cf : Nat} {d : Aut} (h : DfaAt w w.heap.size (.agg #[.int .i64 L, .int .i64 s, .slice A n c, .slice F m cf]) d) :
    ∃ w1, w1 = w.alloc (.cells #[.int .i64 L, .int .i64 s, .slice A n c, .slice F m cf] 25) ∧ Below w.heap.size w w1 ∧ Var w1 w.heap.size L s A n c F m cf d :=
  ⟨_, rfl, below_alloc _ _, boxed_new _ _ _ _ _ _ _ _ _ _, h.on (below_alloc _ _)⟩
theorem vars_two (w : World) {L s : Int} {A : Option Addr} {n c : Nat} {F : Option Addr} {m cf : Nat} {a : Aut} {M t : Int} {C : Option Addr} {k d : Nat} {G : Option Addr} {l cg : Nat} {b : Aut}
    (ha : DfaAt w w.heap.size (.agg #[.int .i64 L, .int .i64 s, .slice A n c, .slice F m cf]) a) (hb : DfaAt w w.heap.size (.agg #[.int .i64 M, .int .i64 t, .slice C k d, .slice G l cg]) b) :
    ∃ w1, w1 = (w.alloc (.cells #[.int .i64 L, .int .i64 s, .slice A n c, .slice F m cf] 25)).alloc (.cells #[.int .i64 M, .int .i64 t, .slice C k d, .slice G l cg] 25) ∧
      Below w.heap.size w w1 ∧ Var w1 w.heap.size L s A n c F m cf a ∧ Var w1 (w.heap.size + 1) M t C k d G l cg b := by
  obtain ⟨w1, e1, h1, v1⟩ := var_new w ha
  obtain ⟨w2, e2, h2, v2⟩ := var_new w1 (hb.on h1)
  have hs : w1.heap.size = w.heap.size + 1 := by rw [e1]; simp
  rw [hs] at v2
  exact ⟨w2, by rw [e2, e1], h1.trans (h2.mono h1.size), v1.on h2, v2⟩
/-- What a function of automata gives: an automaton and an error. -/
def Gives (f : Nat) (args : Array Value) (W : World) (E : Value) (d : Aut) : Prop :=
  Calls Try.prog f args W fun e w' => ∃ L s A n c F m cf, e = .returned (.tuple #[.agg #[.int .i64 L, .int .i64 s, .slice A n c, .slice F m cf], E]) ∧ Hid (DfaAt w' w'.heap.size (.agg #[.int .i64 L, .int .i64 s, .slice A n c, .slice F m cf]) d) ∧ Below W.heap.size W w'
theorem gives_of {f : Nat} {args : Array Value} {W : World} {E : Value} {p : Aut × Nat} (h : Calls Try.prog f args W fun e w' => Hid (∃ x, e = .returned (.tuple #[x, errV p.2]) ∧ DfaOwn W w' x p.1)) {d : Aut} (hE : errV p.2 = E) (hd : p.1 = d) : Gives f args W E d := by
  refine h.mono fun e w' he => ?_
  obtain ⟨x, rfl, ho⟩ := he.out
  obtain ⟨L, s, A, n, c, F, m, cf, rfl⟩ := ho.at_.form
  exact ⟨L, s, A, n, c, F, m, cf, by rw [hE], by rw [← hd]; exact ho.at_, ho.below⟩
theorem errV_bad {k : Nat} (h : k ≠ 0) : ∃ x, errV k = errI x := by
  rcases k with _ | k
  · exact absurd rfl h
  · exact ⟨_, rfl⟩
theorem acc_gives {W : World} {v : Value} {d : Aut} {Z : Option Addr} {cz : Nat} {z : List Int} (h : DfaAt W W.heap.size v d) (hZ : IntsAt W W.heap.size Z z) (hz : z.length ≤ 17592186044416) {b : Bool} {E : Value} (hb : accOut d z = b) (hE : errV (accErr d z) = E) :
    Calls Try.prog 8 #[v, .slice Z z.length cz] W fun e w' => e = .returned (.tuple #[.bool b, E]) ∧ Below W.heap.size W w' :=
  (acc_any v d Z cz z W h hZ hz).mono fun e w' ⟨h1, h2⟩ => ⟨by rw [h1.out, hb, hE], h2⟩
theorem run_gives {W : World} {v : Value} {d : Aut} {q : Int} {Z : Option Addr} {cz : Nat} {z : List Int} (h : DfaAt W W.heap.size v d) (hq : Small q) (hZ : IntsAt W W.heap.size Z z) (hz : z.length ≤ 17592186044416) {r : Int} {E : Value} (hb : runOut d q z = r) (hE : errV (runErr d q z) = E) :
    Calls Try.prog 24 #[v, .int .i64 q, .slice Z z.length cz] W fun e w' => e = .returned (.tuple #[.int .i64 r, E]) ∧ Below W.heap.size W w' :=
  (run_any v d q Z cz z W h hq hZ hz).mono fun e w' ⟨h1, h2⟩ => ⟨by rw [h1.out, hb, hE], h2⟩
theorem accErr_ok {d : Aut} {z : List Int} (g : Good d) (hz : Fine d.L z) : accErr d z = 0 := by
  unfold accErr; rw [if_neg (by have := dchk_iff.2 g; omega)]; exact chk_iff.2 hz
theorem accOut_ok {d : Aut} {z : List Int} (g : Good d) (hz : Fine d.L z) : accOut d z = accA d z := by unfold accOut; rw [if_pos (accErr_ok g hz)]
theorem accOut_bad {d : Aut} {z : List Int} (h : accErr d z ≠ 0) : accOut d z = false := by unfold accOut; rw [if_neg h]
end Go.Proofs.Ytfiknbdpjnpkdaa.Df
