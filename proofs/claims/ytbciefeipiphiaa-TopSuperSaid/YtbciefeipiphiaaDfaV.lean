/- The walk of stilewardsame.Bools. The walks of package stilewardsame's Bools, Rows and Dfa. The walks of package dfa's Both, Either and But. The contracts of package dfa as the laws' walks use them; automata in variables of their own. -/
import Derived.Test.YtbciefeipiphiaaBoolT
import Derived.Test.YtbciefeipiphiaaSame
import Derived.Deep.QuietTactic
import Derived.BigQuiet
import Derived.Test.YtbciefeipiphiaaDfaA
import Derived.Test.YtbciefeipiphiaaDfaW
import Derived.Test.YtbciefeipiphiaaDfaR
import Derived.Test.YtbciefeipiphiaaDfaM

namespace Go.Proofs.Ytbciefeipiphiaa.Df
open Go.RowKit Go.IntWalk Go.Proofs.Ytbciefeipiphiaa.Wd

theorem takeB_step {α : Type} {x y : List α} {k : Nat} (h : x.take k = y.take k) (hx : k < x.length) (hy : k < y.length) (he : x[k] = y[k]) : x.take (k + 1) = y.take (k + 1) := by
  rw [← List.take_append_getElem hx, ← List.take_append_getElem hy, h, he]
theorem neB_at {α : Type} {x y : List α} {k : Nat} (hx : k < x.length) (hy : k < y.length) (he : ¬ x[k] = y[k]) : x ≠ y := by
  rintro rfl; exact he rfl
end Go.Proofs.Ytbciefeipiphiaa.Df

namespace Go.Proofs.Ytbciefeipiphiaa.Df
open Go.RowKit Go.IntWalk Go.Proofs.Ytbciefeipiphiaa.Wd
/-! ### automata -/
structure Lite (d : Aut) : Prop where
  n : d.next.length ≤ 40
  f : d.fin.length ≤ 40
  r : ∀ r ∈ d.next, r.length ≤ 40
theorem Good.lite {d : Aut} (g : Good d) : Lite d := ⟨g.n40, by rw [g.fin]; exact g.n40, fun r hr => by have := g.row r hr; have := g.l6; omega⟩
theorem lite_zero : Lite zeroA := ⟨by simp [zeroA], by simp [zeroA], by simp [zeroA]⟩
theorem aut_ext {a b : Aut} (h1 : a.L = b.L) (h2 : a.s = b.s) (h3 : a.next = b.next) (h4 : a.fin = b.fin) : a = b := by
  cases a; cases b; simp_all
end Go.Proofs.Ytbciefeipiphiaa.Df

namespace Go.Proofs.Ytbciefeipiphiaa.Df
open Go.RowKit Go.IntWalk Go.Proofs.Ytbciefeipiphiaa.Wd Go.Proofs.Ytbciefeipiphiaa.Wo

set_option maxRecDepth 100000 in
theorem both1_any (x y : Bool) (w : World) : Calls Try.prog 34 #[.bool x, .bool y] w fun e w' => e = .returned (.bool ((fun x y => x && y) x y)) ∧ w' = w := by
  rcases x with _ | _ <;> rcases y with _ | _
  all_goals
    go_enter Try.func34, Try.ntmps34
    go_wp2
    go_ret
    exact ⟨rfl, rfl⟩
theorem both1_call (args : Array Value) (W : World) : (callFunc 34 args).run Try.prog W = .ok (.enter 34 args) W := by
  have hn : ¬ Try.f34.name = "runtime.NumGoroutine" := of_decide_eq_false (by kernel_rfl)
  have hb : ¬ Try.f34.body = none := fun h => by
    have : Try.f34.body.isSome = true := by kernel_rfl
    rw [h] at this; cases this
  simp [callFunc, go_sem, hn, hb]
def bothF : Bool → Bool → Bool := fun x y => x && y
set_option maxRecDepth 100000 in
set_option maxHeartbeats 1000000 in
theorem both_any (v z : Value) (a b : Aut) (w : World) (ha : DfaAt w w.heap.size v a) (hb : DfaAt w w.heap.size z b) :
    Calls Try.prog 19 #[v, z] w fun e w' => Hid (∃ x, e = .returned (.tuple #[x, errV (prodOut bothF a b).2]) ∧ DfaOwn w w' x (prodOut bothF a b).1) := by
  have HA := ha
  have HZ := hb
  obtain ⟨L, s, A, c, F, cf, rfl, ha⟩ := ha
  obtain ⟨M, t, C, d, G, cg, rfl, hb⟩ := hb
  obtain ⟨wx, hwx, hBx, hX, hd1⟩ := box_dfa w ha
  obtain ⟨w1, hw1, hB1, hY, hd2⟩ := box_dfa wx (hb.on hBx)
  have hs1 : wx.heap.size = w.heap.size + 1 := by rw [hwx]; simp
  have hs2 : w1.heap.size = w.heap.size + 2 := by rw [hw1]; simp; omega
  rw [hs1] at hY
  have hres := below_alloc w1 (.cells #[.int .i64 0, .int .i64 0, .slice none 0 0, .slice none 0 0] 25)
  have HB := Lib.hid (hBx.trans (hB1.mono hBx.size))
  have HX := hX.on hB1
  have HO := Lib.hid ((own_start w1).dfa (.int .i64 0) (.int .i64 0) (.slice none 0 0) (.slice none 0 0))
  rw [hs2] at HO
  have HC := Lib.hid (prod_any 34 both1_call bothF (fun x y W => both1_any x y W) _ _ a b _ ((HA.on HB.out).on hres) ((HZ.on HB.out).on hres))
  have HX2 := HX.on hres
  have HY2 := hY.on hres
  have hc0 := HX2.c0
  have hc1 := HX2.c1
  have hc2 := HX2.c2
  have hc3 := HX2.c3
  have hd0 := HY2.c0
  have hd1' := HY2.c1
  have hd2' := HY2.c2
  have hd3 := HY2.c3
  have HW : Hid (w1 = (w.alloc (.cells #[.int .i64 L, .int .i64 s, .slice A a.next.length c, .slice F a.fin.length cf] 25)).alloc (.cells #[.int .i64 M, .int .i64 t, .slice C b.next.length d, .slice G b.fin.length cg] 25)) := by
    rw [← hwx]; exact hw1
  clear hwx hw1 hBx hB1 hX hY hd1 hd2 hs1 hs2 ha hb hres HX HX2 HY2 HA HZ
  generalize a.next.length = n1 at *
  generalize a.fin.length = n2 at *
  generalize b.next.length = n3 at *
  generalize b.fin.length = n4 at *
  generalize prodOut bothF a b = PO at *
  obtain ⟨po, en⟩ := PO
  simp only at HC ⊢
  generalize errV en = E at *
  go_enter Try.func19, Try.ntmps19
  go_wp2_with fail
  rw [← HW.out]
  refine HC.out.mono ?_
  rintro e w5 he
  obtain ⟨x, rfl, ho⟩ := he.out
  obtain ⟨nv, fv, A1, m1, c1, F1, m2, c2, rfl, rfl, rfl⟩ := ho.form
  have HH := Lib.hid (res_own HO.out ho rfl)
  have hO5 := HO.out.join (es1 := []) (fs1 := []) ((own_start _).on ho.below)
  obtain ⟨hr0, hf0⟩ := hO5.dcell (g := w.heap.size + 2) (l := zero4) (j := 0) (by simp) rfl
  obtain ⟨hr1, hf1⟩ := hO5.dcell (g := w.heap.size + 2) (l := zero4) (j := 1) (by simp) rfl
  obtain ⟨hr2, hf2⟩ := hO5.dcell (g := w.heap.size + 2) (l := zero4) (j := 2) (by simp) rfl
  obtain ⟨hr3, hf3⟩ := hO5.dcell (g := w.heap.size + 2) (l := zero4) (j := 3) (by simp) rfl
  clear he ho hO5 HC hc0 hc1 hc2 hc3 hd0 hd1' hd2' hd3
  go_wp2
  obtain ⟨k1, k3, k4, k5, k6⟩ := HH.out
  exact bodyPost_ret (results_dfa rfl _ rfl k3 k4 k5 k6) rfl ⟨_, rfl, k1.base HB.out⟩

def eitherF : Bool → Bool → Bool := fun x y => x || y
def butF : Bool → Bool → Bool := fun x y => x && !y
end Go.Proofs.Ytbciefeipiphiaa.Df

namespace Go.Proofs.Ytbciefeipiphiaa.Df
open Go.RowKit Go.IntWalk Go.Proofs.Ytbciefeipiphiaa.Wd Go.Proofs.Ytbciefeipiphiaa.Wo

/-- A variable that holds an automaton. -/
structure Var (w : World) (g : Nat) (L s : Int) (A : Option Addr) (n c : Nat) (F : Option Addr) (m cf : Nat) (d : Aut) : Prop where
  box : Boxed w g L s A n c F m cf
  at_ : DfaAt w w.heap.size (.agg #[.int .i64 L, .int .i64 s, .slice A n c, .slice F m cf]) d
theorem Var.on {w w' : World} {g : Nat} {L s : Int} {A : Option Addr} {n c : Nat} {F : Option Addr} {m cf : Nat} {d : Aut} (h : Var w g L s A n c F m cf d) (hb : Below w.heap.size w w') : Var w' g L s A n c F m cf d := ⟨h.box.on hb, h.at_.on hb⟩
theorem DfaAt.form {w : World} {B : Nat} {v : Value} {d : Aut} (h : DfaAt w B v d) : ∃ L s A n c F m cf, v = .agg #[.int .i64 L, .int .i64 s, .slice A n c, .slice F m cf] := by
  obtain ⟨L, s, A, c, F, cf, rfl, _⟩ := h
  exact ⟨_, _, _, _, _, _, _, _, rfl⟩
theorem DfaAt.eqs {w : World} {B : Nat} {L s : Int} {A : Option Addr} {n c : Nat} {F : Option Addr} {m cf : Nat} {d : Aut} (h : DfaAt w B (.agg #[.int .i64 L, .int .i64 s, .slice A n c, .slice F m cf]) d) : d.L = L ∧ d.s = s ∧ d.next.length = n ∧ d.fin.length = m := by
  obtain ⟨L', s', A', c', F', cf', e, h1⟩ := h
  simp only [Value.agg.injEq, Array.mk.injEq, List.cons.injEq, Value.int.injEq, Value.slice.injEq, true_and, and_true] at e
  obtain ⟨rfl, rfl, ⟨_, rfl, _⟩, _, rfl, _⟩ := e
  exact ⟨h1.eL, h1.es, rfl, rfl⟩
theorem var_new (w : World) {L s : Int} {A : Option Addr} {n c : Nat} {F : Option Addr} {m cf : Nat} {d : Aut} (h : DfaAt w w.heap.size (.agg #[.int .i64 L, .int .i64 s, .slice A n c, .slice F m cf]) d) :
    ∃ w1, w1 = w.alloc (.cells #[.int .i64 L, .int .i64 s, .slice A n c, .slice F m cf] 25) ∧ Below w.heap.size w w1 ∧ Var w1 w.heap.size L s A n c F m cf d :=
  ⟨_, rfl, below_alloc _ _, boxed_new _ _ _ _ _ _ _ _ _ _, h.on (below_alloc _ _)⟩
theorem vars_two (w : World) {L s : Int} {A : Option Addr} {n c : Nat} {F : Option Addr} {m cf : Nat} {a : Aut} {M t : Int} {C : Option Addr} {k d : Nat} {G : Option Addr} {l cg : Nat} {b : Aut}
    (ha : DfaAt w w.heap.size (.agg #[.int .i64 L, .int .i64 s, .slice A n c, .slice F m cf]) a) (hb : DfaAt w w.heap.size (.agg #[.int .i64 M, .int .i64 t, .slice C k d, .slice G l cg]) b) :
    ∃ w1, w1 = (w.alloc (.cells #[.int .i64 L, .int .i64 s, .slice A n c, .slice F m cf] 25)).alloc (.cells #[.int .i64 M, .int .i64 t, .slice C k d, .slice G l cg] 25) ∧
      Below w.heap.size w w1 ∧ Var w1 w.heap.size L s A n c F m cf a ∧ Var w1 (w.heap.size + 1) M t C k d G l cg b := by
  obtain ⟨w1, e1, h1, v1⟩ := var_new w ha
  obtain ⟨w2, e2, h2, v2⟩ := var_new w1 (hb.on h1)
  have hs : w1.heap.size = w.heap.size + 1 := by rw [e1]; simp
  rw [hs] at v2
  exact ⟨w2, by rw [e2, e1], h1.trans (h2.mono h1.size), v1.on h2, v2⟩
/-- What a function of automata gives: an automaton and an error. -/
def Gives (f : Nat) (args : Array Value) (W : World) (E : Value) (d : Aut) : Prop :=
  Calls Try.prog f args W fun e w' => ∃ L s A n c F m cf, e = .returned (.tuple #[.agg #[.int .i64 L, .int .i64 s, .slice A n c, .slice F m cf], E]) ∧ Hid (DfaAt w' w'.heap.size (.agg #[.int .i64 L, .int .i64 s, .slice A n c, .slice F m cf]) d) ∧ Below W.heap.size W w'
theorem gives_of {f : Nat} {args : Array Value} {W : World} {E : Value} {p : Aut × Nat} (h : Calls Try.prog f args W fun e w' => Hid (∃ x, e = .returned (.tuple #[x, errV p.2]) ∧ DfaOwn W w' x p.1)) {d : Aut} (hE : errV p.2 = E) (hd : p.1 = d) : Gives f args W E d := by
  refine h.mono fun e w' he => ?_
  obtain ⟨x, rfl, ho⟩ := he.out
  obtain ⟨L, s, A, n, c, F, m, cf, rfl⟩ := ho.at_.form
  exact ⟨L, s, A, n, c, F, m, cf, by rw [hE], by rw [← hd]; exact ho.at_, ho.below⟩
theorem errV_bad {k : Nat} (h : k ≠ 0) : ∃ x, errV k = errI x := by
  rcases k with _ | k
  · exact absurd rfl h
  · exact ⟨_, rfl⟩
theorem both_gives {W : World} {v z : Value} {a b : Aut} (h : DfaAt W W.heap.size v a) (h2 : DfaAt W W.heap.size z b) {E : Value} {r : Aut} {k : Nat} (hr : prodOut (fun x y => x && y) a b = (r, k)) (hE : errV k = E) : Gives 19 #[v, z] W E r :=
  gives_of (both_any v z a b W h h2) (by unfold bothF; rw [hr]; exact hE) (by unfold bothF; rw [hr])
theorem acc_gives {W : World} {v : Value} {d : Aut} {Z : Option Addr} {cz : Nat} {z : List Int} (h : DfaAt W W.heap.size v d) (hZ : IntsAt W W.heap.size Z z) (hz : z.length ≤ 17592186044416) {b : Bool} {E : Value} (hb : accOut d z = b) (hE : errV (accErr d z) = E) :
    Calls Try.prog 11 #[v, .slice Z z.length cz] W fun e w' => e = .returned (.tuple #[.bool b, E]) ∧ Below W.heap.size W w' :=
  (acc_any v d Z cz z W h hZ hz).mono fun e w' ⟨h1, h2⟩ => ⟨by rw [h1.out, hb, hE], h2⟩
theorem run_gives {W : World} {v : Value} {d : Aut} {q : Int} {Z : Option Addr} {cz : Nat} {z : List Int} (h : DfaAt W W.heap.size v d) (hq : Small q) (hZ : IntsAt W W.heap.size Z z) (hz : z.length ≤ 17592186044416) {r : Int} {E : Value} (hb : runOut d q z = r) (hE : errV (runErr d q z) = E) :
    Calls Try.prog 25 #[v, .int .i64 q, .slice Z z.length cz] W fun e w' => e = .returned (.tuple #[.int .i64 r, E]) ∧ Below W.heap.size W w' :=
  (run_any v d q Z cz z W h hq hZ hz).mono fun e w' ⟨h1, h2⟩ => ⟨by rw [h1.out, hb, hE], h2⟩
theorem accErr_ok {d : Aut} {z : List Int} (g : Good d) (hz : Fine d.L z) : accErr d z = 0 := by
  unfold accErr; rw [if_neg (by have := dchk_iff.2 g; omega)]; exact chk_iff.2 hz
theorem accOut_ok {d : Aut} {z : List Int} (g : Good d) (hz : Fine d.L z) : accOut d z = accA d z := by unfold accOut; rw [if_pos (accErr_ok g hz)]
theorem accOut_bad {d : Aut} {z : List Int} (h : accErr d z ≠ 0) : accOut d z = false := by unfold accOut; rw [if_neg h]
end Go.Proofs.Ytbciefeipiphiaa.Df
