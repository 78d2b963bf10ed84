/- stilewardsame.Nfa; package nfa's contracts as the laws take them. -/
import Derived.Test.YtlhhhdgkdbplmaaDoorNfaS
import Derived.Test.YtlhhhdgkdbplmaaDoorWordL
import Derived.Laws.StructEq
import Derived.Test.YtlhhhdgkdbplmaaDoorNfaC
import Derived.Test.YtlhhhdgkdbplmaaDoorNfaR
import Derived.Test.YtlhhhdgkdbplmaaDoorNfaF
import Derived.Test.YtlhhhdgkdbplmaaDoorDfaV
namespace Go.Proofs.YtlhhhdgkdbplmaaDoor.Nf
open Go.RowKit Go.IntWalk Go.Proofs.YtlhhhdgkdbplmaaDoor.Wd Go.Proofs.YtlhhhdgkdbplmaaDoor.Wo Go.Proofs.YtlhhhdgkdbplmaaDoor.Df

theorem ne_move (a b c : Int) (W : World) : (binOp .neq 64 (.agg #[.int .i64 a, .int .i64 b, .int .i64 c]) (.agg #[.int .i64 a, .int .i64 b, .int .i64 c])).run Tryd.prog W = .ok (.bool false) W := by
  rw [run_neq_struct, run_equalIn_agg W 9999 _ _ _ (by kernel_rfl) (by kernel_rfl)]
  simp [Program.fieldsOf, Tryd.underlying64, go_sem]
/-- Few enough for the walk. -/
structure LiteN (a : Nfa) : Prop where
  s : a.st.length ≤ 140737488355328
  m : a.mv.length ≤ 1099511627776
  f : a.fin.length ≤ 140737488355328
theorem liteN_good {a : Nfa} (g : Good a) : LiteN a := ⟨by have := g.s40; omega, by have := g.m240; omega, by have := g.f40; omega⟩
theorem liteN_zero : LiteN zeroN := ⟨by simp [zeroN], by simp [zeroN], by simp [zeroN]⟩
set_option maxRecDepth 100000 in
set_option maxHeartbeats 2000000 in
theorem sameN_any (v z : Value) (a : Nfa) (w : World) (ha : NfaAt w w.heap.size v a) (hb : NfaAt w w.heap.size z a) (la : LiteN a) :
    Calls Tryd.prog 12 #[v, z] w fun e w' => e = .returned (.bool true) ∧ Below w.heap.size w w' := by
  obtain ⟨L, n, A, ca, M, cm, F, cf, rfl, ha⟩ := ha
  obtain ⟨L', n', B, cb, N, cn, G, cg, rfl, hb⟩ := hb
  obtain ⟨wx, hwx, hBx, hs1, hX, hd1⟩ := box_nfa w ha
  obtain ⟨w1, hw1, hB1, hs2, hY, hd2⟩ := box_nfa wx (hb.on hBx)
  rw [hs1] at hY
  have hL := ha.eL.symm.trans hb.eL
  have hn := ha.en.symm.trans hb.en
  subst hL
  subst hn
  have HB := Lib.hid (hBx.trans (hB1.mono hBx.size))
  have HX := Lib.hid (hX.on hB1)
  have HY := Lib.hid hY
  have HD := Lib.hid (hd1.on hB1)
  have HE := Lib.hid hd2
  have HW : Hid (w1 = (w.alloc (.cells #[.int .i64 L, .int .i64 n, .slice A a.st.length ca, .slice M a.mv.length cm, .slice F a.fin.length cf] 25)).alloc (.cells #[.int .i64 L, .int .i64 n, .slice B a.st.length cb, .slice N a.mv.length cn, .slice G a.fin.length cg] 25)) := by
    rw [← hwx]; exact hw1
  have HI1 := Lib.hid (fun k => ints_yes (c := ca) (d := cb) (w := w1) (n := k) rfl HD.out.st HE.out.st la.s)
  have HI2 := Lib.hid (fun k => ints_yes (c := cf) (d := cg) (w := w1) (n := k) rfl HD.out.fin HE.out.fin la.f)
  have hm := la.m
  have hc0 := HX.out.c0
  have hc1 := HX.out.c1
  have hc2 := HX.out.c2
  have hc3 := HX.out.c3
  have hc4 := HX.out.c4
  have hd0 := HY.out.c0
  have hd1' := HY.out.c1
  have hd2' := HY.out.c2
  have hd3 := HY.out.c3
  have hd4 := HY.out.c4
  have e1 := int_eq' (show L = L from rfl)
  have e2 := int_eq' (show n = n from rfl)
  clear hwx hw1 hBx hB1 hX hY hd1 hd2 hs1 hs2 ha hb la
  generalize hkm : a.mv.length = km at *
  have HKm := Lib.hid hkm
  clear hkm
  generalize a.st.length = ks at *
  generalize a.fin.length = kf at *
  go_enter Tryd.func12, Tryd.ntmps12
  go_wp2_with fail
  rw [← HW.out]
  clear HW
  refine (HI1.out 0).mono ?_
  rintro e w2 ⟨rfl, k1, rfl⟩
  clear HI1
  go_wp2_with fail
  refine (HI2.out k1).mono ?_
  rintro e w2 ⟨rfl, k2, rfl⟩
  clear HI2
  go_wp2
  go_loopw [5] (fun i wr => ∃ (k nn : Nat), k ≤ km ∧ i = .int .i64 k ∧ wr = w1.drewN nn) (fun i _ => km - (intOf i).toNat)
  case atStart => exact ⟨0, k2, by omega, rfl, rfl⟩
  case round =>
    obtain ⟨k, nn, hk, rfl, rfl⟩ := hrel
    by_cases hlt : k < km
    · have hlt' : k < a.mv.length := by rw [HKm.out]; exact hlt
      obtain ⟨ad, e, hadb, m0, m1, m2⟩ := HD.out.mv.at_ (List.getElem?_eq_getElem hlt')
      obtain ⟨ae, e', haeb, p0, p1, p2⟩ := HE.out.mv.at_ (List.getElem?_eq_getElem hlt')
      subst e
      subst e'
      obtain ⟨⟨x, y, z⟩, hq⟩ : ∃ q, q = a.mv[k] := ⟨_, rfl⟩
      rw [← hq] at m0 m1 m2 p0 p1 p2
      simp only at m0 m1 m2 p0 p1 p2
      have hne := ne_move x y z
      have e3 : (k : Int) < (km : Int) := by omega
      clear hq hlt'
      go_wp2_with fail
      go_quiet (fail)
      go_wp2
      go_roundw
      case rel => exact ⟨k + 1, _, by omega, by go_num, rfl⟩
      case measure => simp [intOf]; omega
    · go_wp2
      go_ret
      exact ⟨rfl, below_drewN HB.out _⟩
end Go.Proofs.YtlhhhdgkdbplmaaDoor.Nf

namespace Go.Proofs.YtlhhhdgkdbplmaaDoor.Nf
open Go.RowKit Go.IntWalk Go.Proofs.YtlhhhdgkdbplmaaDoor.Wd Go.Proofs.YtlhhhdgkdbplmaaDoor.Wo Go.Proofs.YtlhhhdgkdbplmaaDoor.Df

/-- A variable that holds such an automaton: its block, and that it reads. -/
structure VarN (w : World) (g : Nat) (L n : Int) (A : Option Addr) (k c : Nat) (M : Option Addr) (km cm : Nat) (F : Option Addr) (kf cf : Nat) (a : Nfa) : Prop where
  box : BoxN w g L n A k c M km cm F kf cf
  at_ : NfaAt w w.heap.size (.agg #[.int .i64 L, .int .i64 n, .slice A k c, .slice M km cm, .slice F kf cf]) a
theorem VarN.on {w w' : World} {g : Nat} {L n : Int} {A M F : Option Addr} {k c km cm kf cf : Nat} {a : Nfa} (h : VarN w g L n A k c M km cm F kf cf a) (hb : Below w.heap.size w w') : VarN w' g L n A k c M km cm F kf cf a := ⟨h.box.on hb, h.at_.on hb⟩
theorem NfaAt.form {w : World} {B : Nat} {v : Value} {a : Nfa} (h : NfaAt w B v a) : ∃ L n A k c M km cm F kf cf, v = .agg #[.int .i64 L, .int .i64 n, .slice A k c, .slice M km cm, .slice F kf cf] := by
  obtain ⟨L, n, A, c, M, cm, F, cf, e, _⟩ := h
  exact ⟨L, n, A, _, c, M, _, cm, F, _, cf, e⟩
theorem NfaAt.eqs {w : World} {B : Nat} {L n : Int} {A M F : Option Addr} {k c km cm kf cf : Nat} {a : Nfa} (h : NfaAt w B (.agg #[.int .i64 L, .int .i64 n, .slice A k c, .slice M km cm, .slice F kf cf]) a) : a.L = L ∧ a.n = n ∧ Small L := by
  obtain ⟨L', n', A', c', M', cm', F', cf', e, h1⟩ := h
  simp only [Value.agg.injEq, Array.mk.injEq, List.cons.injEq, Value.int.injEq, true_and, and_true] at e
  obtain ⟨rfl, rfl, _⟩ := e
  exact ⟨h1.eL, h1.en, h1.hL⟩
theorem varN_new (w : World) {L n : Int} {A M F : Option Addr} {k c km cm kf cf : Nat} {a : Nfa} (h : NfaAt w w.heap.size (.agg #[.int .i64 L, .int .i64 n, .slice A k c, .slice M km cm, .slice F kf cf]) a) :
    ∃ w1, w1 = w.alloc (.cells #[.int .i64 L, .int .i64 n, .slice A k c, .slice M km cm, .slice F kf cf] 25) ∧ Below w.heap.size w w1 ∧ VarN w1 w.heap.size L n A k c M km cm F kf cf a :=
  ⟨_, rfl, below_alloc _ _, ⟨by simp, box_cell w _ _ 0, box_cell w _ _ 1, box_cell w _ _ 2, box_cell w _ _ 3, box_cell w _ _ 4⟩, h.on (below_alloc _ _)⟩
/-- What a function of such automata gives: one, and an error. -/
def GivesN (f : Nat) (args : Array Value) (W : World) (E : Value) (a : Nfa) : Prop :=
  Calls Tryd.prog f args W fun e w' => ∃ (L n : Int) (A : Option Addr) (k c : Nat) (M : Option Addr) (km cm : Nat) (F : Option Addr) (kf cf : Nat), e = .returned (.tuple #[.agg #[.int .i64 L, .int .i64 n, .slice A k c, .slice M km cm, .slice F kf cf], E]) ∧
    Hid (NfaAt w' w'.heap.size (.agg #[.int .i64 L, .int .i64 n, .slice A k c, .slice M km cm, .slice F kf cf]) a) ∧ Below W.heap.size W w'
theorem givesN_of {f : Nat} {args : Array Value} {W : World} {E : Value} {p : Nfa × Nat} (h : Calls Tryd.prog f args W fun e w' => Hid (∃ x, e = .returned (.tuple #[x, errV p.2]) ∧ NfaAt w' w'.heap.size x p.1) ∧ Below W.heap.size W w') {a : Nfa} (hE : errV p.2 = E) (ha : p.1 = a) : GivesN f args W E a := by
  subst hE
  subst ha
  refine h.mono fun e w' ⟨he, hb⟩ => ?_
  obtain ⟨x, h1, h2⟩ := he.out
  obtain ⟨L, n, A, k, c, M, km, cm, F, kf, cf, rfl⟩ := h2.form
  exact ⟨L, n, A, k, c, M, km, cm, F, kf, cf, h1, h2, hb⟩
theorem nmir_gives {W : World} {v : Value} {a : Nfa} (h : NfaAt W W.heap.size v a) {E : Value} {r : Nfa} {k : Nat} (hr : mirOut a = (r, k)) (hE : errV k = E) : GivesN 10 #[v] W E r :=
  givesN_of (mirror_any v a W h) (by rw [hr]; exact hE) (by rw [hr])
theorem nof_gives {W : World} {v : Value} {d : Aut} (h : DfaAt W W.heap.size v d) {E : Value} {r : Nfa} {k : Nat} (hr : ofOut d = (r, k)) (hE : errV k = E) : GivesN 18 #[v] W E r :=
  givesN_of ((of_any v d W h).mono fun e w' ⟨he, hb⟩ => ⟨by obtain ⟨x, h1, h2⟩ := he.out; exact ⟨x, h1, h2.at_⟩, hb⟩) (by rw [hr]; exact hE) (by rw [hr])
theorem nmake_gives {W : World} {v : Value} {a : Nfa} (h : NfaAt W W.heap.size v a) {E : Value} {r : Aut} {k : Nat} (hr : makeOut a = (r, k)) (hE : errV k = E) : Gives 14 #[v] W E r :=
  gives_of (make_any v a W h) (by rw [hr]; exact hE) (by rw [hr])
end Go.Proofs.YtlhhhdgkdbplmaaDoor.Nf
