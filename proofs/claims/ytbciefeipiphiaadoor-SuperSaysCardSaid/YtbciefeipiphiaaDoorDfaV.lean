/- The walk of stilewardsame.Bools. The walks of package stilewardsame's Bools, Rows and Dfa. The walks of package dfa's Both, Either and But. The contracts of package dfa as the laws' walks use them; automata in variables of their own. -/
import Derived.Test.YtbciefeipiphiaaDoorBoolT
import Derived.Test.YtbciefeipiphiaaDoorWordL
import Derived.Deep.QuietTactic
import Derived.BigQuiet
import Derived.Test.YtbciefeipiphiaaDoorDfaA
import Derived.Test.YtbciefeipiphiaaDoorDfaW
import Derived.Test.YtbciefeipiphiaaDoorDfaR
import Derived.Test.YtbciefeipiphiaaDoorDfaM

namespace Go.Proofs.YtbciefeipiphiaaDoor.Df
open Go.RowKit Go.IntWalk Go.Proofs.YtbciefeipiphiaaDoor.Wd

theorem takeB_step {α : Type} {x y : List α} {k : Nat} (h : x.take k = y.take k) (hx : k < x.length) (hy : k < y.length) (he : x[k] = y[k]) : x.take (k + 1) = y.take (k + 1) := by
  rw [← List.take_append_getElem hx, ← List.take_append_getElem hy, h, he]
theorem neB_at {α : Type} {x y : List α} {k : Nat} (hx : k < x.length) (hy : k < y.length) (he : ¬ x[k] = y[k]) : x ≠ y := by
  rintro rfl; exact he rfl
set_option maxRecDepth 100000 in
set_option maxHeartbeats 1000000 in
theorem bools_any (a b : Option Addr) (ca cb : Nat) (x y : List Bool) (w : World) (hx : BoolsAt w w.heap.size a x) (hy : BoolsAt w w.heap.size b y) (lx : x.length ≤ 140737488355328) (ly : y.length ≤ 140737488355328) (r : Bool) (hr : r = decide (x = y)) :
    Calls Tryd.prog 34 #[.slice a x.length ca, .slice b y.length cb] w fun e w' => e = .returned (.bool r) ∧ ∃ n, w' = w.drewN n := by
  have HR := Lib.hid hr
  clear hr
  by_cases hl : x.length = y.length
  · have HX := Lib.hid hx
    have HY := Lib.hid hy
    have HL := Lib.hid hl
    have hle : x.length ≤ y.length := by omega
    have hl1 := int_eq' (show (x.length : Int) = (y.length : Int) by omega)
    clear hx hy hl
    go_enter Tryd.func34, Tryd.ntmps34
    go_wp2
    go_loopw [5] (fun i wr => ∃ (k n : Nat), k ≤ x.length ∧ i = .int .i64 k ∧ wr = w.drewN n ∧ Hid (x.take k = y.take k)) (fun i _ => x.length - (intOf i).toNat)
    case atStart => exact ⟨0, 0, by omega, rfl, rfl, by simp [Hid]⟩
    case round =>
      obtain ⟨k, n, hk, rfl, rfl, HE⟩ := hrel
      by_cases hlt : k < x.length
      · have hlt2 : k < y.length := by omega
        obtain ⟨ad, rfl, hadb, hcell, _⟩ := HX.out.at_ (List.getElem?_eq_getElem hlt)
        obtain ⟨ad2, rfl, hadb2, hcell2, _⟩ := HY.out.at_ (List.getElem?_eq_getElem hlt2)
        by_cases he : x[k] = y[k]
        · have HN := Lib.hid (takeB_step HE.out hlt hlt2 he)
          have he1 : (x[k] != y[k]) = false := by rw [he]; exact bne_self_eq_false _
          rw [← he] at hcell2
          rw [← he] at he1
          clear he
          generalize x[k] = z1 at *
          go_wp2
          go_quiet (fail)
          go_wp2
          go_roundw
          case rel => exact ⟨k + 1, _, by omega, by go_num, rfl, HN⟩
          case measure => simp [intOf]; omega
        · obtain rfl : r = false := by rw [HR.out]; exact decide_eq_false (neB_at hlt hlt2 he)
          have he1 : (x[k] != y[k]) = true := bne_iff_ne.2 he
          clear he
          generalize x[k] = z1 at *
          generalize y[k] = z2 at *
          have he2 : (!z1 == z2) = true := by cases z1 <;> cases z2 <;> simp_all
          go_wp2
          go_quiet (fail)
          go_wp2
          go_ret
          exact ⟨rfl, _, World.drewN_drewN _ _ _⟩
      · obtain rfl : r = true := by
          rw [HR.out]
          refine decide_eq_true ?_
          have := HE.out
          rw [List.take_of_length_le (by omega), List.take_of_length_le (by have := HL.out; omega)] at this
          exact this
        go_wp2
        go_ret
        exact ⟨rfl, _, rfl⟩
  · obtain rfl : r = false := by rw [HR.out]; exact decide_eq_false (fun e => hl (by rw [e]))
    have hl1 := int_ne' (show (x.length : Int) ≠ (y.length : Int) by omega)
    go_enter Tryd.func34, Tryd.ntmps34
    go_wp2
    go_ret
    exact ⟨rfl, 0, rfl⟩
end Go.Proofs.YtbciefeipiphiaaDoor.Df

namespace Go.Proofs.YtbciefeipiphiaaDoor.Df
open Go.RowKit Go.IntWalk Go.Proofs.YtbciefeipiphiaaDoor.Wd
set_option maxRecDepth 100000 in
set_option maxHeartbeats 1000000 in
theorem rows_any (a b : Option Addr) (ca cb : Nat) (x y : List (List Int)) (w : World) (hx : RowsAt w w.heap.size a x) (hy : RowsAt w w.heap.size b y) (lx : x.length ≤ 140737488355328) (ly : y.length ≤ 140737488355328)
    (rx : ∀ r ∈ x, r.length ≤ 140737488355328) (ry : ∀ r ∈ y, r.length ≤ 140737488355328) (r : Bool) (hr : r = decide (x = y)) :
    Calls Tryd.prog 33 #[.slice a x.length ca, .slice b y.length cb] w fun e w' => e = .returned (.bool r) ∧ ∃ n, w' = w.drewN n := by
  have HR := Lib.hid hr
  clear hr
  by_cases hl : x.length = y.length
  · have HX := Lib.hid hx
    have HY := Lib.hid hy
    have HL := Lib.hid hl
    have HRX := Lib.hid rx
    have HRY := Lib.hid ry
    have hle : x.length ≤ y.length := by omega
    have hl1 := int_eq' (show (x.length : Int) = (y.length : Int) by omega)
    clear hx hy hl rx ry
    go_enter Tryd.func33, Tryd.ntmps33
    go_wp2
    go_loopw [5] (fun i wr => ∃ (k : Nat), k ≤ x.length ∧ i = .int .i64 k ∧ Hid (∃ n, wr = w.drewN n) ∧ Hid (x.take k = y.take k)) (fun i _ => x.length - (intOf i).toNat)
    case atStart => exact ⟨0, by omega, rfl, ⟨0, rfl⟩, by simp [Hid]⟩
    case round =>
      obtain ⟨k, hk, rfl, HD, HE⟩ := hrel
      have hbw : Below w.heap.size w wr := by
        obtain ⟨n, rfl⟩ := HD.out
        exact below_drewN (Below.refl _ _) n
      by_cases hlt : k < x.length
      · have hlt2 : k < y.length := by omega
        obtain ⟨ad, A1, c1, rfl, hadb, hcell, _, _, hi1⟩ := (HX.out.on hbw) k _ (List.getElem?_eq_getElem hlt)
        obtain ⟨ad2, A2, c2, rfl, hadb2, hcell2, _, _, hi2⟩ := (HY.out.on hbw) k _ (List.getElem?_eq_getElem hlt2)
        have HC := Lib.hid (fun m => ints_any A1 A2 c1 c2 x[k] y[k] (wr.drewN m) (hi1.on (below_drewN (Below.refl _ _) m)) (hi2.on (below_drewN (Below.refl _ _) m)) (HRX.out _ (List.getElem_mem hlt)) (HRY.out _ (List.getElem_mem hlt2)))
        clear hi1 hi2 hbw
        by_cases he : x[k] = y[k]
        · have HN := Lib.hid (takeB_step HE.out hlt hlt2 he)
          have HC2 : Hid (∀ m, Calls Tryd.prog 11 #[.slice A1 x[k].length c1, .slice A2 y[k].length c2] (wr.drewN m) fun e w' => e = .returned (.bool true) ∧ ∃ n, w' = wr.drewN n) := fun m => (HC.out m).mono fun e w' ⟨h1, n, h2⟩ => ⟨by rw [h1.out, decide_eq_true he], _, h2.trans (World.drewN_drewN _ _ _)⟩
          clear he HC
          generalize x[k] = z1 at *
          generalize y[k] = z2 at *
          go_wp2
          go_quiet ((go_at_call 11; with_reducible exact HC2.out _))
          have HD2 : Hid (∃ n, wr.drewN nq = w.drewN n) := by
            obtain ⟨n, rfl⟩ := HD.out
            exact ⟨_, World.drewN_drewN _ _ _⟩
          clear HD HC2 hcell hcell2
          generalize wr.drewN nq = wq at *
          go_wp2
          go_roundw
          case rel => exact ⟨k + 1, by omega, by go_num, HD2, HN⟩
          case measure => simp [intOf]; omega
        · obtain rfl : r = false := by rw [HR.out]; exact decide_eq_false (neB_at hlt hlt2 he)
          have HC2 : Hid (∀ m, Calls Tryd.prog 11 #[.slice A1 x[k].length c1, .slice A2 y[k].length c2] (wr.drewN m) fun e w' => e = .returned (.bool false) ∧ ∃ n, w' = wr.drewN n) := fun m => (HC.out m).mono fun e w' ⟨h1, n, h2⟩ => ⟨by rw [h1.out, decide_eq_false he], _, h2.trans (World.drewN_drewN _ _ _)⟩
          clear he HC
          generalize x[k] = z1 at *
          generalize y[k] = z2 at *
          go_wp2
          go_quiet ((go_at_call 11; with_reducible exact HC2.out _))
          have HD2 : Hid (∃ n, wr.drewN nq = w.drewN n) := by
            obtain ⟨n, rfl⟩ := HD.out
            exact ⟨_, World.drewN_drewN _ _ _⟩
          clear HD HC2 hcell hcell2
          generalize wr.drewN nq = wq at *
          go_wp2
          go_ret
          exact ⟨rfl, HD2.out⟩
      · obtain rfl : r = true := by
          rw [HR.out]
          refine decide_eq_true ?_
          have := HE.out
          rw [List.take_of_length_le (by omega), List.take_of_length_le (by have := HL.out; omega)] at this
          exact this
        go_wp2
        go_ret
        exact ⟨rfl, HD.out⟩
  · obtain rfl : r = false := by rw [HR.out]; exact decide_eq_false (fun e => hl (by rw [e]))
    have hl1 := int_ne' (show (x.length : Int) ≠ (y.length : Int) by omega)
    go_enter Tryd.func33, Tryd.ntmps33
    go_wp2
    go_ret
    exact ⟨rfl, 0, rfl⟩
/-! ### automata -/
structure Lite (d : Aut) : Prop where
  n : d.next.length ≤ 40
  f : d.fin.length ≤ 40
  r : ∀ r ∈ d.next, r.length ≤ 40
theorem Good.lite {d : Aut} (g : Good d) : Lite d := ⟨g.n40, by rw [g.fin]; exact g.n40, fun r hr => by have := g.row r hr; have := g.l6; omega⟩
theorem lite_zero : Lite zeroA := ⟨by simp [zeroA], by simp [zeroA], by simp [zeroA]⟩
theorem aut_ext {a b : Aut} (h1 : a.L = b.L) (h2 : a.s = b.s) (h3 : a.next = b.next) (h4 : a.fin = b.fin) : a = b := by
  cases a; cases b; simp_all
set_option maxRecDepth 100000 in
set_option maxHeartbeats 1000000 in
theorem dsame_any (v z : Value) (a b : Aut) (w : World) (ha : DfaAt w w.heap.size v a) (hb : DfaAt w w.heap.size z b) (la : Lite a) (lb : Lite b) (r : Bool) (hr : r = true ↔ a = b) :
    Calls Tryd.prog 13 #[v, z] w fun e w' => e = .returned (.bool r) ∧ Below w.heap.size w w' := by
  obtain ⟨L, s, A, c, F, cf, rfl, ha⟩ := ha
  obtain ⟨M, t, C, d, G, cg, rfl, hb⟩ := hb
  obtain ⟨wx, hwx, hBx, hX, hd1⟩ := box_dfa w ha
  obtain ⟨w1, hw1, hB1, hY, hd2⟩ := box_dfa wx (hb.on hBx)
  have hs1 : wx.heap.size = w.heap.size + 1 := by rw [hwx]; simp
  rw [hs1] at hY
  have HB := Lib.hid (hBx.trans (hB1.mono hBx.size))
  have hX := hX.on hB1
  have HW : Hid (w1 = (w.alloc (.cells #[.int .i64 L, .int .i64 s, .slice A a.next.length c, .slice F a.fin.length cf] 25)).alloc (.cells #[.int .i64 M, .int .i64 t, .slice C b.next.length d, .slice G b.fin.length cg] 25)) := by
    rw [← hwx]; exact hw1
  have HN : Hid (∀ m, Calls Tryd.prog 33 #[.slice A a.next.length c, .slice C b.next.length d] (w1.drewN m) fun e w' => e = .returned (.bool (decide (a.next = b.next))) ∧ ∃ n, w' = w1.drewN n) := fun m =>
    (rows_any A C c d a.next b.next (w1.drewN m) ((hd1.on hB1).rows.on (below_drewN (Below.refl _ _) m)) (hd2.rows.on (below_drewN (Below.refl _ _) m)) (by have := la.n; omega) (by have := lb.n; omega) (fun r hr => by have := la.r r hr; omega) (fun r hr => by have := lb.r r hr; omega) _ rfl).mono
      fun e w' ⟨h1, n, h2⟩ => ⟨h1, _, h2.trans (World.drewN_drewN _ _ _)⟩
  have HF : Hid (∀ m, Calls Tryd.prog 34 #[.slice F a.fin.length cf, .slice G b.fin.length cg] (w1.drewN m) fun e w' => e = .returned (.bool (decide (a.fin = b.fin))) ∧ ∃ n, w' = w1.drewN n) := fun m =>
    (bools_any F G cf cg a.fin b.fin (w1.drewN m) ((hd1.on hB1).fins.on (below_drewN (Below.refl _ _) m)) (hd2.fins.on (below_drewN (Below.refl _ _) m)) (by have := la.f; omega) (by have := lb.f; omega) _ rfl).mono
      fun e w' ⟨h1, n, h2⟩ => ⟨h1, _, h2.trans (World.drewN_drewN _ _ _)⟩
  have HR : Hid (r = true ↔ L = M ∧ s = t ∧ decide (a.next = b.next) = true ∧ decide (a.fin = b.fin) = true) := by
    refine hr.trans ⟨fun h => ?_, fun ⟨h1, h2, h3, h4⟩ => ?_⟩
    · subst h; exact ⟨ha.eL.symm.trans hb.eL, ha.es.symm.trans hb.es, decide_eq_true rfl, decide_eq_true rfl⟩
    · exact aut_ext (ha.eL.trans (h1.trans hb.eL.symm)) (ha.es.trans (h2.trans hb.es.symm)) (of_decide_eq_true h3) (of_decide_eq_true h4)
  have hc0 := hX.c0
  have hc1 := hX.c1
  have hc2 := hX.c2
  have hc3 := hX.c3
  have hd0 := hY.c0
  have hd1' := hY.c1
  have hd2' := hY.c2
  have hd3 := hY.c3
  clear hwx hw1 hBx hB1 hX hY hd1 hd2 hs1 ha hb la lb hr
  generalize decide (a.next = b.next) = x at *
  generalize decide (a.fin = b.fin) = y at *
  generalize a.next.length = n1 at *
  generalize a.fin.length = n2 at *
  generalize b.next.length = n3 at *
  generalize b.fin.length = n4 at *
  by_cases h1 : L = M
  · subst h1
    by_cases h2 : s = t
    · subst h2
      rcases x with _ | _
      · obtain rfl : r = false := by
          cases r
          · rfl
          · simpa using (HR.out.1 rfl).2.2.1
        go_enter Tryd.func13, Tryd.ntmps13
        go_wp2_with fail
        rw [← HW.out]
        refine (HN.out 0).mono ?_
        rintro e w2 ⟨rfl, n5, rfl⟩
        go_wp2
        go_ret
        exact ⟨rfl, below_drewN HB.out _⟩
      · rcases y with _ | _
        · obtain rfl : r = false := by
            cases r
            · rfl
            · simpa using (HR.out.1 rfl).2.2.2
          go_enter Tryd.func13, Tryd.ntmps13
          go_wp2_with fail
          rw [← HW.out]
          refine (HN.out 0).mono ?_
          rintro e w2 ⟨rfl, n5, rfl⟩
          go_wp2_with fail
          refine (HF.out n5).mono ?_
          rintro e w2 ⟨rfl, n6, rfl⟩
          go_wp2
          go_ret
          exact ⟨rfl, below_drewN HB.out _⟩
        · obtain rfl : r = true := HR.out.2 ⟨rfl, rfl, rfl, rfl⟩
          go_enter Tryd.func13, Tryd.ntmps13
          go_wp2_with fail
          rw [← HW.out]
          refine (HN.out 0).mono ?_
          rintro e w2 ⟨rfl, n5, rfl⟩
          go_wp2_with fail
          refine (HF.out n5).mono ?_
          rintro e w2 ⟨rfl, n6, rfl⟩
          go_wp2
          go_ret
          exact ⟨rfl, below_drewN HB.out _⟩
    · obtain rfl : r = false := by
        cases r
        · rfl
        · exact absurd (HR.out.1 rfl).2.1 h2
      have he := int_ne h2
      clear h2
      go_enter Tryd.func13, Tryd.ntmps13
      go_wp2
      go_ret
      exact ⟨rfl, by rw [← HW.out]; exact HB.out⟩
  · obtain rfl : r = false := by
      cases r
      · rfl
      · exact absurd (HR.out.1 rfl).1 h1
    have he := int_ne h1
    clear h1
    go_enter Tryd.func13, Tryd.ntmps13
    go_wp2
    go_ret
    exact ⟨rfl, by rw [← HW.out]; exact HB.out⟩
end Go.Proofs.YtbciefeipiphiaaDoor.Df

namespace Go.Proofs.YtbciefeipiphiaaDoor.Df
open Go.RowKit Go.IntWalk Go.Proofs.YtbciefeipiphiaaDoor.Wd Go.Proofs.YtbciefeipiphiaaDoor.Wo

set_option maxRecDepth 100000 in
theorem both1_any (x y : Bool) (w : World) : Calls Tryd.prog 37 #[.bool x, .bool y] w fun e w' => e = .returned (.bool ((fun x y => x && y) x y)) ∧ w' = w := by
  rcases x with _ | _ <;> rcases y with _ | _
  all_goals
    go_enter Tryd.func37, Tryd.ntmps37
    go_wp2
    go_ret
    exact ⟨rfl, rfl⟩
theorem both1_call (args : Array Value) (W : World) : (callFunc 37 args).run Tryd.prog W = .ok (.enter 37 args) W := by
  have hn : ¬ Tryd.f37.name = "runtime.NumGoroutine" := of_decide_eq_false (by kernel_rfl)
  have hb : ¬ Tryd.f37.body = none := fun h => by
    have : Tryd.f37.body.isSome = true := by kernel_rfl
    rw [h] at this; cases this
  simp [callFunc, go_sem, hn, hb]
def bothF : Bool → Bool → Bool := fun x y => x && y
end Go.Proofs.YtbciefeipiphiaaDoor.Df

namespace Go.Proofs.YtbciefeipiphiaaDoor.Df
open Go.RowKit Go.IntWalk Go.Proofs.YtbciefeipiphiaaDoor.Wd Go.Proofs.YtbciefeipiphiaaDoor.Wo

/-- A variable that holds an automaton. -/
structure Var (w : World) (g : Nat) (L s : Int) (A : Option Addr) (n c : Nat) (F : Option Addr) (m cf : Nat) (d : Aut) : Prop where
  box : Boxed w g L s A n c F m cf
  at_ : DfaAt w w.heap.size (.agg #[.int .i64 L, .int .i64 s, .slice A n c, .slice F m cf]) d
theorem Var.on {w w' : World} {g : Nat} {L s : Int} {A : Option Addr} {n c : Nat} {F : Option Addr} {m cf : Nat} {d : Aut} (h : Var w g L s A n c F m cf d) (hb : Below w.heap.size w w') : Var w' g L s A n c F m cf d := ⟨h.box.on hb, h.at_.on hb⟩
theorem DfaAt.form {w : World} {B : Nat} {v : Value} {d : Aut} (h : DfaAt w B v d) : ∃ L s A n c F m cf, v = .agg #[.int .i64 L, .int .i64 s, .slice A n c, .slice F m cf] := by
  obtain ⟨L, s, A, c, F, cf, rfl, _⟩ := h
  exact ⟨_, _, _, _, _, _, _, _, rfl⟩
theorem DfaAt.eqs {w : World} {B : Nat} {L s : Int} {A : Option Addr} {n c : Nat} {F : Option Addr} {m cf : Nat} {d : Aut} (h : DfaAt w B (.agg #[.int .i64 L, .int .i64 s, .slice A n c, .slice F m cf]) d) : d.L = L ∧ d.s = s ∧ d.next.length = n ∧ d.fin.length = m := by
  obtain ⟨L', s', A', c', F', cf', e, h1⟩ := h
  simp only [Value.agg.injEq, Array.mk.injEq, List.cons.injEq, Value.int.injEq, Value.slice.injEq, true_and, and_true] at e
  obtain ⟨rfl, rfl, ⟨_, rfl, _⟩, _, rfl, _⟩ := e
  exact ⟨h1.eL, h1.es, rfl, rfl⟩
theorem var_new (w : World) {L s : Int} {A : Option Addr} {n c : Nat} {F : Option Addr} {m cf : Nat} {d : Aut} (h : DfaAt w w.heap.size (.agg #[.int .i64 L, .int .i64 s, .slice A n c, .slice F m cf]) d) :
    ∃ w1, w1 = w.alloc (.cells #[.int .i64 L, .int .i64 s, .slice A n c, .slice F m cf] 25) ∧ Below w.heap.size w w1 ∧ Var w1 w.heap.size L s A n c F m cf d :=
  ⟨_, rfl, below_alloc _ _, boxed_new _ _ _ _ _ _ _ _ _ _, h.on (below_alloc _ _)⟩
theorem vars_two (w : World) {L s : Int} {A : Option Addr} {n c : Nat} {F : Option Addr} {m cf : Nat} {a : Aut} {M t : Int} {C : Option Addr} {k d : Nat} {G : Option Addr} {l cg : Nat} {b : Aut}
    (ha : DfaAt w w.heap.size (.agg #[.int .i64 L, .int .i64 s, .slice A n c, .slice F m cf]) a) (hb : DfaAt w w.heap.size (.agg #[.int .i64 M, .int .i64 t, .slice C k d, .slice G l cg]) b) :
    ∃ w1, w1 = (w.alloc (.cells #[.int .i64 L, .int .i64 s, .slice A n c, .slice F m cf] 25)).alloc (.cells #[.int .i64 M, .int .i64 t, .slice C k d, .slice G l cg] 25) ∧
      Below w.heap.size w w1 ∧ Var w1 w.heap.size L s A n c F m cf a ∧ Var w1 (w.heap.size + 1) M t C k d G l cg b := by
  obtain ⟨w1, e1, h1, v1⟩ := var_new w ha
  obtain ⟨w2, e2, h2, v2⟩ := var_new w1 (hb.on h1)
  have hs : w1.heap.size = w.heap.size + 1 := by rw [e1]; simp
  rw [hs] at v2
  exact ⟨w2, by rw [e2, e1], h1.trans (h2.mono h1.size), v1.on h2, v2⟩
/-- What a function of automata gives: an automaton and an error. -/
def Gives (f : Nat) (args : Array Value) (W : World) (E : Value) (d : Aut) : Prop :=
  Calls Tryd.prog f args W fun e w' => ∃ L s A n c F m cf, e = .returned (.tuple #[.agg #[.int .i64 L, .int .i64 s, .slice A n c, .slice F m cf], E]) ∧ Hid (DfaAt w' w'.heap.size (.agg #[.int .i64 L, .int .i64 s, .slice A n c, .slice F m cf]) d) ∧ Below W.heap.size W w'
theorem errV_bad {k : Nat} (h : k ≠ 0) : ∃ x, errV k = errI x := by
  rcases k with _ | k
  · exact absurd rfl h
  · exact ⟨_, rfl⟩
theorem same_gives {W : World} {v z : Value} {a b : Aut} (h : DfaAt W W.heap.size v a) (h2 : DfaAt W W.heap.size z b) (la : Lite a) (e : a = b) :
    Calls Tryd.prog 13 #[v, z] W fun e w' => e = .returned (.bool true) ∧ Below W.heap.size W w' :=
  dsame_any v z a b W h h2 la (e ▸ la) true ⟨fun _ => e, fun _ => rfl⟩
end Go.Proofs.YtbciefeipiphiaaDoor.Df
