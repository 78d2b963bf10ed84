/-
  The statement DfaPairsCardSaid of this seat, proved: for every input the law returns true and its arguments read behind the call as before. Conditions: none but the row's own (each argument within the reach; the listed variable as the program lays it, tied by the given tie).
-/
import Derived.Test.YtloihkoamccacaaDoorRows
import Derived.Test.YtloihkoamccacaaDoorCards
import Derived.Test.YtloihkoamccacaaDoorTie
import Derived.SevenTiedAt
import Derived.LaidLaws
import Derived.LaidHandle
import Derived.LaidMore
import Derived.Lay
import Derived.MakeChecks
import Derived.Stop.Joined
import Derived.JoinedOf
import Derived.RowKit
import Derived.RowKitTokens
import Derived.ChangeSame
import Derived.ChangeVars
import Derived.Test.YtloihkoamccacaaDoorWords
import Derived.WalkKit
import Derived.ProofKit
import Derived.OpenShut
import Derived.ShutString
import Derived.ChangeOld
import Derived.Below
import Derived.SizedLaws
import Derived.Lib.Hide
import Derived.Test.YtloihkoamccacaaDoorDfaX
import Derived.Test.YtloihkoamccacaaDoorSays
namespace Go.Proofs.YtloihkoamccacaaDoor.dfaPairs
open Go.ChangeShapes Go.WideShapes Go.ChangeAt Go.RowKit Go.IntWalk Go.Proofs.YtloihkoamccacaaDoor.Wd
open Go.ChangeMaps (open_string shut_string)
set_option linter.unusedVariables false

theorem own : ownKnob Tryd.prog.godebug = none := by kernel_rfl
theorem laidOut : laidOutB Tryd.prog = true := by kernel_rfl
theorem et : Tryd.prog.globalNamed "errors.errorType" = some 0 := by kernel_rfl
theorem rt : (Tryd.prog.cutTypes.find? (·.1 == "internal/reflectlite.rtype")).map (·.2) = some 106 := by kernel_rfl
theorem oneRow : ((List.range 155).filter fun t => Tryd.prog.rowNamed t [101, 114, 114, 111, 114]) = [29] := by kernel_rfl
theorem size : Tryd.prog.types.size = 155 := by kernel_rfl
/-- What the condition gives a walk: the variable's one cell. -/
theorem handle_of_laid {w : World} (h : laidMetH Tryd.prog [("errors.errorType", Rows.laid_errors_errorType)] w) : w.cell? ⟨0, 0, none⟩ = some (.iface 106 (.agg #[.pointer (some ⟨1, 29, none⟩)])) := by
  have h' : laidMet Tryd.prog [] w ∧ handlesMet Tryd.prog [("errors.errorType", Rows.laid_errors_errorType)] w := h
  obtain ⟨name, u, ty, e1, e2, e3, e4, e5⟩ := h'.2 _ (List.mem_singleton.2 rfl)
  have en : name = [101, 114, 114, 111, 114] := (Option.some.inj e1).symm
  subst en
  obtain rfl := Option.some.inj (rt.symm.trans e2)
  have hm : ty ∈ (List.range 155).filter fun t => Tryd.prog.rowNamed t [101, 114, 114, 111, 114] := List.mem_filter.2 ⟨List.mem_range.2 (by rw [← size]; exact e3), e4⟩
  rw [oneRow] at hm
  obtain rfl := List.mem_singleton.1 hm
  have hh : typeHandle Tryd.prog 29 = .pointer (some ⟨1, 29, none⟩) := by kernel_rfl
  rw [hh] at e5
  simpa using World.var?_cell et e5 0
/-- A world that meets the condition. -/
noncomputable def laidWorld (os : Os) : World :=
  let w0 := World.holding Tryd.prog os ⟨#[], #[], []⟩
  { w0 with heap := w0.heap.modify 0 fun
      | .cells _ t frozen => .cells #[.iface 106 (.agg #[.pointer (some ⟨1, 29, none⟩)])] t frozen
      | o => o }
theorem laidWorld_met (os : Os) (args : Array Value) : laidMetH Tryd.prog [("errors.errorType", Rows.laid_errors_errorType)] ((laidWorld os).forCall (fun _ _ => 0) ⟨#[], args, []⟩).memory :=
  laidMetH_of_parts (laidMet_nil _ _) (by kernel_rfl)
open Go.Proofs.YtloihkoamccacaaDoor.Wo Go.Proofs.YtloihkoamccacaaDoor.Er Go.Proofs.YtloihkoamccacaaDoor.Df

set_option maxRecDepth 100000 in
set_option maxHeartbeats 4000000 in
theorem walk (v0 : Value) (d0 : Df.Aut) (v1 : Value) (d1 : Df.Aut) (w : World) (h0 : Df.DfaAt w w.heap.size v0 d0) (h1 : Df.DfaAt w w.heap.size v1 d1) (hg : w.cell? ⟨0, 0, none⟩ = some (.iface 106 (.agg #[.pointer (some ⟨1, 29, none⟩)]))) :
    Calls Tryd.prog 3 #[v0, v1] w fun e w' => e = .returned (.bool true) ∧ Below w.heap.size w w' := by
  obtain ⟨L0, s0, A0, n0, c0, F0, m0, k0, rfl⟩ := h0.form
  obtain ⟨L1, s1, A1, n1, c1, F1, m1, k1, rfl⟩ := h1.form
  obtain ⟨u0, hu0, hb0, VA0, VB0⟩ := vars_two w h0 h1
  have VA := Lib.hid VA0
  have VB := Lib.hid VB0
  have B := Lib.hid hb0
  have W0 := Lib.hid hu0
  have hsz : u0.heap.size = w.heap.size + 1 + 1 := by rw [hu0]; simp
  have HP0 := Lib.hid (fun W v z (h : DfaAt W W.heap.size v d0) (h2 : DfaAt W W.heap.size z d1) => rpair_any 0 (.inl rfl) v z d0 d1 W h h2)
  have HP1 := Lib.hid (fun W v z (h : DfaAt W W.heap.size v d0) (h2 : DfaAt W W.heap.size z d1) => rpair_any 1 (.inr (.inl rfl)) v z d0 d1 W h h2)
  have HP2 := Lib.hid (fun W v z (h : DfaAt W W.heap.size v d0) (h2 : DfaAt W W.heap.size z d1) => rpair_any 2 (.inr (.inr rfl)) v z d0 d1 W h h2)
  rw [kind0] at HP0
  rw [kind1] at HP1
  rw [kind2] at HP2
  have HQ0 := Lib.hid (fun W v z (h : DfaAt W W.heap.size v d0) (h2 : DfaAt W W.heap.size z d1) => both_any v z d0 d1 W h h2)
  have HQ1 := Lib.hid (fun W v z (h : DfaAt W W.heap.size v d0) (h2 : DfaAt W W.heap.size z d1) => either_any v z d0 d1 W h h2)
  have HQ2 := Lib.hid (fun W v z (h : DfaAt W W.heap.size v d0) (h2 : DfaAt W W.heap.size z d1) => but_any v z d0 d1 W h h2)
  have HE0 := Lib.hid (fun W h => says (prodOut bothF d0 d1).2 hg W h)
  have HE1 := Lib.hid (fun W h => says (prodOut eitherF d0 d1).2 hg W h)
  have HE2 := Lib.hid (fun W h => says (prodOut butF d0 d1).2 hg W h)
  have HL0 := lite_prod bothF d0 d1
  have HL1 := lite_prod eitherF d0 d1
  have HL2 := lite_prod butF d0 d1
  have HS0 := Lib.hid (fun W v z (h : DfaAt W W.heap.size v (prodOut bothF d0 d1).1) (h2 : DfaAt W W.heap.size z (prodOut bothF d0 d1).1) => same_gives h h2 HL0 rfl)
  have HS1 := Lib.hid (fun W v z (h : DfaAt W W.heap.size v (prodOut eitherF d0 d1).1) (h2 : DfaAt W W.heap.size z (prodOut eitherF d0 d1).1) => same_gives h h2 HL1 rfl)
  have HS2 := Lib.hid (fun W v z (h : DfaAt W W.heap.size v (prodOut butF d0 d1).1) (h2 : DfaAt W W.heap.size z (prodOut butF d0 d1).1) => same_gives h h2 HL2 rfl)
  clear HL0 HL1 HL2
  have HD := Lib.hid (fun W v (h : DfaAt W W.heap.size v d0) => rdfa_any v d0 W h)
  have HN := Lib.hid (fun W v (h : DfaAt W W.heap.size v d0) => not_any v d0 W h)
  have HE3 := Lib.hid (fun W h => says (notOut d0).2 hg W h)
  have hlit : Lite (notOut d0).1 := by
    by_cases g : dchk d0 = 0
    · rw [notOut_ok (dchk_iff.1 g)]; exact (notA_good (dchk_iff.1 g)).lite
    · rw [notOut_bad g]; exact lite_zero
  have HS3 := Lib.hid (fun W v z (h : DfaAt W W.heap.size v (notOut d0).1) (h2 : DfaAt W W.heap.size z (notOut d0).1) => same_gives h h2 hlit rfl)
  clear hlit VA0 VB0 hb0 hu0 h0 h1 hg
  generalize prodOut bothF d0 d1 = P0 at *
  generalize prodOut eitherF d0 d1 = P1 at *
  generalize prodOut butF d0 d1 = P2 at *
  obtain ⟨a0, x0⟩ := P0
  obtain ⟨a1, x1⟩ := P1
  obtain ⟨a2, x2⟩ := P2
  simp only at HP0 HP1 HP2 HQ0 HQ1 HQ2 HE0 HE1 HE2 HS0 HS1 HS2
  generalize errV x0 = E0 at *
  generalize errV x1 = E1 at *
  generalize errV x2 = E2 at *
  generalize (x0 : Int) = y0 at *
  generalize (x1 : Int) = y1 at *
  generalize (x2 : Int) = y2 at *
  rcases g1 : dchk d0 with _ | x
  · have HM := Lib.hid (fun W v (h : DfaAt W W.heap.size v d0) => rnot_any v d0 W h (dchk_iff.1 g1))
    rw [notOut_ok (dchk_iff.1 g1)] at HN HE3 HS3
    rw [g1] at HD
    simp only at HN HE3 HS3
    have hnil : errV 0 = .nilIface := rfl
    rw [hnil] at HN HE3
    clear g1 hnil
    generalize notA d0 = N at *
    have BW : Hid (Below u0.heap.size u0 u0) := Below.refl _ _
    obtain ⟨p0, p1, p2, p3, p4⟩ := VA.out.box
    obtain ⟨q0, q1, q2, q3, q4⟩ := VB.out.box
    go_enter Tryd.func3, Tryd.ntmps3
    go_wp2_with fail
    rw [← W0.out]
    clear W0
    refine (HP0.out _ _ _ VA.out.at_ VB.out.at_).mono ?_
    rintro e v1 he
    obtain ⟨xx, rfl, ho1⟩ := he.out
    obtain ⟨nx, fx, Xa, Xn, Xc, Xf, Xm, Xk, rfl, rfl, rfl⟩ := ho1.form
    clear he HP0 p0 p1 p2 p3 p4 q0 q1 q2 q3 q4
    obtain ⟨w1, hw1⟩ : ∃ W, W = v1.alloc (.cells #[.int .i64 a0.L, .int .i64 a0.s, .slice Xa Xn Xc, .slice Xf Xm Xk] 25) := ⟨_, rfl⟩
    have hbw : Below u0.heap.size u0 v1 := ho1.below
    have hbw1 : Below u0.heap.size u0 w1 := hbw.trans (by rw [hw1]; exact (below_alloc _ _).mono hbw.size)
    have BW1 := Lib.hid hbw1
    have HW1 := Lib.hid hw1
    have HO1 := Lib.hid ho1
    obtain ⟨p0, p1, p2, p3, p4⟩ := (VA.out.on hbw).box
    obtain ⟨q0, q1, q2, q3, q4⟩ := (VB.out.on hbw).box
    clear hbw hbw1 hw1 ho1 BW
    go_wp2_with fail
    rw [← HW1.out]
    refine (HQ0.out _ _ _ (VA.out.on BW1.out).at_ (VB.out.on BW1.out).at_).mono ?_
    rintro e v2 he
    obtain ⟨xx, rfl, ho2⟩ := he.out
    obtain ⟨ny, fy, Ya, Yn, Yc, Yf, Ym, Yk, rfl, rfl, rfl⟩ := ho2.form
    clear he HQ0 p0 p1 p2 p3 p4 q0 q1 q2 q3 q4
    obtain ⟨w2, hw2⟩ : ∃ W, W = v2.alloc (.cells #[.int .i64 a0.L, .int .i64 a0.s, .slice Ya Yn Yc, .slice Yf Ym Yk] 25) := ⟨_, rfl⟩
    have T := Lib.hid (two_new HO1.out HW1.out ho2 hw2)
    have HW2 := Lib.hid hw2
    clear hw2 ho2 HO1 HW1 BW1
    generalize hgx : v1.heap.size = gx at *
    generalize hgy : v2.heap.size = gy at *
    have hgx0 : w.heap.size + 1 < gx := by have := T.out.lt; omega
    have hgy0 : w.heap.size + 1 < gy := by have := T.out.lt; omega
    have hxy := T.out.ne
    have hn1 : w.heap.size ≠ gx := by omega
    have hn2 : w.heap.size + 1 ≠ gx := by omega
    have hn3 : w.heap.size ≠ gy := by omega
    have hn4 : w.heap.size + 1 ≠ gy := by omega
    have hn5 : gx ≠ w.heap.size := by omega
    have hn6 : gx ≠ w.heap.size + 1 := by omega
    have hn7 : gy ≠ w.heap.size := by omega
    have hn8 : gy ≠ w.heap.size + 1 := by omega
    have hyx := hxy.symm
    clear hsz
    go_wp2_with fail
    rw [← HW2.out]
    clear HW2
    refine (HE0.out _ (B.out.trans (T.out.below.mono B.out.size))).mono ?_
    rintro e r1 ⟨rfl, hb⟩
    have T := Lib.hid (T.out.on hb)
    clear hb HE0
    obtain ⟨x0, xf0⟩ := T.out.cx (j := 0) rfl
    obtain ⟨x1, xf1⟩ := T.out.cx (j := 1) rfl
    obtain ⟨x2, xf2⟩ := T.out.cx (j := 2) rfl
    obtain ⟨x3, xf3⟩ := T.out.cx (j := 3) rfl
    obtain ⟨y0, yf0⟩ := T.out.cy (j := 0) rfl
    obtain ⟨y1, yf1⟩ := T.out.cy (j := 1) rfl
    obtain ⟨y2, yf2⟩ := T.out.cy (j := 2) rfl
    obtain ⟨y3, yf3⟩ := T.out.cy (j := 3) rfl
    obtain ⟨_, lx, _, ly⟩ := T.out.lt
    go_wp2_with fail
    refine (HS0.out _ _ _ T.out.x T.out.y).mono ?_
    rintro e r2 ⟨rfl, hb⟩
    clear lx ly x0 xf0 y0 yf0 x1 xf1 y1 yf1 x2 xf2 y2 yf2 x3 xf3 y3 yf3
    have T := Lib.hid (T.out.on hb)
    clear hb HS0
    obtain ⟨p0, p1, p2, p3, p4⟩ := (VA.out.on T.out.below).box
    obtain ⟨q0, q1, q2, q3, q4⟩ := (VB.out.on T.out.below).box
    go_wp2_with fail
    refine (HP1.out _ _ _ (VA.out.on T.out.below).at_ (VB.out.on T.out.below).at_).mono ?_
    rintro e r3 he
    obtain ⟨xx, rfl, ho⟩ := he.out
    obtain ⟨nz, fz, Za3, Zn3, Zc3, Zf3, Zm3, Zk3, rfl, rfl, rfl⟩ := ho.form
    clear he HP1 p0 p1 p2 p3 p4 q0 q1 q2 q3 q4
    have T2 := Lib.hid (T.out.on ho.below)
    obtain ⟨x0, xf0⟩ := T2.out.cx (j := 0) rfl
    obtain ⟨x1, xf1⟩ := T2.out.cx (j := 1) rfl
    obtain ⟨x2, xf2⟩ := T2.out.cx (j := 2) rfl
    obtain ⟨x3, xf3⟩ := T2.out.cx (j := 3) rfl
    obtain ⟨_, lx, _, ly⟩ := T2.out.lt
    obtain ⟨p0, p1, p2, p3, p4⟩ := (VA.out.on T2.out.below).box
    obtain ⟨q0, q1, q2, q3, q4⟩ := (VB.out.on T2.out.below).box
    obtain ⟨w3, hw3, T3⟩ : ∃ W, W = (((r3.setCell ⟨gx, 0, none⟩ (.int .i64 a1.L)).setCell ⟨gx, 1, none⟩ (.int .i64 a1.s)).setCell ⟨gx, 2, none⟩ (.slice Za3 Zn3 Zc3)).setCell ⟨gx, 3, none⟩ (.slice Zf3 Zm3 Zk3) ∧ Two u0 W gx gy _ _ _ _ _ _ _ _ _ _ := ⟨_, rfl, T.out.setx ho rfl⟩
    have HW3 := Lib.hid hw3
    have T := Lib.hid T3
    clear T2 T3 hw3 ho
    go_wp2_with fail
    rw [← HW3.out]
    clear HW3
    clear lx ly p0 p1 p2 p3 p4 q0 q1 q2 q3 q4 x0 xf0 x1 xf1 x2 xf2 x3 xf3
    refine (HQ1.out _ _ _ (VA.out.on T.out.below).at_ (VB.out.on T.out.below).at_).mono ?_
    rintro e r4 he
    obtain ⟨xx, rfl, ho⟩ := he.out
    obtain ⟨nz, fz, Za4, Zn4, Zc4, Zf4, Zm4, Zk4, rfl, rfl, rfl⟩ := ho.form
    clear he HQ1
    have T2 := Lib.hid (T.out.on ho.below)
    obtain ⟨x0, xf0⟩ := T2.out.cy (j := 0) rfl
    obtain ⟨x1, xf1⟩ := T2.out.cy (j := 1) rfl
    obtain ⟨x2, xf2⟩ := T2.out.cy (j := 2) rfl
    obtain ⟨x3, xf3⟩ := T2.out.cy (j := 3) rfl
    obtain ⟨_, lx, _, ly⟩ := T2.out.lt
    obtain ⟨p0, p1, p2, p3, p4⟩ := (VA.out.on T2.out.below).box
    obtain ⟨q0, q1, q2, q3, q4⟩ := (VB.out.on T2.out.below).box
    obtain ⟨w4, hw4, T3⟩ : ∃ W, W = (((r4.setCell ⟨gy, 0, none⟩ (.int .i64 a1.L)).setCell ⟨gy, 1, none⟩ (.int .i64 a1.s)).setCell ⟨gy, 2, none⟩ (.slice Za4 Zn4 Zc4)).setCell ⟨gy, 3, none⟩ (.slice Zf4 Zm4 Zk4) ∧ Two u0 W gx gy _ _ _ _ _ _ _ _ _ _ := ⟨_, rfl, T.out.sety ho rfl⟩
    have HW4 := Lib.hid hw4
    have T := Lib.hid T3
    clear T2 T3 hw4 ho
    go_wp2_with fail
    rw [← HW4.out]
    clear HW4
    clear lx ly p0 p1 p2 p3 p4 q0 q1 q2 q3 q4 x0 xf0 x1 xf1 x2 xf2 x3 xf3
    refine (HE1.out _ (B.out.trans (T.out.below.mono B.out.size))).mono ?_
    rintro e r5 ⟨rfl, hb⟩
    have T := Lib.hid (T.out.on hb)
    clear hb HE1
    obtain ⟨x0, xf0⟩ := T.out.cx (j := 0) rfl
    obtain ⟨x1, xf1⟩ := T.out.cx (j := 1) rfl
    obtain ⟨x2, xf2⟩ := T.out.cx (j := 2) rfl
    obtain ⟨x3, xf3⟩ := T.out.cx (j := 3) rfl
    obtain ⟨y0, yf0⟩ := T.out.cy (j := 0) rfl
    obtain ⟨y1, yf1⟩ := T.out.cy (j := 1) rfl
    obtain ⟨y2, yf2⟩ := T.out.cy (j := 2) rfl
    obtain ⟨y3, yf3⟩ := T.out.cy (j := 3) rfl
    obtain ⟨_, lx, _, ly⟩ := T.out.lt
    go_wp2_with fail
    refine (HS1.out _ _ _ T.out.x T.out.y).mono ?_
    rintro e r6 ⟨rfl, hb⟩
    clear lx ly x0 xf0 y0 yf0 x1 xf1 y1 yf1 x2 xf2 y2 yf2 x3 xf3 y3 yf3
    have T := Lib.hid (T.out.on hb)
    clear hb HS1
    obtain ⟨p0, p1, p2, p3, p4⟩ := (VA.out.on T.out.below).box
    obtain ⟨q0, q1, q2, q3, q4⟩ := (VB.out.on T.out.below).box
    go_wp2_with fail
    refine (HP2.out _ _ _ (VA.out.on T.out.below).at_ (VB.out.on T.out.below).at_).mono ?_
    rintro e r7 he
    obtain ⟨xx, rfl, ho⟩ := he.out
    obtain ⟨nz, fz, Za7, Zn7, Zc7, Zf7, Zm7, Zk7, rfl, rfl, rfl⟩ := ho.form
    clear he HP2 p0 p1 p2 p3 p4 q0 q1 q2 q3 q4
    have T2 := Lib.hid (T.out.on ho.below)
    obtain ⟨x0, xf0⟩ := T2.out.cx (j := 0) rfl
    obtain ⟨x1, xf1⟩ := T2.out.cx (j := 1) rfl
    obtain ⟨x2, xf2⟩ := T2.out.cx (j := 2) rfl
    obtain ⟨x3, xf3⟩ := T2.out.cx (j := 3) rfl
    obtain ⟨_, lx, _, ly⟩ := T2.out.lt
    obtain ⟨p0, p1, p2, p3, p4⟩ := (VA.out.on T2.out.below).box
    obtain ⟨q0, q1, q2, q3, q4⟩ := (VB.out.on T2.out.below).box
    obtain ⟨w7, hw7, T3⟩ : ∃ W, W = (((r7.setCell ⟨gx, 0, none⟩ (.int .i64 a2.L)).setCell ⟨gx, 1, none⟩ (.int .i64 a2.s)).setCell ⟨gx, 2, none⟩ (.slice Za7 Zn7 Zc7)).setCell ⟨gx, 3, none⟩ (.slice Zf7 Zm7 Zk7) ∧ Two u0 W gx gy _ _ _ _ _ _ _ _ _ _ := ⟨_, rfl, T.out.setx ho rfl⟩
    have HW7 := Lib.hid hw7
    have T := Lib.hid T3
    clear T2 T3 hw7 ho
    go_wp2_with fail
    rw [← HW7.out]
    clear HW7
    clear lx ly p0 p1 p2 p3 p4 q0 q1 q2 q3 q4 x0 xf0 x1 xf1 x2 xf2 x3 xf3
    refine (HQ2.out _ _ _ (VA.out.on T.out.below).at_ (VB.out.on T.out.below).at_).mono ?_
    rintro e r8 he
    obtain ⟨xx, rfl, ho⟩ := he.out
    obtain ⟨nz, fz, Za8, Zn8, Zc8, Zf8, Zm8, Zk8, rfl, rfl, rfl⟩ := ho.form
    clear he HQ2
    have T2 := Lib.hid (T.out.on ho.below)
    obtain ⟨x0, xf0⟩ := T2.out.cy (j := 0) rfl
    obtain ⟨x1, xf1⟩ := T2.out.cy (j := 1) rfl
    obtain ⟨x2, xf2⟩ := T2.out.cy (j := 2) rfl
    obtain ⟨x3, xf3⟩ := T2.out.cy (j := 3) rfl
    obtain ⟨_, lx, _, ly⟩ := T2.out.lt
    obtain ⟨p0, p1, p2, p3, p4⟩ := (VA.out.on T2.out.below).box
    obtain ⟨q0, q1, q2, q3, q4⟩ := (VB.out.on T2.out.below).box
    obtain ⟨w8, hw8, T3⟩ : ∃ W, W = (((r8.setCell ⟨gy, 0, none⟩ (.int .i64 a2.L)).setCell ⟨gy, 1, none⟩ (.int .i64 a2.s)).setCell ⟨gy, 2, none⟩ (.slice Za8 Zn8 Zc8)).setCell ⟨gy, 3, none⟩ (.slice Zf8 Zm8 Zk8) ∧ Two u0 W gx gy _ _ _ _ _ _ _ _ _ _ := ⟨_, rfl, T.out.sety ho rfl⟩
    have HW8 := Lib.hid hw8
    have T := Lib.hid T3
    clear T2 T3 hw8 ho
    go_wp2_with fail
    rw [← HW8.out]
    clear HW8
    clear lx ly p0 p1 p2 p3 p4 q0 q1 q2 q3 q4 x0 xf0 x1 xf1 x2 xf2 x3 xf3
    refine (HE2.out _ (B.out.trans (T.out.below.mono B.out.size))).mono ?_
    rintro e r9 ⟨rfl, hb⟩
    have T := Lib.hid (T.out.on hb)
    clear hb HE2
    obtain ⟨x0, xf0⟩ := T.out.cx (j := 0) rfl
    obtain ⟨x1, xf1⟩ := T.out.cx (j := 1) rfl
    obtain ⟨x2, xf2⟩ := T.out.cx (j := 2) rfl
    obtain ⟨x3, xf3⟩ := T.out.cx (j := 3) rfl
    obtain ⟨y0, yf0⟩ := T.out.cy (j := 0) rfl
    obtain ⟨y1, yf1⟩ := T.out.cy (j := 1) rfl
    obtain ⟨y2, yf2⟩ := T.out.cy (j := 2) rfl
    obtain ⟨y3, yf3⟩ := T.out.cy (j := 3) rfl
    obtain ⟨_, lx, _, ly⟩ := T.out.lt
    go_wp2_with fail
    refine (HS2.out _ _ _ T.out.x T.out.y).mono ?_
    rintro e r10 ⟨rfl, hb⟩
    clear lx ly x0 xf0 y0 yf0 x1 xf1 y1 yf1 x2 xf2 y2 yf2 x3 xf3 y3 yf3
    have T := Lib.hid (T.out.on hb)
    clear hb HS2
    obtain ⟨p0, p1, p2, p3, p4⟩ := (VA.out.on T.out.below).box
    go_wp2_with fail
    refine (HD.out _ _ (VA.out.on T.out.below).at_).mono ?_
    rintro e rd ⟨he, hb⟩
    obtain rfl : e = .returned (.int .i64 0) := he.out
    have T := Lib.hid (T.out.on hb)
    clear he hb HD p0 p1 p2 p3 p4
    have T2 := Lib.hid (T.out.on (Below.refl _ _))
    obtain ⟨x0, xf0⟩ := T2.out.cx (j := 0) rfl
    obtain ⟨x1, xf1⟩ := T2.out.cx (j := 1) rfl
    obtain ⟨x2, xf2⟩ := T2.out.cx (j := 2) rfl
    obtain ⟨x3, xf3⟩ := T2.out.cx (j := 3) rfl
    obtain ⟨_, lx, _, ly⟩ := T2.out.lt
    obtain ⟨p0, p1, p2, p3, p4⟩ := (VA.out.on T2.out.below).box
    obtain ⟨q0, q1, q2, q3, q4⟩ := (VB.out.on T2.out.below).box
    obtain ⟨w77, hw77, T3⟩ : ∃ W, W = (((rd.setCell ⟨gx, 0, none⟩ (.int .i64 0)).setCell ⟨gx, 1, none⟩ (.int .i64 0)).setCell ⟨gx, 2, none⟩ (.slice none 0 0)).setCell ⟨gx, 3, none⟩ (.slice none 0 0) ∧ Two u0 W gx gy _ _ _ _ _ _ _ _ _ _ := ⟨_, rfl, T.out.setx (dfaOwn_zero (Below.refl _ _)) rfl⟩
    have HW77 := Lib.hid hw77
    have T := Lib.hid T3
    clear T2 T3 hw77 
    go_wp2_with fail
    rw [← HW77.out]
    clear HW77
    clear lx ly p0 p1 p2 p3 p4 q0 q1 q2 q3 q4 x0 xf0 x1 xf1 x2 xf2 x3 xf3
    refine (HM.out _ _ (VA.out.on T.out.below).at_).mono ?_
    rintro e rm he
    obtain ⟨xx, rfl, ho⟩ := he.out
    obtain ⟨nz, fz, Za, Zn, Zc, Zf, Zm, Zk, rfl, rfl, rfl⟩ := ho.form
    clear he HM
    have T2 := Lib.hid (T.out.on ho.below)
    obtain ⟨x0, xf0⟩ := T2.out.cx (j := 0) rfl
    obtain ⟨x1, xf1⟩ := T2.out.cx (j := 1) rfl
    obtain ⟨x2, xf2⟩ := T2.out.cx (j := 2) rfl
    obtain ⟨x3, xf3⟩ := T2.out.cx (j := 3) rfl
    obtain ⟨_, lx, _, ly⟩ := T2.out.lt
    obtain ⟨p0, p1, p2, p3, p4⟩ := (VA.out.on T2.out.below).box
    obtain ⟨q0, q1, q2, q3, q4⟩ := (VB.out.on T2.out.below).box
    obtain ⟨w78, hw78, T3⟩ : ∃ W, W = (((rm.setCell ⟨gx, 0, none⟩ (.int .i64 N.L)).setCell ⟨gx, 1, none⟩ (.int .i64 N.s)).setCell ⟨gx, 2, none⟩ (.slice Za Zn Zc)).setCell ⟨gx, 3, none⟩ (.slice Zf Zm Zk) ∧ Two u0 W gx gy _ _ _ _ _ _ _ _ _ _ := ⟨_, rfl, T.out.setx ho rfl⟩
    have HW78 := Lib.hid hw78
    have T := Lib.hid T3
    clear T2 T3 hw78 ho
    go_wp2_with fail
    rw [← HW78.out]
    clear HW78
    clear lx ly p0 p1 p2 p3 p4 q0 q1 q2 q3 q4 x0 xf0 x1 xf1 x2 xf2 x3 xf3
    refine (HN.out _ _ (VA.out.on T.out.below).at_).mono ?_
    rintro e r11 he
    obtain ⟨xx, rfl, ho⟩ := he.out
    obtain ⟨nz, fz, Za11, Zn11, Zc11, Zf11, Zm11, Zk11, rfl, rfl, rfl⟩ := ho.form
    clear he HN
    have T2 := Lib.hid (T.out.on ho.below)
    obtain ⟨x0, xf0⟩ := T2.out.cy (j := 0) rfl
    obtain ⟨x1, xf1⟩ := T2.out.cy (j := 1) rfl
    obtain ⟨x2, xf2⟩ := T2.out.cy (j := 2) rfl
    obtain ⟨x3, xf3⟩ := T2.out.cy (j := 3) rfl
    obtain ⟨_, lx, _, ly⟩ := T2.out.lt
    obtain ⟨p0, p1, p2, p3, p4⟩ := (VA.out.on T2.out.below).box
    obtain ⟨q0, q1, q2, q3, q4⟩ := (VB.out.on T2.out.below).box
    obtain ⟨w11, hw11, T3⟩ : ∃ W, W = (((r11.setCell ⟨gy, 0, none⟩ (.int .i64 N.L)).setCell ⟨gy, 1, none⟩ (.int .i64 N.s)).setCell ⟨gy, 2, none⟩ (.slice Za11 Zn11 Zc11)).setCell ⟨gy, 3, none⟩ (.slice Zf11 Zm11 Zk11) ∧ Two u0 W gx gy _ _ _ _ _ _ _ _ _ _ := ⟨_, rfl, T.out.sety ho rfl⟩
    have HW11 := Lib.hid hw11
    have T := Lib.hid T3
    clear T2 T3 hw11 ho
    go_wp2_with fail
    rw [← HW11.out]
    clear HW11
    clear lx ly p0 p1 p2 p3 p4 q0 q1 q2 q3 q4 x0 xf0 x1 xf1 x2 xf2 x3 xf3
    refine (HE3.out _ (B.out.trans (T.out.below.mono B.out.size))).mono ?_
    rintro e r12 ⟨rfl, hb⟩
    have T := Lib.hid (T.out.on hb)
    clear hb HE3
    obtain ⟨x0, xf0⟩ := T.out.cx (j := 0) rfl
    obtain ⟨x1, xf1⟩ := T.out.cx (j := 1) rfl
    obtain ⟨x2, xf2⟩ := T.out.cx (j := 2) rfl
    obtain ⟨x3, xf3⟩ := T.out.cx (j := 3) rfl
    obtain ⟨y0, yf0⟩ := T.out.cy (j := 0) rfl
    obtain ⟨y1, yf1⟩ := T.out.cy (j := 1) rfl
    obtain ⟨y2, yf2⟩ := T.out.cy (j := 2) rfl
    obtain ⟨y3, yf3⟩ := T.out.cy (j := 3) rfl
    obtain ⟨_, lx, _, ly⟩ := T.out.lt
    go_wp2_with fail
    refine (HS3.out _ _ _ T.out.x T.out.y).mono ?_
    rintro e r13 ⟨rfl, hb⟩
    clear lx ly x0 xf0 y0 yf0 x1 xf1 y1 yf1 x2 xf2 y2 yf2 x3 xf3 y3 yf3
    have T := Lib.hid (T.out.on hb)
    clear hb HS3
    have HB := Lib.hid (B.out.trans (T.out.below.mono B.out.size))
    go_wp2
    go_ret
    exact ⟨rfl, HB.out⟩
  · rw [notOut_bad (by omega), g1] at HN HE3
    rw [notOut_bad (by omega)] at HS3
    rw [g1] at HD
    simp only at HN HE3 HS3
    rw [errV_succ] at HN HE3
    have hne := int_ne (show ((x + 1 : Nat) : Int) ≠ 0 by omega)
    clear g1
    generalize ((x + 1 : Nat) : Int) = E at *
    have BW : Hid (Below u0.heap.size u0 u0) := Below.refl _ _
    obtain ⟨p0, p1, p2, p3, p4⟩ := VA.out.box
    obtain ⟨q0, q1, q2, q3, q4⟩ := VB.out.box
    go_enter Tryd.func3, Tryd.ntmps3
    go_wp2_with fail
    rw [← W0.out]
    clear W0
    refine (HP0.out _ _ _ VA.out.at_ VB.out.at_).mono ?_
    rintro e v1 he
    obtain ⟨xx, rfl, ho1⟩ := he.out
    obtain ⟨nx, fx, Xa, Xn, Xc, Xf, Xm, Xk, rfl, rfl, rfl⟩ := ho1.form
    clear he HP0 p0 p1 p2 p3 p4 q0 q1 q2 q3 q4
    obtain ⟨w1, hw1⟩ : ∃ W, W = v1.alloc (.cells #[.int .i64 a0.L, .int .i64 a0.s, .slice Xa Xn Xc, .slice Xf Xm Xk] 25) := ⟨_, rfl⟩
    have hbw : Below u0.heap.size u0 v1 := ho1.below
    have hbw1 : Below u0.heap.size u0 w1 := hbw.trans (by rw [hw1]; exact (below_alloc _ _).mono hbw.size)
    have BW1 := Lib.hid hbw1
    have HW1 := Lib.hid hw1
    have HO1 := Lib.hid ho1
    obtain ⟨p0, p1, p2, p3, p4⟩ := (VA.out.on hbw).box
    obtain ⟨q0, q1, q2, q3, q4⟩ := (VB.out.on hbw).box
    clear hbw hbw1 hw1 ho1 BW
    go_wp2_with fail
    rw [← HW1.out]
    refine (HQ0.out _ _ _ (VA.out.on BW1.out).at_ (VB.out.on BW1.out).at_).mono ?_
    rintro e v2 he
    obtain ⟨xx, rfl, ho2⟩ := he.out
    obtain ⟨ny, fy, Ya, Yn, Yc, Yf, Ym, Yk, rfl, rfl, rfl⟩ := ho2.form
    clear he HQ0 p0 p1 p2 p3 p4 q0 q1 q2 q3 q4
    obtain ⟨w2, hw2⟩ : ∃ W, W = v2.alloc (.cells #[.int .i64 a0.L, .int .i64 a0.s, .slice Ya Yn Yc, .slice Yf Ym Yk] 25) := ⟨_, rfl⟩
    have T := Lib.hid (two_new HO1.out HW1.out ho2 hw2)
    have HW2 := Lib.hid hw2
    clear hw2 ho2 HO1 HW1 BW1
    generalize hgx : v1.heap.size = gx at *
    generalize hgy : v2.heap.size = gy at *
    have hgx0 : w.heap.size + 1 < gx := by have := T.out.lt; omega
    have hgy0 : w.heap.size + 1 < gy := by have := T.out.lt; omega
    have hxy := T.out.ne
    have hn1 : w.heap.size ≠ gx := by omega
    have hn2 : w.heap.size + 1 ≠ gx := by omega
    have hn3 : w.heap.size ≠ gy := by omega
    have hn4 : w.heap.size + 1 ≠ gy := by omega
    have hn5 : gx ≠ w.heap.size := by omega
    have hn6 : gx ≠ w.heap.size + 1 := by omega
    have hn7 : gy ≠ w.heap.size := by omega
    have hn8 : gy ≠ w.heap.size + 1 := by omega
    have hyx := hxy.symm
    clear hsz
    go_wp2_with fail
    rw [← HW2.out]
    clear HW2
    refine (HE0.out _ (B.out.trans (T.out.below.mono B.out.size))).mono ?_
    rintro e r1 ⟨rfl, hb⟩
    have T := Lib.hid (T.out.on hb)
    clear hb HE0
    obtain ⟨x0, xf0⟩ := T.out.cx (j := 0) rfl
    obtain ⟨x1, xf1⟩ := T.out.cx (j := 1) rfl
    obtain ⟨x2, xf2⟩ := T.out.cx (j := 2) rfl
    obtain ⟨x3, xf3⟩ := T.out.cx (j := 3) rfl
    obtain ⟨y0, yf0⟩ := T.out.cy (j := 0) rfl
    obtain ⟨y1, yf1⟩ := T.out.cy (j := 1) rfl
    obtain ⟨y2, yf2⟩ := T.out.cy (j := 2) rfl
    obtain ⟨y3, yf3⟩ := T.out.cy (j := 3) rfl
    obtain ⟨_, lx, _, ly⟩ := T.out.lt
    go_wp2_with fail
    refine (HS0.out _ _ _ T.out.x T.out.y).mono ?_
    rintro e r2 ⟨rfl, hb⟩
    clear lx ly x0 xf0 y0 yf0 x1 xf1 y1 yf1 x2 xf2 y2 yf2 x3 xf3 y3 yf3
    have T := Lib.hid (T.out.on hb)
    clear hb HS0
    obtain ⟨p0, p1, p2, p3, p4⟩ := (VA.out.on T.out.below).box
    obtain ⟨q0, q1, q2, q3, q4⟩ := (VB.out.on T.out.below).box
    go_wp2_with fail
    refine (HP1.out _ _ _ (VA.out.on T.out.below).at_ (VB.out.on T.out.below).at_).mono ?_
    rintro e r3 he
    obtain ⟨xx, rfl, ho⟩ := he.out
    obtain ⟨nz, fz, Za3, Zn3, Zc3, Zf3, Zm3, Zk3, rfl, rfl, rfl⟩ := ho.form
    clear he HP1 p0 p1 p2 p3 p4 q0 q1 q2 q3 q4
    have T2 := Lib.hid (T.out.on ho.below)
    obtain ⟨x0, xf0⟩ := T2.out.cx (j := 0) rfl
    obtain ⟨x1, xf1⟩ := T2.out.cx (j := 1) rfl
    obtain ⟨x2, xf2⟩ := T2.out.cx (j := 2) rfl
    obtain ⟨x3, xf3⟩ := T2.out.cx (j := 3) rfl
    obtain ⟨_, lx, _, ly⟩ := T2.out.lt
    obtain ⟨p0, p1, p2, p3, p4⟩ := (VA.out.on T2.out.below).box
    obtain ⟨q0, q1, q2, q3, q4⟩ := (VB.out.on T2.out.below).box
    obtain ⟨w3, hw3, T3⟩ : ∃ W, W = (((r3.setCell ⟨gx, 0, none⟩ (.int .i64 a1.L)).setCell ⟨gx, 1, none⟩ (.int .i64 a1.s)).setCell ⟨gx, 2, none⟩ (.slice Za3 Zn3 Zc3)).setCell ⟨gx, 3, none⟩ (.slice Zf3 Zm3 Zk3) ∧ Two u0 W gx gy _ _ _ _ _ _ _ _ _ _ := ⟨_, rfl, T.out.setx ho rfl⟩
    have HW3 := Lib.hid hw3
    have T := Lib.hid T3
    clear T2 T3 hw3 ho
    go_wp2_with fail
    rw [← HW3.out]
    clear HW3
    clear lx ly p0 p1 p2 p3 p4 q0 q1 q2 q3 q4 x0 xf0 x1 xf1 x2 xf2 x3 xf3
    refine (HQ1.out _ _ _ (VA.out.on T.out.below).at_ (VB.out.on T.out.below).at_).mono ?_
    rintro e r4 he
    obtain ⟨xx, rfl, ho⟩ := he.out
    obtain ⟨nz, fz, Za4, Zn4, Zc4, Zf4, Zm4, Zk4, rfl, rfl, rfl⟩ := ho.form
    clear he HQ1
    have T2 := Lib.hid (T.out.on ho.below)
    obtain ⟨x0, xf0⟩ := T2.out.cy (j := 0) rfl
    obtain ⟨x1, xf1⟩ := T2.out.cy (j := 1) rfl
    obtain ⟨x2, xf2⟩ := T2.out.cy (j := 2) rfl
    obtain ⟨x3, xf3⟩ := T2.out.cy (j := 3) rfl
    obtain ⟨_, lx, _, ly⟩ := T2.out.lt
    obtain ⟨p0, p1, p2, p3, p4⟩ := (VA.out.on T2.out.below).box
    obtain ⟨q0, q1, q2, q3, q4⟩ := (VB.out.on T2.out.below).box
    obtain ⟨w4, hw4, T3⟩ : ∃ W, W = (((r4.setCell ⟨gy, 0, none⟩ (.int .i64 a1.L)).setCell ⟨gy, 1, none⟩ (.int .i64 a1.s)).setCell ⟨gy, 2, none⟩ (.slice Za4 Zn4 Zc4)).setCell ⟨gy, 3, none⟩ (.slice Zf4 Zm4 Zk4) ∧ Two u0 W gx gy _ _ _ _ _ _ _ _ _ _ := ⟨_, rfl, T.out.sety ho rfl⟩
    have HW4 := Lib.hid hw4
    have T := Lib.hid T3
    clear T2 T3 hw4 ho
    go_wp2_with fail
    rw [← HW4.out]
    clear HW4
    clear lx ly p0 p1 p2 p3 p4 q0 q1 q2 q3 q4 x0 xf0 x1 xf1 x2 xf2 x3 xf3
    refine (HE1.out _ (B.out.trans (T.out.below.mono B.out.size))).mono ?_
    rintro e r5 ⟨rfl, hb⟩
    have T := Lib.hid (T.out.on hb)
    clear hb HE1
    obtain ⟨x0, xf0⟩ := T.out.cx (j := 0) rfl
    obtain ⟨x1, xf1⟩ := T.out.cx (j := 1) rfl
    obtain ⟨x2, xf2⟩ := T.out.cx (j := 2) rfl
    obtain ⟨x3, xf3⟩ := T.out.cx (j := 3) rfl
    obtain ⟨y0, yf0⟩ := T.out.cy (j := 0) rfl
    obtain ⟨y1, yf1⟩ := T.out.cy (j := 1) rfl
    obtain ⟨y2, yf2⟩ := T.out.cy (j := 2) rfl
    obtain ⟨y3, yf3⟩ := T.out.cy (j := 3) rfl
    obtain ⟨_, lx, _, ly⟩ := T.out.lt
    go_wp2_with fail
    refine (HS1.out _ _ _ T.out.x T.out.y).mono ?_
    rintro e r6 ⟨rfl, hb⟩
    clear lx ly x0 xf0 y0 yf0 x1 xf1 y1 yf1 x2 xf2 y2 yf2 x3 xf3 y3 yf3
    have T := Lib.hid (T.out.on hb)
    clear hb HS1
    obtain ⟨p0, p1, p2, p3, p4⟩ := (VA.out.on T.out.below).box
    obtain ⟨q0, q1, q2, q3, q4⟩ := (VB.out.on T.out.below).box
    go_wp2_with fail
    refine (HP2.out _ _ _ (VA.out.on T.out.below).at_ (VB.out.on T.out.below).at_).mono ?_
    rintro e r7 he
    obtain ⟨xx, rfl, ho⟩ := he.out
    obtain ⟨nz, fz, Za7, Zn7, Zc7, Zf7, Zm7, Zk7, rfl, rfl, rfl⟩ := ho.form
    clear he HP2 p0 p1 p2 p3 p4 q0 q1 q2 q3 q4
    have T2 := Lib.hid (T.out.on ho.below)
    obtain ⟨x0, xf0⟩ := T2.out.cx (j := 0) rfl
    obtain ⟨x1, xf1⟩ := T2.out.cx (j := 1) rfl
    obtain ⟨x2, xf2⟩ := T2.out.cx (j := 2) rfl
    obtain ⟨x3, xf3⟩ := T2.out.cx (j := 3) rfl
    obtain ⟨_, lx, _, ly⟩ := T2.out.lt
    obtain ⟨p0, p1, p2, p3, p4⟩ := (VA.out.on T2.out.below).box
    obtain ⟨q0, q1, q2, q3, q4⟩ := (VB.out.on T2.out.below).box
    obtain ⟨w7, hw7, T3⟩ : ∃ W, W = (((r7.setCell ⟨gx, 0, none⟩ (.int .i64 a2.L)).setCell ⟨gx, 1, none⟩ (.int .i64 a2.s)).setCell ⟨gx, 2, none⟩ (.slice Za7 Zn7 Zc7)).setCell ⟨gx, 3, none⟩ (.slice Zf7 Zm7 Zk7) ∧ Two u0 W gx gy _ _ _ _ _ _ _ _ _ _ := ⟨_, rfl, T.out.setx ho rfl⟩
    have HW7 := Lib.hid hw7
    have T := Lib.hid T3
    clear T2 T3 hw7 ho
    go_wp2_with fail
    rw [← HW7.out]
    clear HW7
    clear lx ly p0 p1 p2 p3 p4 q0 q1 q2 q3 q4 x0 xf0 x1 xf1 x2 xf2 x3 xf3
    refine (HQ2.out _ _ _ (VA.out.on T.out.below).at_ (VB.out.on T.out.below).at_).mono ?_
    rintro e r8 he
    obtain ⟨xx, rfl, ho⟩ := he.out
    obtain ⟨nz, fz, Za8, Zn8, Zc8, Zf8, Zm8, Zk8, rfl, rfl, rfl⟩ := ho.form
    clear he HQ2
    have T2 := Lib.hid (T.out.on ho.below)
    obtain ⟨x0, xf0⟩ := T2.out.cy (j := 0) rfl
    obtain ⟨x1, xf1⟩ := T2.out.cy (j := 1) rfl
    obtain ⟨x2, xf2⟩ := T2.out.cy (j := 2) rfl
    obtain ⟨x3, xf3⟩ := T2.out.cy (j := 3) rfl
    obtain ⟨_, lx, _, ly⟩ := T2.out.lt
    obtain ⟨p0, p1, p2, p3, p4⟩ := (VA.out.on T2.out.below).box
    obtain ⟨q0, q1, q2, q3, q4⟩ := (VB.out.on T2.out.below).box
    obtain ⟨w8, hw8, T3⟩ : ∃ W, W = (((r8.setCell ⟨gy, 0, none⟩ (.int .i64 a2.L)).setCell ⟨gy, 1, none⟩ (.int .i64 a2.s)).setCell ⟨gy, 2, none⟩ (.slice Za8 Zn8 Zc8)).setCell ⟨gy, 3, none⟩ (.slice Zf8 Zm8 Zk8) ∧ Two u0 W gx gy _ _ _ _ _ _ _ _ _ _ := ⟨_, rfl, T.out.sety ho rfl⟩
    have HW8 := Lib.hid hw8
    have T := Lib.hid T3
    clear T2 T3 hw8 ho
    go_wp2_with fail
    rw [← HW8.out]
    clear HW8
    clear lx ly p0 p1 p2 p3 p4 q0 q1 q2 q3 q4 x0 xf0 x1 xf1 x2 xf2 x3 xf3
    refine (HE2.out _ (B.out.trans (T.out.below.mono B.out.size))).mono ?_
    rintro e r9 ⟨rfl, hb⟩
    have T := Lib.hid (T.out.on hb)
    clear hb HE2
    obtain ⟨x0, xf0⟩ := T.out.cx (j := 0) rfl
    obtain ⟨x1, xf1⟩ := T.out.cx (j := 1) rfl
    obtain ⟨x2, xf2⟩ := T.out.cx (j := 2) rfl
    obtain ⟨x3, xf3⟩ := T.out.cx (j := 3) rfl
    obtain ⟨y0, yf0⟩ := T.out.cy (j := 0) rfl
    obtain ⟨y1, yf1⟩ := T.out.cy (j := 1) rfl
    obtain ⟨y2, yf2⟩ := T.out.cy (j := 2) rfl
    obtain ⟨y3, yf3⟩ := T.out.cy (j := 3) rfl
    obtain ⟨_, lx, _, ly⟩ := T.out.lt
    go_wp2_with fail
    refine (HS2.out _ _ _ T.out.x T.out.y).mono ?_
    rintro e r10 ⟨rfl, hb⟩
    clear lx ly x0 xf0 y0 yf0 x1 xf1 y1 yf1 x2 xf2 y2 yf2 x3 xf3 y3 yf3
    have T := Lib.hid (T.out.on hb)
    clear hb HS2
    obtain ⟨p0, p1, p2, p3, p4⟩ := (VA.out.on T.out.below).box
    go_wp2_with fail
    refine (HD.out _ _ (VA.out.on T.out.below).at_).mono ?_
    rintro e rd ⟨he, hb⟩
    obtain rfl : e = .returned (.int .i64 E) := he.out
    have T := Lib.hid (T.out.on hb)
    clear he hb HD p0 p1 p2 p3 p4
    have T2 := Lib.hid (T.out.on (Below.refl _ _))
    obtain ⟨x0, xf0⟩ := T2.out.cx (j := 0) rfl
    obtain ⟨x1, xf1⟩ := T2.out.cx (j := 1) rfl
    obtain ⟨x2, xf2⟩ := T2.out.cx (j := 2) rfl
    obtain ⟨x3, xf3⟩ := T2.out.cx (j := 3) rfl
    obtain ⟨_, lx, _, ly⟩ := T2.out.lt
    obtain ⟨p0, p1, p2, p3, p4⟩ := (VA.out.on T2.out.below).box
    obtain ⟨q0, q1, q2, q3, q4⟩ := (VB.out.on T2.out.below).box
    obtain ⟨w77, hw77, T3⟩ : ∃ W, W = (((rd.setCell ⟨gx, 0, none⟩ (.int .i64 0)).setCell ⟨gx, 1, none⟩ (.int .i64 0)).setCell ⟨gx, 2, none⟩ (.slice none 0 0)).setCell ⟨gx, 3, none⟩ (.slice none 0 0) ∧ Two u0 W gx gy _ _ _ _ _ _ _ _ _ _ := ⟨_, rfl, T.out.setx (dfaOwn_zero (Below.refl _ _)) rfl⟩
    have HW77 := Lib.hid hw77
    have T := Lib.hid T3
    clear T2 T3 hw77 
    go_wp2_with fail
    rw [← HW77.out]
    clear HW77
    clear lx ly p0 p1 p2 p3 p4 q0 q1 q2 q3 q4 x0 xf0 x1 xf1 x2 xf2 x3 xf3
    refine (HN.out _ _ (VA.out.on T.out.below).at_).mono ?_
    rintro e r11 he
    obtain ⟨xx, rfl, ho⟩ := he.out
    obtain ⟨nz, fz, Za11, Zn11, Zc11, Zf11, Zm11, Zk11, rfl, rfl, rfl⟩ := ho.form
    clear he HN
    have T2 := Lib.hid (T.out.on ho.below)
    obtain ⟨x0, xf0⟩ := T2.out.cy (j := 0) rfl
    obtain ⟨x1, xf1⟩ := T2.out.cy (j := 1) rfl
    obtain ⟨x2, xf2⟩ := T2.out.cy (j := 2) rfl
    obtain ⟨x3, xf3⟩ := T2.out.cy (j := 3) rfl
    obtain ⟨_, lx, _, ly⟩ := T2.out.lt
    obtain ⟨p0, p1, p2, p3, p4⟩ := (VA.out.on T2.out.below).box
    obtain ⟨q0, q1, q2, q3, q4⟩ := (VB.out.on T2.out.below).box
    obtain ⟨w11, hw11, T3⟩ : ∃ W, W = (((r11.setCell ⟨gy, 0, none⟩ (.int .i64 zeroA.L)).setCell ⟨gy, 1, none⟩ (.int .i64 zeroA.s)).setCell ⟨gy, 2, none⟩ (.slice Za11 Zn11 Zc11)).setCell ⟨gy, 3, none⟩ (.slice Zf11 Zm11 Zk11) ∧ Two u0 W gx gy _ _ _ _ _ _ _ _ _ _ := ⟨_, rfl, T.out.sety ho rfl⟩
    have HW11 := Lib.hid hw11
    have T := Lib.hid T3
    clear T2 T3 hw11 ho
    go_wp2_with fail
    rw [← HW11.out]
    clear HW11
    clear lx ly p0 p1 p2 p3 p4 q0 q1 q2 q3 q4 x0 xf0 x1 xf1 x2 xf2 x3 xf3
    refine (HE3.out _ (B.out.trans (T.out.below.mono B.out.size))).mono ?_
    rintro e r12 ⟨rfl, hb⟩
    have T := Lib.hid (T.out.on hb)
    clear hb HE3
    obtain ⟨x0, xf0⟩ := T.out.cx (j := 0) rfl
    obtain ⟨x1, xf1⟩ := T.out.cx (j := 1) rfl
    obtain ⟨x2, xf2⟩ := T.out.cx (j := 2) rfl
    obtain ⟨x3, xf3⟩ := T.out.cx (j := 3) rfl
    obtain ⟨y0, yf0⟩ := T.out.cy (j := 0) rfl
    obtain ⟨y1, yf1⟩ := T.out.cy (j := 1) rfl
    obtain ⟨y2, yf2⟩ := T.out.cy (j := 2) rfl
    obtain ⟨y3, yf3⟩ := T.out.cy (j := 3) rfl
    obtain ⟨_, lx, _, ly⟩ := T.out.lt
    go_wp2_with fail
    refine (HS3.out _ _ _ T.out.x T.out.y).mono ?_
    rintro e r13 ⟨rfl, hb⟩
    clear lx ly x0 xf0 y0 yf0 x1 xf1 y1 yf1 x2 xf2 y2 yf2 x3 xf3 y3 yf3
    have T := Lib.hid (T.out.on hb)
    clear hb HS3
    have HB := Lib.hid (B.out.trans (T.out.below.mono B.out.size))
    go_wp2
    go_ret
    exact ⟨rfl, HB.out⟩


set_option maxRecDepth 100000 in
theorem lifted (os : Os) (started : os.Started) (H : Type) (enc : TypeId × Value → H) :
    ReturnsInHanded {} Tryd.checked os 3 .any (fun w args => (Rows.dfaPairsSpec.pre enc Tryd.prog Tryd.f3 Rows.dfaPairsRow.domain false w args ∧ laidMetH Tryd.prog [("errors.errorType", Rows.laid_errors_errorType)] w) ∧ sizedMet enc Tryd.prog Tryd.f3 (OpenSpec.ofChange Rows.dfaPairsSpec) false w args) (Rows.dfaPairsSpec.post enc Tryd.prog Tryd.f3 false true false false) := by
  refine returnsInHanded_of_change_and (C := Tryd.checked) (X := fun w _ => laidMetH Tryd.prog [("errors.errorType", Rows.laid_errors_errorType)] w) (fun _ _ _ hh h => h.of_heap hh) own started (by kernel_rfl) Tryd.func3
    (ChangeSpec.witness_at (enc := enc) (C := Tryd.checked) (os := os) (X := fun w _ => laidMetH Tryd.prog [("errors.errorType", Rows.laid_errors_errorType)] w) false (laidWorld os) #[.agg #[.int .i64 0, .int .i64 0, .slice none 0 0, .slice none 0 0], .agg #[.int .i64 0, .int .i64 0, .slice none 0 0, .slice none 0 0]] 8 rfl (by kernel_rfl) (by kernel_rfl) (by kernel_rfl) (by kernel_rfl) (by kernel_rfl) (laidWorld_met os _)) ?_
  intro W base args ds gs before hval0 hW hcnd hsz0 hL _
  have hval : ∀ (j : Nat) t v, Tryd.f3.params[j]? = some t → args[j]? = some v → Value.okWide Tryd.prog W .any base t v := hval0
  have hsz : (DataW.weightsEach Tryd.prog (Tryd.f3.params.toList ++ Rows.dfaPairsSpec.plain.varTypes Tryd.prog) (ds ++ gs)).all (· ≤ reachBytes) = true := hsz0
  have hW' := hW
  obtain ⟨p, q, hA0, hV0, rfl, hfz, hnd⟩ := hW
  have hV : DataW.TrodVars enc Tryd.prog W (fun _ => true) [] gs q := hV0
  have hA : DataW.TrodAll enc Tryd.prog W 0 (fun _ => true) true Tryd.f3.params.toList args.toList ds p := hA0
  rw [Tryd.params3] at hA hval hsz
  obtain ⟨v0, vs0, d0, ds0, p0, q0, hargs, rfl, rfl, h0, rr0⟩ := trodAll_cons hA
  obtain ⟨v1, vs1, d1, ds1, p1, q1, rfl, rfl, rfl, h1, rr1⟩ := trodAll_cons rr0
  obtain ⟨rfl, rfl, rfl⟩ := trodAll_nil rr1
  obtain rfl : args = #[v0, v1] := by cases args; simp_all
  obtain ⟨rfl, rfl⟩ := trodVars_none hV
  have k0 := h0
  have lt0 : ∀ x ∈ p0, x.block < W.heap.size := by obtain ⟨m, hm⟩ := k0; exact DataW.trod_lt m _ _ _ hm
  have k1 := h1
  have lt1 : ∀ x ∈ p1, x.block < W.heap.size := by obtain ⟨m, hm⟩ := k1; exact DataW.trod_lt m _ _ _ hm
  obtain ⟨D0, x0⟩ : ∃ d : Df.Aut, Df.DfaAt W W.heap.size v0 d := Df.dfa_open (hval 0 25 v0 rfl rfl) h0
  obtain ⟨D1, x1⟩ : ∃ d : Df.Aut, Df.DfaAt W W.heap.size v1 d := Df.dfa_open (hval 1 25 v1 rfl rfl) h1
  clear hA0 hval0
  refine (walk v0 D0 v1 D1 W x0 x1 (handle_of_laid hL)).mono fun e W' ⟨he, bel⟩ => ?_
  subst he
  exact ⟨_, rfl, _, _, _, [], _, [], hW', trodAll_mk1 (shut_bool Tryd.underlying4 _), (trodAll_cons_mk (Below.trod laidOut (by kernel_rfl) (of_decide_eq_true (by kernel_rfl)) k0 bel lt0) (trodAll_cons_mk (Below.trod laidOut (by kernel_rfl) (of_decide_eq_true (by kernel_rfl)) k1 bel lt1) trodAll_mk0)), rfl, bel.frame _, fun h => by cases h⟩

theorem over : Rows.dfaPairsRow.holds Tryd.pinned (OpenSpec.ofChange Rows.dfaPairsSpec) :=
  OpenClaim.holds_of_wide 3 Tryd.f3 rfl rfl rfl rfl rfl rfl rfl ⟨rfl, rfl, rfl, rfl, rfl⟩ rfl rfl rfl rfl rfl (by kernel_rfl) Tryd.func3 (by kernel_rfl)
    (of_decide_eq_true (by kernel_rfl)) (by unfold Func.isWrapper; rw [if_neg (of_decide_eq_false (by kernel_rfl))]; exact ⟨rfl, rfl⟩)
    (fun os started H enc _ => lifted os started H enc)
theorem proved : Rows.DfaPairsCardSaid :=
  Claim7.holds_tied_plain_at .later [] [.handle] true (true, "c94cc83f5dd7841045424cdf6d17788601952d9661a14660a15d5bfc90368eca") true
    over (fun _ h => by cases h) (by kernel_rfl) (fun _ h => by cases h) dfaPairs_row_tie rfl ⟨rfl, rfl⟩ (by kernel_rfl) rfl
    (fun f fn hf hfn => by
      obtain rfl : f = 3 := Option.some.inj ((show Tryd.prog.funcNamed "stileward/stilewardlaw2.DfaPairs" = some 3 by kernel_rfl).symm.trans hf) |>.symm
      obtain rfl : fn = Tryd.f3 := (Option.some.inj (Tryd.func3.symm.trans hfn)).symm
      exact ⟨by kernel_rfl, fun j t ht => by
        rw [Tryd.params3] at ht
        rcases j with _ | _ | j
        · obtain rfl : 25 = t := by simpa using ht
          exact (show Tryd.prog.wantsStandIn 25 = false by kernel_rfl)
        · obtain rfl : 25 = t := by simpa using ht
          exact (show Tryd.prog.wantsStandIn 25 = false by kernel_rfl)
        · simp at ht⟩)
    (by kernel_rfl)
#print axioms proved
end Go.Proofs.YtloihkoamccacaaDoor.dfaPairs
