/-
  The statement DfaSaysCardSaid of this seat, proved: for every input the law returns true and its arguments read behind the call as before. Conditions: none but the row's own (each argument within the reach; the listed variable as the program lays it, tied by the given tie).
-/
import Derived.Test.YtinehjfanabegaaDoorRows
import Derived.Test.YtinehjfanabegaaDoorCards
import Derived.Test.YtinehjfanabegaaDoorTie
import Derived.SevenTiedAt
import Derived.LaidLaws
import Derived.LaidHandle
import Derived.Stop.Joined
import Derived.JoinedOf
import Derived.RowKit
import Derived.RowKitTokens
import Derived.ChangeSame
import Derived.ChangeVars
import Derived.Test.YtinehjfanabegaaDoorWords
import Derived.WalkKit
import Derived.ProofKit
import Derived.OpenShut
import Derived.ShutString
import Derived.ChangeOld
import Derived.Below
import Derived.SizedLaws
import Derived.Lib.Hide
import Derived.Test.YtinehjfanabegaaDoorRefDfa
import Derived.Test.YtinehjfanabegaaDoorSays
import Derived.Test.YtinehjfanabegaaDoorWordL
namespace Go.Proofs.YtinehjfanabegaaDoor.dfaSays
open Go.ChangeShapes Go.WideShapes Go.ChangeAt Go.RowKit Go.IntWalk Go.Proofs.YtinehjfanabegaaDoor.Wd
open Go.ChangeMaps (open_string shut_string)
set_option linter.unusedVariables false

theorem own : ownKnob Tryd.prog.godebug = none := by kernel_rfl
theorem laidOut : laidOutB Tryd.prog = true := by kernel_rfl
theorem et : Tryd.prog.globalNamed "errors.errorType" = some 0 := by kernel_rfl
theorem rt : (Tryd.prog.cutTypes.find? (·.1 == "internal/reflectlite.rtype")).map (·.2) = some 177 := by kernel_rfl
theorem oneRow : ((List.range 228).filter fun t => Tryd.prog.rowNamed t [101, 114, 114, 111, 114]) = [30] := by kernel_rfl
theorem size : Tryd.prog.types.size = 228 := by kernel_rfl
/-- What the condition gives a walk: the variable's one cell. -/
theorem handle_of_laid {w : World} (h : laidMetH Tryd.prog [("errors.errorType", Rows.laid_errors_errorType)] w) : w.cell? ⟨0, 0, none⟩ = some (.iface 177 (.agg #[.pointer (some ⟨1, 30, none⟩)])) := by
  have h' : laidMet Tryd.prog [] w ∧ handlesMet Tryd.prog [("errors.errorType", Rows.laid_errors_errorType)] w := h
  obtain ⟨name, u, ty, e1, e2, e3, e4, e5⟩ := h'.2 _ (List.mem_singleton.2 rfl)
  have en : name = [101, 114, 114, 111, 114] := (Option.some.inj e1).symm
  subst en
  obtain rfl := Option.some.inj (rt.symm.trans e2)
  have hm : ty ∈ (List.range 228).filter fun t => Tryd.prog.rowNamed t [101, 114, 114, 111, 114] := List.mem_filter.2 ⟨List.mem_range.2 (by rw [← size]; exact e3), e4⟩
  rw [oneRow] at hm
  obtain rfl := List.mem_singleton.1 hm
  have hh : typeHandle Tryd.prog 30 = .pointer (some ⟨1, 30, none⟩) := by kernel_rfl
  rw [hh] at e5
  simpa using World.var?_cell et e5 0
/-- A world that meets the condition. -/
noncomputable def laidWorld (os : Os) : World :=
  let w0 := World.holding Tryd.prog os ⟨#[], #[], []⟩
  { w0 with heap := w0.heap.modify 0 fun
      | .cells _ t frozen => .cells #[.iface 177 (.agg #[.pointer (some ⟨1, 30, none⟩)])] t frozen
      | o => o }
theorem laidWorld_met (os : Os) (args : Array Value) : laidMetH Tryd.prog [("errors.errorType", Rows.laid_errors_errorType)] ((laidWorld os).forCall (fun _ _ => 0) ⟨#[], args, []⟩).memory :=
  laidMetH_of_parts (laidMet_nil _ _) (by kernel_rfl)
open Go.Proofs.YtinehjfanabegaaDoor.Wo Go.Proofs.YtinehjfanabegaaDoor.Er Go.Proofs.YtinehjfanabegaaDoor.Df

set_option maxRecDepth 100000 in
set_option maxHeartbeats 4000000 in
theorem walk (v0 : Value) (d0 : Df.Aut) (a1 : Int) (A2 : Option Addr) (c2 : Nat) (z2 : List Int) (w : World) (h0 : Df.DfaAt w w.heap.size v0 d0) (l1 : -9223372036854775808 ≤ a1) (h1 : a1 ≤ 9223372036854775807) (v2 : IntsAt w w.heap.size A2 z2) (r2 : z2.length ≤ 17592186043904) (m2 : z2.length ≤ c2) (hg : w.cell? ⟨0, 0, none⟩ = some (.iface 177 (.agg #[.pointer (some ⟨1, 30, none⟩)]))) :
    Calls Tryd.prog 3 #[v0, .int .i64 a1, .slice A2 z2.length c2] w fun e w' => e = .returned (.bool true) ∧ Below w.heap.size w w' := by
  have hq : Small a1 := ⟨l1, h1⟩
  have hlv : z2.length ≤ 17592186044416 := by omega
  obtain ⟨L0, s0, A0, n0, c0, F0, m0, k0, rfl⟩ := h0.form
  obtain ⟨hL0, _, hN0, _⟩ := h0.eqs
  have hL : Small L0 := by
    obtain ⟨L', s', A', c', F', cf', e, hx⟩ := h0
    simp only [Value.agg.injEq, Array.mk.injEq, List.cons.injEq, Value.int.injEq, Value.slice.injEq, true_and, and_true] at e
    obtain ⟨rfl, _⟩ := e
    exact hx.hL
  obtain ⟨u0, hu0, hb0, VA0⟩ := var_new w h0
  have VA := Lib.hid VA0
  have B := Lib.hid hb0
  have W0 := Lib.hid hu0
  have Z := Lib.hid (v2.on hb0)
  have HD := Lib.hid (fun W v (h : DfaAt W W.heap.size v d0) => rdfa_any v d0 W h)
  have HC := Lib.hid (fun W v (h : DfaAt W W.heap.size v d0) => dcheck_any v d0 W h)
  have HE1 := Lib.hid (fun W h => says (dchk d0) hg W h)
  have HE2 := Lib.hid (fun W h => says (accErr d0 z2) hg W h)
  have HE3 := Lib.hid (fun W h => says (runErr d0 a1 z2) hg W h)
  have HA := Lib.hid (fun W v (h : DfaAt W W.heap.size v d0) (hZ : IntsAt W W.heap.size A2 z2) => acc_any v d0 A2 c2 z2 W h hZ hlv)
  have HR := Lib.hid (fun W v (h : DfaAt W W.heap.size v d0) (hZ : IntsAt W W.heap.size A2 z2) => run_any v d0 a1 A2 c2 z2 W h hq hZ hlv)
  have HW := Lib.hid (fun W (hZ : IntsAt W W.heap.size A2 z2) => refWord_any L0 A2 c2 z2 W hL hZ hlv)
  have hmm : n0 ≤ 9223372036854775807 := by
    obtain ⟨L', s', A', c', F', cf', e, hx⟩ := h0
    rw [← hN0]; exact Nat.le_trans hx.hc hx.hc2
  clear hu0 hb0 VA0 v2 r2 m2 hg h0 hL
  rcases g1 : dchk d0 with _ | x
  · have Ga := dchk_iff.1 g1
    rcases g2 : chk L0 z2 with _ | x
    · have fz : Fine d0.L z2 := by rw [hL0]; exact chk_iff.1 g2
      have g3 := accErr_ok Ga fz
      have g4 := accOut_ok Ga fz
      have HX := Lib.hid (fun W v (h : DfaAt W W.heap.size v d0) (hZ : IntsAt W W.heap.size A2 z2) => racc_any v d0 A2 c2 z2 W h Ga (fine_word fz) hZ hlv)
      rw [g1] at HD HC HE1
      rw [g2] at HW
      rw [g3] at HE2
      rw [g3, g4] at HA
      by_cases g5 : isSt d0 a1
      · have g6 : runErr d0 a1 z2 = 0 := runErr_zero g1 (chk_iff.2 fz) g5
        obtain ⟨p, hp⟩ := Int.eq_ofNat_of_zero_le g5.1
        have hpl : p < d0.next.length := by have := g5.2; omega
        subst hp
        have g7 : runOut d0 (p : Int) z2 = ((runA d0 p z2 : Nat) : Int) := by unfold runOut; rw [if_pos g6]; rfl
        have HY := Lib.hid (fun W v (h : DfaAt W W.heap.size v d0) (hZ : IntsAt W W.heap.size A2 z2) => rrun_any v d0 p A2 c2 z2 W h Ga hpl (fine_word fz) hZ hlv)
        rw [g6] at HE3
        rw [g6, g7] at HR
        rw [hN0] at hpl
        clear Ga g1 g2 fz g3 g4 g5 g6 g7 hq hN0 hL0
        generalize runA d0 p z2 = t at *
        generalize accA d0 z2 = y at *
        have e1 : (y == y) = true := beq_self_eq_true _
        have e2 := int_eq (show (t : Int) = (t : Int) from rfl)
        have e3 : (p : Int) < (n0 : Int) := by omega
        go_enter Tryd.func3, Tryd.ntmps3
        obtain ⟨p0, p1, p2, p3, p4⟩ := VA.out.box
        go_wp2_with fail
        rw [← W0.out]
        clear W0
        refine (HD.out _ _ VA.out.at_).mono ?_
        rintro e u1 ⟨he, hb⟩
        obtain rfl : e = .returned (.int .i64 0) := he.out
        clear he
        have VA := Lib.hid (VA.out.on hb)
        have Z := Lib.hid (Z.out.on hb)
        have B := Lib.hid (B.out.trans (hb.mono B.out.size))
        clear hb
        clear HD
        clear p0 p1 p2 p3 p4
        obtain ⟨p0, p1, p2, p3, p4⟩ := VA.out.box
        go_wp2_with fail
        refine (HC.out _ _ VA.out.at_).mono ?_
        rintro e u2 ⟨he, hb⟩
        obtain rfl : e = .returned (.nilIface) := he.out
        clear he
        have VA := Lib.hid (VA.out.on hb)
        have Z := Lib.hid (Z.out.on hb)
        have B := Lib.hid (B.out.trans (hb.mono B.out.size))
        clear hb
        clear HC
        clear p0 p1 p2 p3 p4
        go_wp2_with fail
        refine (HE1.out _ B.out).mono ?_
        rintro e u3 ⟨rfl, hb⟩
        have VA := Lib.hid (VA.out.on hb)
        have Z := Lib.hid (Z.out.on hb)
        have B := Lib.hid (B.out.trans (hb.mono B.out.size))
        clear hb
        clear HE1
        obtain ⟨p0, p1, p2, p3, p4⟩ := VA.out.box
        go_wp2_with fail
        refine (HW.out _ Z.out).mono ?_
        rintro e u4 ⟨he, rfl⟩
        obtain rfl : e = .returned (.int .i64 0) := he.out
        clear he
        clear HW
        clear p0 p1 p2 p3 p4
        obtain ⟨p0, p1, p2, p3, p4⟩ := VA.out.box
        go_wp2_with fail
        refine (HA.out _ _ VA.out.at_ Z.out).mono ?_
        rintro e u5 ⟨he, hb⟩
        obtain rfl : e = .returned (.tuple #[.bool y, .nilIface]) := he.out
        clear he
        have VA := Lib.hid (VA.out.on hb)
        have Z := Lib.hid (Z.out.on hb)
        have B := Lib.hid (B.out.trans (hb.mono B.out.size))
        clear hb
        clear HA
        clear p0 p1 p2 p3 p4
        go_wp2_with fail
        refine (HE2.out _ B.out).mono ?_
        rintro e u6 ⟨rfl, hb⟩
        have VA := Lib.hid (VA.out.on hb)
        have Z := Lib.hid (Z.out.on hb)
        have B := Lib.hid (B.out.trans (hb.mono B.out.size))
        clear hb
        clear HE2
        obtain ⟨p0, p1, p2, p3, p4⟩ := VA.out.box
        go_wp2_with fail
        refine (HX.out _ _ VA.out.at_ Z.out).mono ?_
        rintro e u7 ⟨he, hb⟩
        obtain rfl : e = .returned (.bool y) := he.out
        clear he
        have VA := Lib.hid (VA.out.on hb)
        have Z := Lib.hid (Z.out.on hb)
        have B := Lib.hid (B.out.trans (hb.mono B.out.size))
        clear hb
        clear HX
        clear p0 p1 p2 p3 p4
        obtain ⟨p0, p1, p2, p3, p4⟩ := VA.out.box
        go_wp2_with fail
        refine (HY.out _ _ VA.out.at_ Z.out).mono ?_
        rintro e u8 ⟨rfl, hb⟩
        have VA := Lib.hid (VA.out.on hb)
        have Z := Lib.hid (Z.out.on hb)
        have B := Lib.hid (B.out.trans (hb.mono B.out.size))
        clear hb
        clear HY
        clear p0 p1 p2 p3 p4
        obtain ⟨p0, p1, p2, p3, p4⟩ := VA.out.box
        go_wp2_with fail
        refine (HR.out _ _ VA.out.at_ Z.out).mono ?_
        rintro e u9 ⟨he, hb⟩
        obtain rfl : e = .returned (.tuple #[.int .i64 (t : Int), .nilIface]) := he.out
        clear he
        have VA := Lib.hid (VA.out.on hb)
        have Z := Lib.hid (Z.out.on hb)
        have B := Lib.hid (B.out.trans (hb.mono B.out.size))
        clear hb
        clear HR
        clear p0 p1 p2 p3 p4
        go_wp2_with fail
        refine (HE3.out _ B.out).mono ?_
        rintro e u10 ⟨rfl, hb⟩
        have VA := Lib.hid (VA.out.on hb)
        have Z := Lib.hid (Z.out.on hb)
        have B := Lib.hid (B.out.trans (hb.mono B.out.size))
        clear hb
        clear HE3
        go_wp2
        go_ret
        exact ⟨rfl, B.out⟩
      · have g6 : runErr d0 a1 z2 = 1 := by
          unfold runErr; rw [if_neg (by omega), if_neg (by rw [chk_iff.2 fz]; omega), if_neg g5]
        have g7 : runOut d0 a1 z2 = 0 := by unfold runOut; rw [if_neg (by omega)]
        rw [g6] at HE3
        rw [g6, g7] at HR
        have hbad : a1 < 0 ∨ (n0 : Int) ≤ a1 := by
          unfold isSt at g5; omega
        clear Ga g1 g2 fz g3 g4 g5 g6 g7 hq hN0 hL0
        generalize accA d0 z2 = y at *
        have e1 : (y == y) = true := beq_self_eq_true _
        by_cases hneg : a1 < 0
        · clear hbad
          go_enter Tryd.func3, Tryd.ntmps3
          obtain ⟨p0, p1, p2, p3, p4⟩ := VA.out.box
          go_wp2_with fail
          rw [← W0.out]
          clear W0
          refine (HD.out _ _ VA.out.at_).mono ?_
          rintro e u1 ⟨he, hb⟩
          obtain rfl : e = .returned (.int .i64 0) := he.out
          clear he
          have VA := Lib.hid (VA.out.on hb)
          have Z := Lib.hid (Z.out.on hb)
          have B := Lib.hid (B.out.trans (hb.mono B.out.size))
          clear hb
          clear HD
          clear p0 p1 p2 p3 p4
          obtain ⟨p0, p1, p2, p3, p4⟩ := VA.out.box
          go_wp2_with fail
          refine (HC.out _ _ VA.out.at_).mono ?_
          rintro e u2 ⟨he, hb⟩
          obtain rfl : e = .returned (.nilIface) := he.out
          clear he
          have VA := Lib.hid (VA.out.on hb)
          have Z := Lib.hid (Z.out.on hb)
          have B := Lib.hid (B.out.trans (hb.mono B.out.size))
          clear hb
          clear HC
          clear p0 p1 p2 p3 p4
          go_wp2_with fail
          refine (HE1.out _ B.out).mono ?_
          rintro e u3 ⟨rfl, hb⟩
          have VA := Lib.hid (VA.out.on hb)
          have Z := Lib.hid (Z.out.on hb)
          have B := Lib.hid (B.out.trans (hb.mono B.out.size))
          clear hb
          clear HE1
          obtain ⟨p0, p1, p2, p3, p4⟩ := VA.out.box
          go_wp2_with fail
          refine (HW.out _ Z.out).mono ?_
          rintro e u4 ⟨he, rfl⟩
          obtain rfl : e = .returned (.int .i64 0) := he.out
          clear he
          clear HW
          clear p0 p1 p2 p3 p4
          obtain ⟨p0, p1, p2, p3, p4⟩ := VA.out.box
          go_wp2_with fail
          refine (HA.out _ _ VA.out.at_ Z.out).mono ?_
          rintro e u5 ⟨he, hb⟩
          obtain rfl : e = .returned (.tuple #[.bool y, .nilIface]) := he.out
          clear he
          have VA := Lib.hid (VA.out.on hb)
          have Z := Lib.hid (Z.out.on hb)
          have B := Lib.hid (B.out.trans (hb.mono B.out.size))
          clear hb
          clear HA
          clear p0 p1 p2 p3 p4
          go_wp2_with fail
          refine (HE2.out _ B.out).mono ?_
          rintro e u6 ⟨rfl, hb⟩
          have VA := Lib.hid (VA.out.on hb)
          have Z := Lib.hid (Z.out.on hb)
          have B := Lib.hid (B.out.trans (hb.mono B.out.size))
          clear hb
          clear HE2
          obtain ⟨p0, p1, p2, p3, p4⟩ := VA.out.box
          go_wp2_with fail
          refine (HX.out _ _ VA.out.at_ Z.out).mono ?_
          rintro e u7 ⟨he, hb⟩
          obtain rfl : e = .returned (.bool y) := he.out
          clear he
          have VA := Lib.hid (VA.out.on hb)
          have Z := Lib.hid (Z.out.on hb)
          have B := Lib.hid (B.out.trans (hb.mono B.out.size))
          clear hb
          clear HX
          clear p0 p1 p2 p3 p4
          obtain ⟨p0, p1, p2, p3, p4⟩ := VA.out.box
          go_wp2_with fail
          refine (HR.out _ _ VA.out.at_ Z.out).mono ?_
          rintro e u8 ⟨he, hb⟩
          obtain rfl : e = .returned (.tuple #[.int .i64 0, errI 1]) := he.out
          clear he
          have VA := Lib.hid (VA.out.on hb)
          have Z := Lib.hid (Z.out.on hb)
          have B := Lib.hid (B.out.trans (hb.mono B.out.size))
          clear hb
          clear HR
          clear p0 p1 p2 p3 p4
          go_wp2_with fail
          refine (HE3.out _ B.out).mono ?_
          rintro e u9 ⟨rfl, hb⟩
          have VA := Lib.hid (VA.out.on hb)
          have Z := Lib.hid (Z.out.on hb)
          have B := Lib.hid (B.out.trans (hb.mono B.out.size))
          clear hb
          clear HE3
          go_wp2
          go_ret
          exact ⟨rfl, B.out⟩
        · have hge : (n0 : Int) ≤ a1 := by omega
          clear hbad
          go_enter Tryd.func3, Tryd.ntmps3
          obtain ⟨p0, p1, p2, p3, p4⟩ := VA.out.box
          go_wp2_with fail
          rw [← W0.out]
          clear W0
          refine (HD.out _ _ VA.out.at_).mono ?_
          rintro e u1 ⟨he, hb⟩
          obtain rfl : e = .returned (.int .i64 0) := he.out
          clear he
          have VA := Lib.hid (VA.out.on hb)
          have Z := Lib.hid (Z.out.on hb)
          have B := Lib.hid (B.out.trans (hb.mono B.out.size))
          clear hb
          clear HD
          clear p0 p1 p2 p3 p4
          obtain ⟨p0, p1, p2, p3, p4⟩ := VA.out.box
          go_wp2_with fail
          refine (HC.out _ _ VA.out.at_).mono ?_
          rintro e u2 ⟨he, hb⟩
          obtain rfl : e = .returned (.nilIface) := he.out
          clear he
          have VA := Lib.hid (VA.out.on hb)
          have Z := Lib.hid (Z.out.on hb)
          have B := Lib.hid (B.out.trans (hb.mono B.out.size))
          clear hb
          clear HC
          clear p0 p1 p2 p3 p4
          go_wp2_with fail
          refine (HE1.out _ B.out).mono ?_
          rintro e u3 ⟨rfl, hb⟩
          have VA := Lib.hid (VA.out.on hb)
          have Z := Lib.hid (Z.out.on hb)
          have B := Lib.hid (B.out.trans (hb.mono B.out.size))
          clear hb
          clear HE1
          obtain ⟨p0, p1, p2, p3, p4⟩ := VA.out.box
          go_wp2_with fail
          refine (HW.out _ Z.out).mono ?_
          rintro e u4 ⟨he, rfl⟩
          obtain rfl : e = .returned (.int .i64 0) := he.out
          clear he
          clear HW
          clear p0 p1 p2 p3 p4
          obtain ⟨p0, p1, p2, p3, p4⟩ := VA.out.box
          go_wp2_with fail
          refine (HA.out _ _ VA.out.at_ Z.out).mono ?_
          rintro e u5 ⟨he, hb⟩
          obtain rfl : e = .returned (.tuple #[.bool y, .nilIface]) := he.out
          clear he
          have VA := Lib.hid (VA.out.on hb)
          have Z := Lib.hid (Z.out.on hb)
          have B := Lib.hid (B.out.trans (hb.mono B.out.size))
          clear hb
          clear HA
          clear p0 p1 p2 p3 p4
          go_wp2_with fail
          refine (HE2.out _ B.out).mono ?_
          rintro e u6 ⟨rfl, hb⟩
          have VA := Lib.hid (VA.out.on hb)
          have Z := Lib.hid (Z.out.on hb)
          have B := Lib.hid (B.out.trans (hb.mono B.out.size))
          clear hb
          clear HE2
          obtain ⟨p0, p1, p2, p3, p4⟩ := VA.out.box
          go_wp2_with fail
          refine (HX.out _ _ VA.out.at_ Z.out).mono ?_
          rintro e u7 ⟨he, hb⟩
          obtain rfl : e = .returned (.bool y) := he.out
          clear he
          have VA := Lib.hid (VA.out.on hb)
          have Z := Lib.hid (Z.out.on hb)
          have B := Lib.hid (B.out.trans (hb.mono B.out.size))
          clear hb
          clear HX
          clear p0 p1 p2 p3 p4
          obtain ⟨p0, p1, p2, p3, p4⟩ := VA.out.box
          go_wp2_with fail
          refine (HR.out _ _ VA.out.at_ Z.out).mono ?_
          rintro e u8 ⟨he, hb⟩
          obtain rfl : e = .returned (.tuple #[.int .i64 0, errI 1]) := he.out
          clear he
          have VA := Lib.hid (VA.out.on hb)
          have Z := Lib.hid (Z.out.on hb)
          have B := Lib.hid (B.out.trans (hb.mono B.out.size))
          clear hb
          clear HR
          clear p0 p1 p2 p3 p4
          go_wp2_with fail
          refine (HE3.out _ B.out).mono ?_
          rintro e u9 ⟨rfl, hb⟩
          have VA := Lib.hid (VA.out.on hb)
          have Z := Lib.hid (Z.out.on hb)
          have B := Lib.hid (B.out.trans (hb.mono B.out.size))
          clear hb
          clear HE3
          go_wp2
          go_ret
          exact ⟨rfl, B.out⟩
    · have g3 : accErr d0 z2 = x + 1 := by unfold accErr; rw [if_neg (by omega), hL0, g2]
      have g4 := accOut_bad (d := d0) (z := z2) (by omega)
      have g6 : runErr d0 a1 z2 = x + 1 := by unfold runErr; rw [if_neg (by omega), hL0, if_pos (by omega), g2]
      have g7 : runOut d0 a1 z2 = 0 := by unfold runOut; rw [if_neg (by omega)]
      rw [g1] at HD HC HE1
      rw [g2] at HW
      rw [g3] at HE2
      rw [g3, g4] at HA
      rw [g6] at HE3
      rw [g6, g7] at HR
      rw [errV_succ] at HE2 HE3 HA HR
      have hne := int_ne (show ((x + 1 : Nat) : Int) ≠ 0 by omega)
      clear g1 g2 g3 g4 g6 g7 hq hN0 hL0
      generalize ((x + 1 : Nat) : Int) = E at *
      go_enter Tryd.func3, Tryd.ntmps3
      obtain ⟨p0, p1, p2, p3, p4⟩ := VA.out.box
      go_wp2_with fail
      rw [← W0.out]
      clear W0
      refine (HD.out _ _ VA.out.at_).mono ?_
      rintro e u1 ⟨he, hb⟩
      obtain rfl : e = .returned (.int .i64 0) := he.out
      clear he
      have VA := Lib.hid (VA.out.on hb)
      have Z := Lib.hid (Z.out.on hb)
      have B := Lib.hid (B.out.trans (hb.mono B.out.size))
      clear hb
      clear HD
      clear p0 p1 p2 p3 p4
      obtain ⟨p0, p1, p2, p3, p4⟩ := VA.out.box
      go_wp2_with fail
      refine (HC.out _ _ VA.out.at_).mono ?_
      rintro e u2 ⟨he, hb⟩
      obtain rfl : e = .returned (.nilIface) := he.out
      clear he
      have VA := Lib.hid (VA.out.on hb)
      have Z := Lib.hid (Z.out.on hb)
      have B := Lib.hid (B.out.trans (hb.mono B.out.size))
      clear hb
      clear HC
      clear p0 p1 p2 p3 p4
      go_wp2_with fail
      refine (HE1.out _ B.out).mono ?_
      rintro e u3 ⟨rfl, hb⟩
      have VA := Lib.hid (VA.out.on hb)
      have Z := Lib.hid (Z.out.on hb)
      have B := Lib.hid (B.out.trans (hb.mono B.out.size))
      clear hb
      clear HE1
      obtain ⟨p0, p1, p2, p3, p4⟩ := VA.out.box
      go_wp2_with fail
      refine (HW.out _ Z.out).mono ?_
      rintro e u4 ⟨he, rfl⟩
      obtain rfl : e = .returned (.int .i64 E) := he.out
      clear he
      clear HW
      clear p0 p1 p2 p3 p4
      obtain ⟨p0, p1, p2, p3, p4⟩ := VA.out.box
      go_wp2_with fail
      refine (HA.out _ _ VA.out.at_ Z.out).mono ?_
      rintro e u5 ⟨he, hb⟩
      obtain rfl : e = .returned (.tuple #[.bool false, errI E]) := he.out
      clear he
      have VA := Lib.hid (VA.out.on hb)
      have Z := Lib.hid (Z.out.on hb)
      have B := Lib.hid (B.out.trans (hb.mono B.out.size))
      clear hb
      clear HA
      clear p0 p1 p2 p3 p4
      go_wp2_with fail
      refine (HE2.out _ B.out).mono ?_
      rintro e u6 ⟨rfl, hb⟩
      have VA := Lib.hid (VA.out.on hb)
      have Z := Lib.hid (Z.out.on hb)
      have B := Lib.hid (B.out.trans (hb.mono B.out.size))
      clear hb
      clear HE2
      obtain ⟨p0, p1, p2, p3, p4⟩ := VA.out.box
      go_wp2_with fail
      refine (HR.out _ _ VA.out.at_ Z.out).mono ?_
      rintro e u7 ⟨he, hb⟩
      obtain rfl : e = .returned (.tuple #[.int .i64 0, errI E]) := he.out
      clear he
      have VA := Lib.hid (VA.out.on hb)
      have Z := Lib.hid (Z.out.on hb)
      have B := Lib.hid (B.out.trans (hb.mono B.out.size))
      clear hb
      clear HR
      clear p0 p1 p2 p3 p4
      go_wp2_with fail
      refine (HE3.out _ B.out).mono ?_
      rintro e u8 ⟨rfl, hb⟩
      have VA := Lib.hid (VA.out.on hb)
      have Z := Lib.hid (Z.out.on hb)
      have B := Lib.hid (B.out.trans (hb.mono B.out.size))
      clear hb
      clear HE3
      go_wp2
      go_ret
      exact ⟨rfl, B.out⟩
  · have g3 : accErr d0 z2 = x + 1 := by unfold accErr; rw [if_pos (by omega), g1]
    have g4 := accOut_bad (d := d0) (z := z2) (by omega)
    have g6 : runErr d0 a1 z2 = x + 1 := by unfold runErr; rw [if_pos (by omega), g1]
    have g7 : runOut d0 a1 z2 = 0 := by unfold runOut; rw [if_neg (by omega)]
    rw [g1] at HD HC HE1
    rw [g3] at HE2
    rw [g3, g4] at HA
    rw [g6] at HE3
    rw [g6, g7] at HR
    rw [errV_succ] at HE1 HE2 HE3 HA HR HC
    have hne := int_ne (show ((x + 1 : Nat) : Int) ≠ 0 by omega)
    clear g1 g3 g4 g6 g7 hq hN0 hL0
    generalize ((x + 1 : Nat) : Int) = E at *
    go_enter Tryd.func3, Tryd.ntmps3
    obtain ⟨p0, p1, p2, p3, p4⟩ := VA.out.box
    go_wp2_with fail
    rw [← W0.out]
    clear W0
    refine (HD.out _ _ VA.out.at_).mono ?_
    rintro e u1 ⟨he, hb⟩
    obtain rfl : e = .returned (.int .i64 E) := he.out
    clear he
    have VA := Lib.hid (VA.out.on hb)
    have Z := Lib.hid (Z.out.on hb)
    have B := Lib.hid (B.out.trans (hb.mono B.out.size))
    clear hb
    clear HD
    clear p0 p1 p2 p3 p4
    obtain ⟨p0, p1, p2, p3, p4⟩ := VA.out.box
    go_wp2_with fail
    refine (HC.out _ _ VA.out.at_).mono ?_
    rintro e u2 ⟨he, hb⟩
    obtain rfl : e = .returned (errI E) := he.out
    clear he
    have VA := Lib.hid (VA.out.on hb)
    have Z := Lib.hid (Z.out.on hb)
    have B := Lib.hid (B.out.trans (hb.mono B.out.size))
    clear hb
    clear HC
    clear p0 p1 p2 p3 p4
    go_wp2_with fail
    refine (HE1.out _ B.out).mono ?_
    rintro e u3 ⟨rfl, hb⟩
    have VA := Lib.hid (VA.out.on hb)
    have Z := Lib.hid (Z.out.on hb)
    have B := Lib.hid (B.out.trans (hb.mono B.out.size))
    clear hb
    clear HE1
    obtain ⟨p0, p1, p2, p3, p4⟩ := VA.out.box
    go_wp2_with fail
    refine (HA.out _ _ VA.out.at_ Z.out).mono ?_
    rintro e u4 ⟨he, hb⟩
    obtain rfl : e = .returned (.tuple #[.bool false, errI E]) := he.out
    clear he
    have VA := Lib.hid (VA.out.on hb)
    have Z := Lib.hid (Z.out.on hb)
    have B := Lib.hid (B.out.trans (hb.mono B.out.size))
    clear hb
    clear HA
    clear p0 p1 p2 p3 p4
    go_wp2_with fail
    refine (HE2.out _ B.out).mono ?_
    rintro e u5 ⟨rfl, hb⟩
    have VA := Lib.hid (VA.out.on hb)
    have Z := Lib.hid (Z.out.on hb)
    have B := Lib.hid (B.out.trans (hb.mono B.out.size))
    clear hb
    clear HE2
    obtain ⟨p0, p1, p2, p3, p4⟩ := VA.out.box
    go_wp2_with fail
    refine (HR.out _ _ VA.out.at_ Z.out).mono ?_
    rintro e u6 ⟨he, hb⟩
    obtain rfl : e = .returned (.tuple #[.int .i64 0, errI E]) := he.out
    clear he
    have VA := Lib.hid (VA.out.on hb)
    have Z := Lib.hid (Z.out.on hb)
    have B := Lib.hid (B.out.trans (hb.mono B.out.size))
    clear hb
    clear HR
    clear p0 p1 p2 p3 p4
    go_wp2_with fail
    refine (HE3.out _ B.out).mono ?_
    rintro e u7 ⟨rfl, hb⟩
    have VA := Lib.hid (VA.out.on hb)
    have Z := Lib.hid (Z.out.on hb)
    have B := Lib.hid (B.out.trans (hb.mono B.out.size))
    clear hb
    clear HE3
    go_wp2
    go_ret
    exact ⟨rfl, B.out⟩


set_option maxRecDepth 100000 in
theorem lifted (os : Os) (started : os.Started) (H : Type) (enc : TypeId × Value → H) :
    ReturnsInHanded {} Tryd.checked os 3 .any (fun w args => (Rows.dfaSaysSpec.pre enc Tryd.prog Tryd.f3 Rows.dfaSaysRow.domain false w args ∧ laidMetH Tryd.prog [("errors.errorType", Rows.laid_errors_errorType)] w) ∧ sizedMet enc Tryd.prog Tryd.f3 (OpenSpec.ofChange Rows.dfaSaysSpec) false w args) (Rows.dfaSaysSpec.post enc Tryd.prog Tryd.f3 false true false false) := by
  refine returnsInHanded_of_change_and (C := Tryd.checked) (X := fun w _ => laidMetH Tryd.prog [("errors.errorType", Rows.laid_errors_errorType)] w) (fun _ _ _ hh h => h.of_heap hh) own started (by kernel_rfl) Tryd.func3
    (ChangeSpec.witness_at (enc := enc) (C := Tryd.checked) (os := os) (X := fun w _ => laidMetH Tryd.prog [("errors.errorType", Rows.laid_errors_errorType)] w) false (laidWorld os) #[.agg #[.int .i64 0, .int .i64 0, .slice none 0 0, .slice none 0 0], .int .i64 0, .slice none 0 0] 8 rfl (by kernel_rfl) (by kernel_rfl) (by kernel_rfl) (by kernel_rfl) (by kernel_rfl) (laidWorld_met os _)) ?_
  intro W base args ds gs before hval0 hW hcnd hsz0 hL _
  have hval : ∀ (j : Nat) t v, Tryd.f3.params[j]? = some t → args[j]? = some v → Value.okWide Tryd.prog W .any base t v := hval0
  have hsz : (DataW.weightsEach Tryd.prog (Tryd.f3.params.toList ++ Rows.dfaSaysSpec.plain.varTypes Tryd.prog) (ds ++ gs)).all (· ≤ reachBytes) = true := hsz0
  have hW' := hW
  obtain ⟨p, q, hA0, hV0, rfl, hfz, hnd⟩ := hW
  have hV : DataW.TrodVars enc Tryd.prog W (fun _ => true) [] gs q := hV0
  have hA : DataW.TrodAll enc Tryd.prog W 0 (fun _ => true) true Tryd.f3.params.toList args.toList ds p := hA0
  rw [Tryd.params3] at hA hval hsz
  obtain ⟨v0, vs0, d0, ds0, p0, q0, hargs, rfl, rfl, h0, rr0⟩ := trodAll_cons hA
  obtain ⟨v1, vs1, d1, ds1, p1, q1, rfl, rfl, rfl, h1, rr1⟩ := trodAll_cons rr0
  obtain ⟨v2, vs2, d2, ds2, p2, q2, rfl, rfl, rfl, h2, rr2⟩ := trodAll_cons rr1
  obtain ⟨rfl, rfl, rfl⟩ := trodAll_nil rr2
  obtain rfl : args = #[v0, v1, v2] := by cases args; simp_all
  obtain ⟨rfl, rfl⟩ := trodVars_none hV
  have k0 := h0
  have lt0 : ∀ x ∈ p0, x.block < W.heap.size := by obtain ⟨m, hm⟩ := k0; exact DataW.trod_lt m _ _ _ hm
  have k1 := h1
  have lt1 : ∀ x ∈ p1, x.block < W.heap.size := by obtain ⟨m, hm⟩ := k1; exact DataW.trod_lt m _ _ _ hm
  have k2 := h2
  have lt2 : ∀ x ∈ p2, x.block < W.heap.size := by obtain ⟨m, hm⟩ := k2; exact DataW.trod_lt m _ _ _ hm
  obtain ⟨D0, x0⟩ : ∃ d : Df.Aut, Df.DfaAt W W.heap.size v0 d := Df.dfa_open (hval 0 25 v0 rfl rfl) h0
  obtain ⟨a1, rfl, rfl, rfl, w1⟩ := open_int Tryd.underlying3 (hval 1 3 v1 rfl rfl) h1
  obtain ⟨l1, hh1⟩ := bounds_i64 w1
  obtain ⟨A2, len2, c2, rfl⟩ := okWide_slice Tryd.underlying26 (hval 2 26 v2 rfl rfl)
  obtain ⟨z2, rfl, x2, r2, m2⟩ : ∃ zs : List Int, len2 = zs.length ∧ IntsAt W W.heap.size A2 zs ∧ zs.length ≤ 17592186043904 ∧ zs.length ≤ c2 := by
    obtain ⟨fuel, hf⟩ := h2
    rcases open_ints Tryd.underlying26 Tryd.underlying3 (by kernel_rfl) hf with ⟨hcs, _⟩ | ⟨x, l, c, zs, hcs, _, hl, hm, hz, hx, hcell, hwz⟩
    · simp [Value.cells] at hcs
      obtain ⟨rfl, rfl, rfl⟩ := hcs
      exact ⟨[], rfl, IntsAt.nil _ _ _, by simp, by simp⟩
    · simp [Value.cells] at hcs
      obtain ⟨rfl, rfl, rfl⟩ := hcs
      have hd := congrArg Prod.fst hx
      simp only at hd
      have := sized_slice hsz (j := 2) (t := 26) (e := 3) rfl (by rw [hd]; rfl) Tryd.underlying26
      rw [(show Tryd.prog.bytesOf 3 = 8 by kernel_rfl)] at this
      simp only [reachBytes, lits, List.length_map, List.length_take, List.length_drop] at this
      have hz' : zs.length = c2 := by simpa using hz
      exact ⟨zs.take len2, by rw [List.length_take]; omega, intsAt_of_open hcell hwz len2, by rw [List.length_take]; omega, by rw [List.length_take]; omega⟩
  clear hA0 hval0
  refine (walk v0 D0 a1 A2 c2 z2 W x0 l1 hh1 x2 r2 m2 (handle_of_laid hL)).mono fun e W' ⟨he, bel⟩ => ?_
  subst he
  exact ⟨_, rfl, _, _, _, [], _, [], hW', trodAll_mk1 (shut_bool Tryd.underlying4 _), (trodAll_cons_mk (Below.trod laidOut (by kernel_rfl) (of_decide_eq_true (by kernel_rfl)) k0 bel lt0) (trodAll_cons_mk (Below.trod laidOut (by kernel_rfl) (of_decide_eq_true (by kernel_rfl)) k1 bel lt1) (trodAll_cons_mk (Below.trod laidOut (by kernel_rfl) (of_decide_eq_true (by kernel_rfl)) k2 bel lt2) trodAll_mk0))), rfl, bel.frame _, fun h => by cases h⟩

theorem over : Rows.dfaSaysRow.holds Tryd.pinned (OpenSpec.ofChange Rows.dfaSaysSpec) :=
  OpenClaim.holds_of_wide 3 Tryd.f3 rfl rfl rfl rfl rfl rfl rfl ⟨rfl, rfl, rfl, rfl, rfl⟩ rfl rfl rfl rfl rfl (by kernel_rfl) Tryd.func3 (by kernel_rfl)
    (of_decide_eq_true (by kernel_rfl)) (by unfold Func.isWrapper; rw [if_neg (of_decide_eq_false (by kernel_rfl))]; exact ⟨rfl, rfl⟩)
    (fun os started H enc _ => lifted os started H enc)
theorem proved : Rows.DfaSaysCardSaid :=
  Claim7.holds_tied_plain_at .later [] [.handle] true (true, "79422bc317647e98da3515ddd54c616c62872d918dc64e134f53a2f36d3d9ecc") true
    over (fun _ h => by cases h) (by kernel_rfl) (fun _ h => by cases h) dfaSays_row_tie rfl ⟨rfl, rfl⟩ (by kernel_rfl) rfl
    (fun f fn hf hfn => by
      obtain rfl : f = 3 := Option.some.inj ((show Tryd.prog.funcNamed "stileward/stilewardlaw2.DfaSays" = some 3 by kernel_rfl).symm.trans hf) |>.symm
      obtain rfl : fn = Tryd.f3 := (Option.some.inj (Tryd.func3.symm.trans hfn)).symm
      exact ⟨by kernel_rfl, fun j t ht => by
        rw [Tryd.params3] at ht
        rcases j with _ | _ | _ | j
        · obtain rfl : 25 = t := by simpa using ht
          exact (show Tryd.prog.wantsStandIn 25 = false by kernel_rfl)
        · obtain rfl : 3 = t := by simpa using ht
          exact (show Tryd.prog.wantsStandIn 3 = false by kernel_rfl)
        · obtain rfl : 26 = t := by simpa using ht
          exact (show Tryd.prog.wantsStandIn 26 = false by kernel_rfl)
        · simp at ht⟩)
    (by kernel_rfl)
#print axioms proved
end Go.Proofs.YtinehjfanabegaaDoor.dfaSays
