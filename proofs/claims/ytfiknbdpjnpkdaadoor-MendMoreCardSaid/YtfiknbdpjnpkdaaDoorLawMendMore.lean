/-
  The statement MendMoreCardSaid of this seat, proved: for every input the law returns true and its arguments read behind the call as before. Conditions: none but the row's own (each argument within the reach; the listed variable as the program lays it, tied by the given tie).
-/
import Derived.Test.YtfiknbdpjnpkdaaDoorRows
import Derived.Test.YtfiknbdpjnpkdaaDoorCards
import Derived.Test.YtfiknbdpjnpkdaaDoorTie
import Derived.SevenTiedAt
import Derived.LaidLaws
import Derived.LaidHandle
import Derived.LaidMore
import Derived.Lay
import Derived.MakeChecks
import Derived.Stop.Joined
import Derived.JoinedOf
import Derived.RowKit
import Derived.RowKitTokens
import Derived.ChangeSame
import Derived.ChangeVars
import Derived.Test.YtfiknbdpjnpkdaaDoorWords
import Derived.WalkKit
import Derived.ProofKit
import Derived.OpenShut
import Derived.ShutString
import Derived.ChangeOld
import Derived.Below
import Derived.SizedLaws
import Derived.Lib.Hide
import Derived.Test.YtfiknbdpjnpkdaaDoorMendV
import Derived.Test.YtfiknbdpjnpkdaaDoorDfaV
import Derived.Test.YtfiknbdpjnpkdaaDoorSays
import Derived.Deep.QuietTactic
import Derived.BigQuiet
namespace Go.Proofs.YtfiknbdpjnpkdaaDoor.mendMore
open Go.ChangeShapes Go.WideShapes Go.ChangeAt Go.RowKit Go.IntWalk Go.Proofs.YtfiknbdpjnpkdaaDoor.Wd
open Go.ChangeMaps (open_string shut_string)
set_option linter.unusedVariables false

theorem own : ownKnob Tryd.prog.godebug = none := by kernel_rfl
theorem laidOut : laidOutB Tryd.prog = true := by kernel_rfl
theorem et : Tryd.prog.globalNamed "errors.errorType" = some 0 := by kernel_rfl
theorem rt : (Tryd.prog.cutTypes.find? (·.1 == "internal/reflectlite.rtype")).map (·.2) = some 107 := by kernel_rfl
theorem oneRow : ((List.range 149).filter fun t => Tryd.prog.rowNamed t [101, 114, 114, 111, 114]) = [32] := by kernel_rfl
theorem size : Tryd.prog.types.size = 149 := by kernel_rfl
/-- What the condition gives a walk: the variable's one cell. -/
theorem handle_of_laid {w : World} (h : laidMetH Tryd.prog [("errors.errorType", Rows.laid_errors_errorType)] w) : w.cell? ⟨0, 0, none⟩ = some (.iface 107 (.agg #[.pointer (some ⟨1, 32, none⟩)])) := by
  have h' : laidMet Tryd.prog [] w ∧ handlesMet Tryd.prog [("errors.errorType", Rows.laid_errors_errorType)] w := h
  obtain ⟨name, u, ty, e1, e2, e3, e4, e5⟩ := h'.2 _ (List.mem_singleton.2 rfl)
  have en : name = [101, 114, 114, 111, 114] := (Option.some.inj e1).symm
  subst en
  obtain rfl := Option.some.inj (rt.symm.trans e2)
  have hm : ty ∈ (List.range 149).filter fun t => Tryd.prog.rowNamed t [101, 114, 114, 111, 114] := List.mem_filter.2 ⟨List.mem_range.2 (by rw [← size]; exact e3), e4⟩
  rw [oneRow] at hm
  obtain rfl := List.mem_singleton.1 hm
  have hh : typeHandle Tryd.prog 32 = .pointer (some ⟨1, 32, none⟩) := by kernel_rfl
  rw [hh] at e5
  simpa using World.var?_cell et e5 0
/-- A world that meets the condition. -/
noncomputable def laidWorld (os : Os) : World :=
  let w0 := World.holding Tryd.prog os ⟨#[], #[], []⟩
  { w0 with heap := w0.heap.modify 0 fun
      | .cells _ t frozen => .cells #[.iface 107 (.agg #[.pointer (some ⟨1, 32, none⟩)])] t frozen
      | o => o }
theorem laidWorld_met (os : Os) (args : Array Value) : laidMetH Tryd.prog [("errors.errorType", Rows.laid_errors_errorType)] ((laidWorld os).forCall (fun _ _ => 0) ⟨#[], args, []⟩).memory :=
  laidMetH_of_parts (laidMet_nil _ _) (by kernel_rfl)
open Go.Proofs.YtfiknbdpjnpkdaaDoor.Wo Go.Proofs.YtfiknbdpjnpkdaaDoor.Er Go.Proofs.YtfiknbdpjnpkdaaDoor.Df Go.Proofs.YtfiknbdpjnpkdaaDoor.Rc Go.Proofs.YtfiknbdpjnpkdaaDoor.Ne Go.Proofs.YtfiknbdpjnpkdaaDoor.Me
theorem says_gives {w : World} (hg : w.cell? ⟨0, 0, none⟩ = some (.iface 107 (.agg #[.pointer (some ⟨1, 32, none⟩)]))) (e : Nat) {E : Value} {K : Int} (hE : errV e = E) (hK : (e : Int) = K) (W : World) (hb : Below w.heap.size w W) :
    Calls Tryd.prog 11 #[E, .int .i64 K] W fun r w' => r = .returned (.bool true) ∧ Below W.heap.size W w' := by
  subst hE
  subst hK
  exact says e hg W hb

set_option maxRecDepth 100000 in
set_option maxHeartbeats 4000000 in
theorem walk (v0 : Value) (d0 : Df.Aut) (v1 : Value) (d1 : Df.Aut) (A2 : Option Addr) (c2 : Nat) (z2 : List Int) (w : World) (h0 : Df.DfaAt w w.heap.size v0 d0) (h1 : Df.DfaAt w w.heap.size v1 d1) (v2 : IntsAt w w.heap.size A2 z2) (r2 : z2.length ≤ 17592186043904) (m2 : z2.length ≤ c2) (hg : w.cell? ⟨0, 0, none⟩ = some (.iface 107 (.agg #[.pointer (some ⟨1, 32, none⟩)]))) :
    Calls Tryd.prog 6 #[v0, v1, .slice A2 z2.length c2] w fun e w' => e = .returned (.bool true) ∧ Below w.heap.size w w' := by
  have hr : z2.length ≤ 17592186044416 := by omega
  obtain ⟨L0, s0, A0, n0, c0, F0, m0, k0, rfl⟩ := h0.form
  have hN0 := h0.eqs.2.2.1
  obtain ⟨L1, s1, A1, n1, c1, F1, m1, k1, rfl⟩ := h1.form
  have hN1 := h1.eqs.2.2.1
  obtain ⟨u0, hu0, hb0, VA0, VB0⟩ := vars_two w h0 h1
  have VA := Lib.hid VA0
  have VB := Lib.hid VB0
  have B := Lib.hid hb0
  have W0 := Lib.hid hu0
  have HN0 := Lib.hid hN0
  have HN1 := Lib.hid hN1
  have Y := Lib.hid (v2.on hb0)
  clear VA0 hb0 hu0 h0 hN0 VB0 h1 hN1 v2
  clear HN0 HN1 m2
  have HF := Lib.hid mendFact_any
  have two : ∀ (d : Aut) (z : List Int), (∃ e, costO2 d z = (0, e + 1)) ∨ ∃ x, aErr d z = 0 ∧ mendW d z = some x ∧ costO2 d z = (x.1, 0) := fun d z => by
    rcases mendO2_ways d z with ⟨e, ha, hm, hc⟩ | ⟨ha, hx, hm, hc⟩ | ⟨x, ha, hx, hl, hm, hc⟩ | ⟨x, ha, hx, hl, hm, hc⟩
    · exact .inl ⟨e, hc⟩
    · exact .inl ⟨4, hc⟩
    · exact .inr ⟨x, ha, hx, hc⟩
    · exact .inr ⟨x, ha, hx, hc⟩
  rcases prod_two d0 d1 with ⟨k, hk⟩ | ⟨g2, l, hl⟩
  · have HE := Lib.hid (fun W v u (h : DfaAt W W.heap.size v d0) (h2 : DfaAt W W.heap.size u d1) => either_gives h h2 (hk _) rfl)
    have HB := Lib.hid (fun W v u (h : DfaAt W W.heap.size v d0) (h2 : DfaAt W W.heap.size u d1) => both_gives h h2 (hk _) rfl)
    rw [show errV (k + 1) = errI ((k + 1 : Nat) : Int) from rfl] at HE HB
    generalize ((k + 1 : Nat) : Int) = E at *
    clear hk
    rcases two d0 z2 with ⟨e1, hc1⟩ | ⟨x1, ha1, hx1, hc1⟩
    · rcases two d1 z2 with ⟨e2, hc2⟩ | ⟨x2, ha2, hx2, hc2⟩
      · obtain ⟨E1, hE1⟩ := errV_bad (k := e1 + 1) (by omega)
        have HC1 := Lib.hid (fun W v Z cz (h : DfaAt W W.heap.size v d0) (hZ : IntsAt W W.heap.size Z z2) => cost_gives (cz := cz) (C := 0) (E := errI E1) h hZ hr hc1 rfl hE1)
        obtain ⟨E2, hE2⟩ := errV_bad (k := e2 + 1) (by omega)
        have HC2 := Lib.hid (fun W v Z cz (h : DfaAt W W.heap.size v d1) (hZ : IntsAt W W.heap.size Z z2) => cost_gives (cz := cz) (C := 0) (E := errI E2) h hZ hr hc2 rfl hE2)
        clear two hc1 hc2 hr r2 hE1 hE2 
        go_enter Tryd.func6, Tryd.ntmps6
        go_wp2_with fail
        rw [← W0.out]
        clear W0
        refine (HF.out _).mono ?_
        rintro e u1 ⟨rfl, hb⟩
        have Y := Lib.hid (Y.out.on hb)
        have VA := Lib.hid (VA.out.on hb)
        have VB := Lib.hid (VB.out.on hb)
        have B := Lib.hid (B.out.trans (hb.mono B.out.size))
        clear hb  HF
        obtain ⟨p0, p1, p2, p3, p4⟩ := VA.out.box
        go_wp2_with fail
        refine (HC1.out _ _ _ _ VA.out.at_ Y.out).mono ?_
        rintro e u2 ⟨rfl, hb⟩
        have Y := Lib.hid (Y.out.on hb)
        have VA := Lib.hid (VA.out.on hb)
        have VB := Lib.hid (VB.out.on hb)
        have B := Lib.hid (B.out.trans (hb.mono B.out.size))
        clear hb p0 p1 p2 p3 p4 HC1
        obtain ⟨p0, p1, p2, p3, p4⟩ := VB.out.box
        go_wp2_with fail
        refine (HC2.out _ _ _ _ VB.out.at_ Y.out).mono ?_
        rintro e u3 ⟨rfl, hb⟩
        have Y := Lib.hid (Y.out.on hb)
        have VA := Lib.hid (VA.out.on hb)
        have VB := Lib.hid (VB.out.on hb)
        have B := Lib.hid (B.out.trans (hb.mono B.out.size))
        clear hb p0 p1 p2 p3 p4 HC2
        obtain ⟨p0, p1, p2, p3, p4⟩ := VA.out.box
        obtain ⟨q0, q1, q2, q3, q4⟩ := VB.out.box
        go_wp2_with fail
        refine (HE.out _ _ _ VA.out.at_ VB.out.at_).mono ?_
        rintro e u4 ⟨L14, s14, A14, n14, c14, F14, m14, k14, rfl, hd, hb⟩
        have Y := Lib.hid (Y.out.on hb)
        have VA := Lib.hid (VA.out.on hb)
        have VB := Lib.hid (VB.out.on hb)
        have B := Lib.hid (B.out.trans (hb.mono B.out.size))
        clear hb p0 p1 p2 p3 p4 q0 q1 q2 q3 q4 HE
        obtain ⟨x4, hx4, hbn, Vn⟩ := var_new u4 hd.out
        have VQ := Lib.hid Vn
        have Y := Lib.hid (Y.out.on hbn)
        have VA := Lib.hid (VA.out.on hbn)
        have VB := Lib.hid (VB.out.on hbn)
        have B := Lib.hid (B.out.trans (hbn.mono B.out.size))
        clear hbn Vn hd
        obtain ⟨p0, p1, p2, p3, p4⟩ := VA.out.box
        rw [hx4] at p1 p2 p3 p4
        obtain ⟨q0, q1, q2, q3, q4⟩ := VB.out.box
        rw [hx4] at q1 q2 q3 q4
        have HX := Lib.hid hx4
        clear hx4
        go_wp2_with fail
        rw [← HX.out]
        clear HX
        refine (HB.out _ _ _ VA.out.at_ VB.out.at_).mono ?_
        rintro e u5 ⟨L15, s15, A15, n15, c15, F15, m15, k15, rfl, hd, hb⟩
        have Y := Lib.hid (Y.out.on hb)
        have VA := Lib.hid (VA.out.on hb)
        have VB := Lib.hid (VB.out.on hb)
        have VQ := Lib.hid (VQ.out.on hb)
        have B := Lib.hid (B.out.trans (hb.mono B.out.size))
        clear hb p0 p1 p2 p3 p4 q0 q1 q2 q3 q4 HB
        obtain ⟨x5, hx5, hbn, Vn⟩ := var_new u5 hd.out
        have VP := Lib.hid Vn
        have Y := Lib.hid (Y.out.on hbn)
        have VA := Lib.hid (VA.out.on hbn)
        have VB := Lib.hid (VB.out.on hbn)
        have VQ := Lib.hid (VQ.out.on hbn)
        have B := Lib.hid (B.out.trans (hbn.mono B.out.size))
        clear hbn Vn hd
        rw [hx5] at B
        clear hx5
        go_wp2_with fail
        go_quiet (fail)
        go_wp2
        go_ret
        exact ⟨rfl, below_drewN B.out _⟩
      · obtain ⟨E1, hE1⟩ := errV_bad (k := e1 + 1) (by omega)
        have HC1 := Lib.hid (fun W v Z cz (h : DfaAt W W.heap.size v d0) (hZ : IntsAt W W.heap.size Z z2) => cost_gives (cz := cz) (C := 0) (E := errI E1) h hZ hr hc1 rfl hE1)
        obtain ⟨c2, l2⟩ := x2
        have HC2 := Lib.hid (fun W v Z cz (h : DfaAt W W.heap.size v d1) (hZ : IntsAt W W.heap.size Z z2) => cost_gives (cz := cz) (C := (c2 : Int)) (E := .nilIface) h hZ hr hc2 rfl rfl)
        clear two hc1 hc2 hr r2 hE1 ha2 hx2 
        go_enter Tryd.func6, Tryd.ntmps6
        go_wp2_with fail
        rw [← W0.out]
        clear W0
        refine (HF.out _).mono ?_
        rintro e u1 ⟨rfl, hb⟩
        have Y := Lib.hid (Y.out.on hb)
        have VA := Lib.hid (VA.out.on hb)
        have VB := Lib.hid (VB.out.on hb)
        have B := Lib.hid (B.out.trans (hb.mono B.out.size))
        clear hb  HF
        obtain ⟨p0, p1, p2, p3, p4⟩ := VA.out.box
        go_wp2_with fail
        refine (HC1.out _ _ _ _ VA.out.at_ Y.out).mono ?_
        rintro e u2 ⟨rfl, hb⟩
        have Y := Lib.hid (Y.out.on hb)
        have VA := Lib.hid (VA.out.on hb)
        have VB := Lib.hid (VB.out.on hb)
        have B := Lib.hid (B.out.trans (hb.mono B.out.size))
        clear hb p0 p1 p2 p3 p4 HC1
        obtain ⟨p0, p1, p2, p3, p4⟩ := VB.out.box
        go_wp2_with fail
        refine (HC2.out _ _ _ _ VB.out.at_ Y.out).mono ?_
        rintro e u3 ⟨rfl, hb⟩
        have Y := Lib.hid (Y.out.on hb)
        have VA := Lib.hid (VA.out.on hb)
        have VB := Lib.hid (VB.out.on hb)
        have B := Lib.hid (B.out.trans (hb.mono B.out.size))
        clear hb p0 p1 p2 p3 p4 HC2
        obtain ⟨p0, p1, p2, p3, p4⟩ := VA.out.box
        obtain ⟨q0, q1, q2, q3, q4⟩ := VB.out.box
        go_wp2_with fail
        refine (HE.out _ _ _ VA.out.at_ VB.out.at_).mono ?_
        rintro e u4 ⟨L14, s14, A14, n14, c14, F14, m14, k14, rfl, hd, hb⟩
        have Y := Lib.hid (Y.out.on hb)
        have VA := Lib.hid (VA.out.on hb)
        have VB := Lib.hid (VB.out.on hb)
        have B := Lib.hid (B.out.trans (hb.mono B.out.size))
        clear hb p0 p1 p2 p3 p4 q0 q1 q2 q3 q4 HE
        obtain ⟨x4, hx4, hbn, Vn⟩ := var_new u4 hd.out
        have VQ := Lib.hid Vn
        have Y := Lib.hid (Y.out.on hbn)
        have VA := Lib.hid (VA.out.on hbn)
        have VB := Lib.hid (VB.out.on hbn)
        have B := Lib.hid (B.out.trans (hbn.mono B.out.size))
        clear hbn Vn hd
        obtain ⟨p0, p1, p2, p3, p4⟩ := VA.out.box
        rw [hx4] at p1 p2 p3 p4
        obtain ⟨q0, q1, q2, q3, q4⟩ := VB.out.box
        rw [hx4] at q1 q2 q3 q4
        have HX := Lib.hid hx4
        clear hx4
        go_wp2_with fail
        rw [← HX.out]
        clear HX
        refine (HB.out _ _ _ VA.out.at_ VB.out.at_).mono ?_
        rintro e u5 ⟨L15, s15, A15, n15, c15, F15, m15, k15, rfl, hd, hb⟩
        have Y := Lib.hid (Y.out.on hb)
        have VA := Lib.hid (VA.out.on hb)
        have VB := Lib.hid (VB.out.on hb)
        have VQ := Lib.hid (VQ.out.on hb)
        have B := Lib.hid (B.out.trans (hb.mono B.out.size))
        clear hb p0 p1 p2 p3 p4 q0 q1 q2 q3 q4 HB
        obtain ⟨x5, hx5, hbn, Vn⟩ := var_new u5 hd.out
        have VP := Lib.hid Vn
        have Y := Lib.hid (Y.out.on hbn)
        have VA := Lib.hid (VA.out.on hbn)
        have VB := Lib.hid (VB.out.on hbn)
        have VQ := Lib.hid (VQ.out.on hbn)
        have B := Lib.hid (B.out.trans (hbn.mono B.out.size))
        clear hbn Vn hd
        rw [hx5] at B
        clear hx5
        go_wp2_with fail
        go_quiet (fail)
        go_wp2
        go_ret
        exact ⟨rfl, below_drewN B.out _⟩
    · rcases two d1 z2 with ⟨e2, hc2⟩ | ⟨x2, ha2, hx2, hc2⟩
      · obtain ⟨c1, l1⟩ := x1
        have HC1 := Lib.hid (fun W v Z cz (h : DfaAt W W.heap.size v d0) (hZ : IntsAt W W.heap.size Z z2) => cost_gives (cz := cz) (C := (c1 : Int)) (E := .nilIface) h hZ hr hc1 rfl rfl)
        obtain ⟨E2, hE2⟩ := errV_bad (k := e2 + 1) (by omega)
        have HC2 := Lib.hid (fun W v Z cz (h : DfaAt W W.heap.size v d1) (hZ : IntsAt W W.heap.size Z z2) => cost_gives (cz := cz) (C := 0) (E := errI E2) h hZ hr hc2 rfl hE2)
        clear two hc1 hc2 hr r2 ha1 hx1 hE2 
        go_enter Tryd.func6, Tryd.ntmps6
        go_wp2_with fail
        rw [← W0.out]
        clear W0
        refine (HF.out _).mono ?_
        rintro e u1 ⟨rfl, hb⟩
        have Y := Lib.hid (Y.out.on hb)
        have VA := Lib.hid (VA.out.on hb)
        have VB := Lib.hid (VB.out.on hb)
        have B := Lib.hid (B.out.trans (hb.mono B.out.size))
        clear hb  HF
        obtain ⟨p0, p1, p2, p3, p4⟩ := VA.out.box
        go_wp2_with fail
        refine (HC1.out _ _ _ _ VA.out.at_ Y.out).mono ?_
        rintro e u2 ⟨rfl, hb⟩
        have Y := Lib.hid (Y.out.on hb)
        have VA := Lib.hid (VA.out.on hb)
        have VB := Lib.hid (VB.out.on hb)
        have B := Lib.hid (B.out.trans (hb.mono B.out.size))
        clear hb p0 p1 p2 p3 p4 HC1
        obtain ⟨p0, p1, p2, p3, p4⟩ := VB.out.box
        go_wp2_with fail
        refine (HC2.out _ _ _ _ VB.out.at_ Y.out).mono ?_
        rintro e u3 ⟨rfl, hb⟩
        have Y := Lib.hid (Y.out.on hb)
        have VA := Lib.hid (VA.out.on hb)
        have VB := Lib.hid (VB.out.on hb)
        have B := Lib.hid (B.out.trans (hb.mono B.out.size))
        clear hb p0 p1 p2 p3 p4 HC2
        obtain ⟨p0, p1, p2, p3, p4⟩ := VA.out.box
        obtain ⟨q0, q1, q2, q3, q4⟩ := VB.out.box
        go_wp2_with fail
        refine (HE.out _ _ _ VA.out.at_ VB.out.at_).mono ?_
        rintro e u4 ⟨L14, s14, A14, n14, c14, F14, m14, k14, rfl, hd, hb⟩
        have Y := Lib.hid (Y.out.on hb)
        have VA := Lib.hid (VA.out.on hb)
        have VB := Lib.hid (VB.out.on hb)
        have B := Lib.hid (B.out.trans (hb.mono B.out.size))
        clear hb p0 p1 p2 p3 p4 q0 q1 q2 q3 q4 HE
        obtain ⟨x4, hx4, hbn, Vn⟩ := var_new u4 hd.out
        have VQ := Lib.hid Vn
        have Y := Lib.hid (Y.out.on hbn)
        have VA := Lib.hid (VA.out.on hbn)
        have VB := Lib.hid (VB.out.on hbn)
        have B := Lib.hid (B.out.trans (hbn.mono B.out.size))
        clear hbn Vn hd
        obtain ⟨p0, p1, p2, p3, p4⟩ := VA.out.box
        rw [hx4] at p1 p2 p3 p4
        obtain ⟨q0, q1, q2, q3, q4⟩ := VB.out.box
        rw [hx4] at q1 q2 q3 q4
        have HX := Lib.hid hx4
        clear hx4
        go_wp2_with fail
        rw [← HX.out]
        clear HX
        refine (HB.out _ _ _ VA.out.at_ VB.out.at_).mono ?_
        rintro e u5 ⟨L15, s15, A15, n15, c15, F15, m15, k15, rfl, hd, hb⟩
        have Y := Lib.hid (Y.out.on hb)
        have VA := Lib.hid (VA.out.on hb)
        have VB := Lib.hid (VB.out.on hb)
        have VQ := Lib.hid (VQ.out.on hb)
        have B := Lib.hid (B.out.trans (hb.mono B.out.size))
        clear hb p0 p1 p2 p3 p4 q0 q1 q2 q3 q4 HB
        obtain ⟨x5, hx5, hbn, Vn⟩ := var_new u5 hd.out
        have VP := Lib.hid Vn
        have Y := Lib.hid (Y.out.on hbn)
        have VA := Lib.hid (VA.out.on hbn)
        have VB := Lib.hid (VB.out.on hbn)
        have VQ := Lib.hid (VQ.out.on hbn)
        have B := Lib.hid (B.out.trans (hbn.mono B.out.size))
        clear hbn Vn hd
        rw [hx5] at B
        clear hx5
        go_wp2_with fail
        go_quiet (fail)
        go_wp2
        go_ret
        exact ⟨rfl, below_drewN B.out _⟩
      · obtain ⟨c1, l1⟩ := x1
        have HC1 := Lib.hid (fun W v Z cz (h : DfaAt W W.heap.size v d0) (hZ : IntsAt W W.heap.size Z z2) => cost_gives (cz := cz) (C := (c1 : Int)) (E := .nilIface) h hZ hr hc1 rfl rfl)
        obtain ⟨c2, l2⟩ := x2
        have HC2 := Lib.hid (fun W v Z cz (h : DfaAt W W.heap.size v d1) (hZ : IntsAt W W.heap.size Z z2) => cost_gives (cz := cz) (C := (c2 : Int)) (E := .nilIface) h hZ hr hc2 rfl rfl)
        clear two hc1 hc2 hr r2 ha1 hx1 ha2 hx2 
        go_enter Tryd.func6, Tryd.ntmps6
        go_wp2_with fail
        rw [← W0.out]
        clear W0
        refine (HF.out _).mono ?_
        rintro e u1 ⟨rfl, hb⟩
        have Y := Lib.hid (Y.out.on hb)
        have VA := Lib.hid (VA.out.on hb)
        have VB := Lib.hid (VB.out.on hb)
        have B := Lib.hid (B.out.trans (hb.mono B.out.size))
        clear hb  HF
        obtain ⟨p0, p1, p2, p3, p4⟩ := VA.out.box
        go_wp2_with fail
        refine (HC1.out _ _ _ _ VA.out.at_ Y.out).mono ?_
        rintro e u2 ⟨rfl, hb⟩
        have Y := Lib.hid (Y.out.on hb)
        have VA := Lib.hid (VA.out.on hb)
        have VB := Lib.hid (VB.out.on hb)
        have B := Lib.hid (B.out.trans (hb.mono B.out.size))
        clear hb p0 p1 p2 p3 p4 HC1
        obtain ⟨p0, p1, p2, p3, p4⟩ := VB.out.box
        go_wp2_with fail
        refine (HC2.out _ _ _ _ VB.out.at_ Y.out).mono ?_
        rintro e u3 ⟨rfl, hb⟩
        have Y := Lib.hid (Y.out.on hb)
        have VA := Lib.hid (VA.out.on hb)
        have VB := Lib.hid (VB.out.on hb)
        have B := Lib.hid (B.out.trans (hb.mono B.out.size))
        clear hb p0 p1 p2 p3 p4 HC2
        obtain ⟨p0, p1, p2, p3, p4⟩ := VA.out.box
        obtain ⟨q0, q1, q2, q3, q4⟩ := VB.out.box
        go_wp2_with fail
        refine (HE.out _ _ _ VA.out.at_ VB.out.at_).mono ?_
        rintro e u4 ⟨L14, s14, A14, n14, c14, F14, m14, k14, rfl, hd, hb⟩
        have Y := Lib.hid (Y.out.on hb)
        have VA := Lib.hid (VA.out.on hb)
        have VB := Lib.hid (VB.out.on hb)
        have B := Lib.hid (B.out.trans (hb.mono B.out.size))
        clear hb p0 p1 p2 p3 p4 q0 q1 q2 q3 q4 HE
        obtain ⟨x4, hx4, hbn, Vn⟩ := var_new u4 hd.out
        have VQ := Lib.hid Vn
        have Y := Lib.hid (Y.out.on hbn)
        have VA := Lib.hid (VA.out.on hbn)
        have VB := Lib.hid (VB.out.on hbn)
        have B := Lib.hid (B.out.trans (hbn.mono B.out.size))
        clear hbn Vn hd
        obtain ⟨p0, p1, p2, p3, p4⟩ := VA.out.box
        rw [hx4] at p1 p2 p3 p4
        obtain ⟨q0, q1, q2, q3, q4⟩ := VB.out.box
        rw [hx4] at q1 q2 q3 q4
        have HX := Lib.hid hx4
        clear hx4
        go_wp2_with fail
        rw [← HX.out]
        clear HX
        refine (HB.out _ _ _ VA.out.at_ VB.out.at_).mono ?_
        rintro e u5 ⟨L15, s15, A15, n15, c15, F15, m15, k15, rfl, hd, hb⟩
        have Y := Lib.hid (Y.out.on hb)
        have VA := Lib.hid (VA.out.on hb)
        have VB := Lib.hid (VB.out.on hb)
        have VQ := Lib.hid (VQ.out.on hb)
        have B := Lib.hid (B.out.trans (hb.mono B.out.size))
        clear hb p0 p1 p2 p3 p4 q0 q1 q2 q3 q4 HB
        obtain ⟨x5, hx5, hbn, Vn⟩ := var_new u5 hd.out
        have VP := Lib.hid Vn
        have Y := Lib.hid (Y.out.on hbn)
        have VA := Lib.hid (VA.out.on hbn)
        have VB := Lib.hid (VB.out.on hbn)
        have VQ := Lib.hid (VQ.out.on hbn)
        have B := Lib.hid (B.out.trans (hbn.mono B.out.size))
        clear hbn Vn hd
        rw [hx5] at B
        clear hx5
        go_wp2_with fail
        go_quiet (fail)
        go_wp2
        go_ret
        exact ⟨rfl, below_drewN B.out _⟩
  · have HE := Lib.hid (fun W v u (h : DfaAt W W.heap.size v d0) (h2 : DfaAt W W.heap.size u d1) => either_gives (E := .nilIface) h h2 (prod_ok g2 hl _) rfl)
    have HB := Lib.hid (fun W v u (h : DfaAt W W.heap.size v d0) (h2 : DfaAt W W.heap.size u d1) => both_gives (E := .nilIface) h h2 (prod_ok g2 hl _) rfl)
    rcases two d0 z2 with ⟨e1, hc1⟩ | ⟨x1, ha1, hx1, hc1⟩
    · rcases two d1 z2 with ⟨e2, hc2⟩ | ⟨x2, ha2, hx2, hc2⟩
      · obtain ⟨E1, hE1⟩ := errV_bad (k := e1 + 1) (by omega)
        have HC1 := Lib.hid (fun W v Z cz (h : DfaAt W W.heap.size v d0) (hZ : IntsAt W W.heap.size Z z2) => cost_gives (cz := cz) (C := 0) (E := errI E1) h hZ hr hc1 rfl hE1)
        obtain ⟨E2, hE2⟩ := errV_bad (k := e2 + 1) (by omega)
        have HC2 := Lib.hid (fun W v Z cz (h : DfaAt W W.heap.size v d1) (hZ : IntsAt W W.heap.size Z z2) => cost_gives (cz := cz) (C := 0) (E := errI E2) h hZ hr hc2 rfl hE2)
        clear two hc1 hc2 hr r2 hE1 hE2 hl g2
        go_enter Tryd.func6, Tryd.ntmps6
        go_wp2_with fail
        rw [← W0.out]
        clear W0
        refine (HF.out _).mono ?_
        rintro e u1 ⟨rfl, hb⟩
        have Y := Lib.hid (Y.out.on hb)
        have VA := Lib.hid (VA.out.on hb)
        have VB := Lib.hid (VB.out.on hb)
        have B := Lib.hid (B.out.trans (hb.mono B.out.size))
        clear hb  HF
        obtain ⟨p0, p1, p2, p3, p4⟩ := VA.out.box
        go_wp2_with fail
        refine (HC1.out _ _ _ _ VA.out.at_ Y.out).mono ?_
        rintro e u2 ⟨rfl, hb⟩
        have Y := Lib.hid (Y.out.on hb)
        have VA := Lib.hid (VA.out.on hb)
        have VB := Lib.hid (VB.out.on hb)
        have B := Lib.hid (B.out.trans (hb.mono B.out.size))
        clear hb p0 p1 p2 p3 p4 HC1
        obtain ⟨p0, p1, p2, p3, p4⟩ := VB.out.box
        go_wp2_with fail
        refine (HC2.out _ _ _ _ VB.out.at_ Y.out).mono ?_
        rintro e u3 ⟨rfl, hb⟩
        have Y := Lib.hid (Y.out.on hb)
        have VA := Lib.hid (VA.out.on hb)
        have VB := Lib.hid (VB.out.on hb)
        have B := Lib.hid (B.out.trans (hb.mono B.out.size))
        clear hb p0 p1 p2 p3 p4 HC2
        obtain ⟨p0, p1, p2, p3, p4⟩ := VA.out.box
        obtain ⟨q0, q1, q2, q3, q4⟩ := VB.out.box
        go_wp2_with fail
        refine (HE.out _ _ _ VA.out.at_ VB.out.at_).mono ?_
        rintro e u4 ⟨L14, s14, A14, n14, c14, F14, m14, k14, rfl, hd, hb⟩
        have Y := Lib.hid (Y.out.on hb)
        have VA := Lib.hid (VA.out.on hb)
        have VB := Lib.hid (VB.out.on hb)
        have B := Lib.hid (B.out.trans (hb.mono B.out.size))
        clear hb p0 p1 p2 p3 p4 q0 q1 q2 q3 q4 HE
        obtain ⟨x4, hx4, hbn, Vn⟩ := var_new u4 hd.out
        have VQ := Lib.hid Vn
        have Y := Lib.hid (Y.out.on hbn)
        have VA := Lib.hid (VA.out.on hbn)
        have VB := Lib.hid (VB.out.on hbn)
        have B := Lib.hid (B.out.trans (hbn.mono B.out.size))
        clear hbn Vn hd
        obtain ⟨p0, p1, p2, p3, p4⟩ := VA.out.box
        rw [hx4] at p1 p2 p3 p4
        obtain ⟨q0, q1, q2, q3, q4⟩ := VB.out.box
        rw [hx4] at q1 q2 q3 q4
        have HX := Lib.hid hx4
        clear hx4
        go_wp2_with fail
        rw [← HX.out]
        clear HX
        refine (HB.out _ _ _ VA.out.at_ VB.out.at_).mono ?_
        rintro e u5 ⟨L15, s15, A15, n15, c15, F15, m15, k15, rfl, hd, hb⟩
        have Y := Lib.hid (Y.out.on hb)
        have VA := Lib.hid (VA.out.on hb)
        have VB := Lib.hid (VB.out.on hb)
        have VQ := Lib.hid (VQ.out.on hb)
        have B := Lib.hid (B.out.trans (hb.mono B.out.size))
        clear hb p0 p1 p2 p3 p4 q0 q1 q2 q3 q4 HB
        obtain ⟨x5, hx5, hbn, Vn⟩ := var_new u5 hd.out
        have VP := Lib.hid Vn
        have Y := Lib.hid (Y.out.on hbn)
        have VA := Lib.hid (VA.out.on hbn)
        have VB := Lib.hid (VB.out.on hbn)
        have VQ := Lib.hid (VQ.out.on hbn)
        have B := Lib.hid (B.out.trans (hbn.mono B.out.size))
        clear hbn Vn hd
        rw [hx5] at B
        clear hx5
        go_wp2_with fail
        go_quiet (fail)
        go_wp2
        go_ret
        exact ⟨rfl, below_drewN B.out _⟩
      · obtain ⟨E1, hE1⟩ := errV_bad (k := e1 + 1) (by omega)
        have HC1 := Lib.hid (fun W v Z cz (h : DfaAt W W.heap.size v d0) (hZ : IntsAt W W.heap.size Z z2) => cost_gives (cz := cz) (C := 0) (E := errI E1) h hZ hr hc1 rfl hE1)
        obtain ⟨c2, l2⟩ := x2
        have HC2 := Lib.hid (fun W v Z cz (h : DfaAt W W.heap.size v d1) (hZ : IntsAt W W.heap.size Z z2) => cost_gives (cz := cz) (C := (c2 : Int)) (E := .nilIface) h hZ hr hc2 rfl rfl)
        clear two hc1 hc2 hr r2 hE1 ha2 hx2 hl g2
        go_enter Tryd.func6, Tryd.ntmps6
        go_wp2_with fail
        rw [← W0.out]
        clear W0
        refine (HF.out _).mono ?_
        rintro e u1 ⟨rfl, hb⟩
        have Y := Lib.hid (Y.out.on hb)
        have VA := Lib.hid (VA.out.on hb)
        have VB := Lib.hid (VB.out.on hb)
        have B := Lib.hid (B.out.trans (hb.mono B.out.size))
        clear hb  HF
        obtain ⟨p0, p1, p2, p3, p4⟩ := VA.out.box
        go_wp2_with fail
        refine (HC1.out _ _ _ _ VA.out.at_ Y.out).mono ?_
        rintro e u2 ⟨rfl, hb⟩
        have Y := Lib.hid (Y.out.on hb)
        have VA := Lib.hid (VA.out.on hb)
        have VB := Lib.hid (VB.out.on hb)
        have B := Lib.hid (B.out.trans (hb.mono B.out.size))
        clear hb p0 p1 p2 p3 p4 HC1
        obtain ⟨p0, p1, p2, p3, p4⟩ := VB.out.box
        go_wp2_with fail
        refine (HC2.out _ _ _ _ VB.out.at_ Y.out).mono ?_
        rintro e u3 ⟨rfl, hb⟩
        have Y := Lib.hid (Y.out.on hb)
        have VA := Lib.hid (VA.out.on hb)
        have VB := Lib.hid (VB.out.on hb)
        have B := Lib.hid (B.out.trans (hb.mono B.out.size))
        clear hb p0 p1 p2 p3 p4 HC2
        obtain ⟨p0, p1, p2, p3, p4⟩ := VA.out.box
        obtain ⟨q0, q1, q2, q3, q4⟩ := VB.out.box
        go_wp2_with fail
        refine (HE.out _ _ _ VA.out.at_ VB.out.at_).mono ?_
        rintro e u4 ⟨L14, s14, A14, n14, c14, F14, m14, k14, rfl, hd, hb⟩
        have Y := Lib.hid (Y.out.on hb)
        have VA := Lib.hid (VA.out.on hb)
        have VB := Lib.hid (VB.out.on hb)
        have B := Lib.hid (B.out.trans (hb.mono B.out.size))
        clear hb p0 p1 p2 p3 p4 q0 q1 q2 q3 q4 HE
        obtain ⟨x4, hx4, hbn, Vn⟩ := var_new u4 hd.out
        have VQ := Lib.hid Vn
        have Y := Lib.hid (Y.out.on hbn)
        have VA := Lib.hid (VA.out.on hbn)
        have VB := Lib.hid (VB.out.on hbn)
        have B := Lib.hid (B.out.trans (hbn.mono B.out.size))
        clear hbn Vn hd
        obtain ⟨p0, p1, p2, p3, p4⟩ := VA.out.box
        rw [hx4] at p1 p2 p3 p4
        obtain ⟨q0, q1, q2, q3, q4⟩ := VB.out.box
        rw [hx4] at q1 q2 q3 q4
        have HX := Lib.hid hx4
        clear hx4
        go_wp2_with fail
        rw [← HX.out]
        clear HX
        refine (HB.out _ _ _ VA.out.at_ VB.out.at_).mono ?_
        rintro e u5 ⟨L15, s15, A15, n15, c15, F15, m15, k15, rfl, hd, hb⟩
        have Y := Lib.hid (Y.out.on hb)
        have VA := Lib.hid (VA.out.on hb)
        have VB := Lib.hid (VB.out.on hb)
        have VQ := Lib.hid (VQ.out.on hb)
        have B := Lib.hid (B.out.trans (hb.mono B.out.size))
        clear hb p0 p1 p2 p3 p4 q0 q1 q2 q3 q4 HB
        obtain ⟨x5, hx5, hbn, Vn⟩ := var_new u5 hd.out
        have VP := Lib.hid Vn
        have Y := Lib.hid (Y.out.on hbn)
        have VA := Lib.hid (VA.out.on hbn)
        have VB := Lib.hid (VB.out.on hbn)
        have VQ := Lib.hid (VQ.out.on hbn)
        have B := Lib.hid (B.out.trans (hbn.mono B.out.size))
        clear hbn Vn hd
        rw [hx5] at B
        clear hx5
        go_wp2_with fail
        go_quiet (fail)
        go_wp2
        go_ret
        exact ⟨rfl, below_drewN B.out _⟩
    · rcases two d1 z2 with ⟨e2, hc2⟩ | ⟨x2, ha2, hx2, hc2⟩
      · obtain ⟨c1, l1⟩ := x1
        have HC1 := Lib.hid (fun W v Z cz (h : DfaAt W W.heap.size v d0) (hZ : IntsAt W W.heap.size Z z2) => cost_gives (cz := cz) (C := (c1 : Int)) (E := .nilIface) h hZ hr hc1 rfl rfl)
        obtain ⟨E2, hE2⟩ := errV_bad (k := e2 + 1) (by omega)
        have HC2 := Lib.hid (fun W v Z cz (h : DfaAt W W.heap.size v d1) (hZ : IntsAt W W.heap.size Z z2) => cost_gives (cz := cz) (C := 0) (E := errI E2) h hZ hr hc2 rfl hE2)
        clear two hc1 hc2 hr r2 ha1 hx1 hE2 hl g2
        go_enter Tryd.func6, Tryd.ntmps6
        go_wp2_with fail
        rw [← W0.out]
        clear W0
        refine (HF.out _).mono ?_
        rintro e u1 ⟨rfl, hb⟩
        have Y := Lib.hid (Y.out.on hb)
        have VA := Lib.hid (VA.out.on hb)
        have VB := Lib.hid (VB.out.on hb)
        have B := Lib.hid (B.out.trans (hb.mono B.out.size))
        clear hb  HF
        obtain ⟨p0, p1, p2, p3, p4⟩ := VA.out.box
        go_wp2_with fail
        refine (HC1.out _ _ _ _ VA.out.at_ Y.out).mono ?_
        rintro e u2 ⟨rfl, hb⟩
        have Y := Lib.hid (Y.out.on hb)
        have VA := Lib.hid (VA.out.on hb)
        have VB := Lib.hid (VB.out.on hb)
        have B := Lib.hid (B.out.trans (hb.mono B.out.size))
        clear hb p0 p1 p2 p3 p4 HC1
        obtain ⟨p0, p1, p2, p3, p4⟩ := VB.out.box
        go_wp2_with fail
        refine (HC2.out _ _ _ _ VB.out.at_ Y.out).mono ?_
        rintro e u3 ⟨rfl, hb⟩
        have Y := Lib.hid (Y.out.on hb)
        have VA := Lib.hid (VA.out.on hb)
        have VB := Lib.hid (VB.out.on hb)
        have B := Lib.hid (B.out.trans (hb.mono B.out.size))
        clear hb p0 p1 p2 p3 p4 HC2
        obtain ⟨p0, p1, p2, p3, p4⟩ := VA.out.box
        obtain ⟨q0, q1, q2, q3, q4⟩ := VB.out.box
        go_wp2_with fail
        refine (HE.out _ _ _ VA.out.at_ VB.out.at_).mono ?_
        rintro e u4 ⟨L14, s14, A14, n14, c14, F14, m14, k14, rfl, hd, hb⟩
        have Y := Lib.hid (Y.out.on hb)
        have VA := Lib.hid (VA.out.on hb)
        have VB := Lib.hid (VB.out.on hb)
        have B := Lib.hid (B.out.trans (hb.mono B.out.size))
        clear hb p0 p1 p2 p3 p4 q0 q1 q2 q3 q4 HE
        obtain ⟨x4, hx4, hbn, Vn⟩ := var_new u4 hd.out
        have VQ := Lib.hid Vn
        have Y := Lib.hid (Y.out.on hbn)
        have VA := Lib.hid (VA.out.on hbn)
        have VB := Lib.hid (VB.out.on hbn)
        have B := Lib.hid (B.out.trans (hbn.mono B.out.size))
        clear hbn Vn hd
        obtain ⟨p0, p1, p2, p3, p4⟩ := VA.out.box
        rw [hx4] at p1 p2 p3 p4
        obtain ⟨q0, q1, q2, q3, q4⟩ := VB.out.box
        rw [hx4] at q1 q2 q3 q4
        have HX := Lib.hid hx4
        clear hx4
        go_wp2_with fail
        rw [← HX.out]
        clear HX
        refine (HB.out _ _ _ VA.out.at_ VB.out.at_).mono ?_
        rintro e u5 ⟨L15, s15, A15, n15, c15, F15, m15, k15, rfl, hd, hb⟩
        have Y := Lib.hid (Y.out.on hb)
        have VA := Lib.hid (VA.out.on hb)
        have VB := Lib.hid (VB.out.on hb)
        have VQ := Lib.hid (VQ.out.on hb)
        have B := Lib.hid (B.out.trans (hb.mono B.out.size))
        clear hb p0 p1 p2 p3 p4 q0 q1 q2 q3 q4 HB
        obtain ⟨x5, hx5, hbn, Vn⟩ := var_new u5 hd.out
        have VP := Lib.hid Vn
        have Y := Lib.hid (Y.out.on hbn)
        have VA := Lib.hid (VA.out.on hbn)
        have VB := Lib.hid (VB.out.on hbn)
        have VQ := Lib.hid (VQ.out.on hbn)
        have B := Lib.hid (B.out.trans (hbn.mono B.out.size))
        clear hbn Vn hd
        rw [hx5] at B
        clear hx5
        go_wp2_with fail
        go_quiet (fail)
        go_wp2
        go_ret
        exact ⟨rfl, below_drewN B.out _⟩
      · have g22 := (aErr_good ha1).2
        have hfz2 := chk_iff.1 g22
        have hQg : Df.Good (autOf d0.L (S2 d0 d1) l (fun p => (fun x y => x || y) (finA d0 p.1) (finA d1 p.2))) := prod_good g2 hl _
        have hPg : Df.Good (autOf d0.L (S2 d0 d1) l (fun p => (fun x y => x && y) (finA d0 p.1) (finA d1 p.2))) := prod_good g2 hl _
        obtain ⟨t, ht1, ht2⟩ := mend_either (a := d0) (b := d1) (c := (autOf d0.L (S2 d0 d1) l (fun p => (fun x y => x || y) (finA d0 p.1) (finA d1 p.2)))) rfl g2.eL.symm (fun u hu => prod_acc g2 hl (fun x y => x || y) hu) hx1 hx2
        have hcq := costO2_some (aErr_zero hQg hfz2) ht1
        have hpa := aErr_zero hPg hfz2
        have hpm : ∀ y, mendW (autOf d0.L (S2 d0 d1) l (fun p => (fun x y => x && y) (finA d0 p.1) (finA d1 p.2))) z2 = some y → max x1.1 x2.1 ≤ y.1 := fun y hy => mend_both (a := d0) (b := d1) (c := (autOf d0.L (S2 d0 d1) l (fun p => (fun x y => x && y) (finA d0 p.1) (finA d1 p.2)))) rfl g2.eL.symm (fun u hu => prod_acc g2 hl (fun x y => x && y) hu) hx1 hx2 hy
        have hpw := mendO2_ways (autOf d0.L (S2 d0 d1) l (fun p => (fun x y => x && y) (finA d0 p.1) (finA d1 p.2))) z2
        generalize hQQ : (autOf d0.L (S2 d0 d1) l (fun p => (fun x y => x || y) (finA d0 p.1) (finA d1 p.2))) = Q at *
        generalize hPP : (autOf d0.L (S2 d0 d1) l (fun p => (fun x y => x && y) (finA d0 p.1) (finA d1 p.2))) = P at *
        obtain ⟨c1, l1⟩ := x1
        have HC1 := Lib.hid (fun W v Z cz (h : DfaAt W W.heap.size v d0) (hZ : IntsAt W W.heap.size Z z2) => cost_gives (cz := cz) (C := (c1 : Int)) (E := .nilIface) h hZ hr hc1 rfl rfl)
        obtain ⟨c2, l2⟩ := x2
        have HC2 := Lib.hid (fun W v Z cz (h : DfaAt W W.heap.size v d1) (hZ : IntsAt W W.heap.size Z z2) => cost_gives (cz := cz) (C := (c2 : Int)) (E := .nilIface) h hZ hr hc2 rfl rfl)
        simp only at ht2 hpm
        rw [ht2] at hcq
        have hpw2 : costO2 P z2 = (0, 5) ∨ ∃ y, costO2 P z2 = (y, 0) ∧ max c1 c2 ≤ y := by
          rcases hpw with ⟨e, ha, _⟩ | ⟨_, _, _, hc⟩ | ⟨y, _, hy, _, _, hc⟩ | ⟨y, _, hy, _, _, hc⟩
          · omega
          · exact .inl hc
          · exact .inr ⟨y.1, hc, hpm y hy⟩
          · exact .inr ⟨y.1, hc, hpm y hy⟩
        have HCq := Lib.hid (fun W v Z cz (h : DfaAt W W.heap.size v Q) (hZ : IntsAt W W.heap.size Z z2) => cost_gives (cz := cz) (C := ((min c1 c2 : Nat) : Int)) (E := .nilIface) h hZ hr hcq rfl rfl)
        have HS := Lib.hid (fun W (hb : Below w.heap.size w W) => says_gives hg 5 (E := errI 5) (K := 5) rfl rfl W hb)
        clear two ha1 hx1 hc1 ha2 hx2 hc2 g22 hfz2 hQg hPg ht1 ht2 hcq hpa hpm hpw hQQ hPP hg g2 hl r2
        by_cases hlt : c2 < c1
        · have e1 : ((c2 : Nat) : Int) < ((c1 : Nat) : Int) := by omega
          rw [show min c1 c2 = c2 by omega] at HCq
          rcases hpw2 with hcp | ⟨y, hcp, hy⟩
          · have HCp := Lib.hid (fun W v Z cz (h : DfaAt W W.heap.size v P) (hZ : IntsAt W W.heap.size Z z2) => cost_gives (cz := cz) (C := 0) (E := errI 5) h hZ hr hcp rfl rfl)
            clear hcp hlt hr
            go_enter Tryd.func6, Tryd.ntmps6
            go_wp2_with fail
            rw [← W0.out]
            clear W0
            refine (HF.out _).mono ?_
            rintro e u1 ⟨rfl, hb⟩
            have Y := Lib.hid (Y.out.on hb)
            have VA := Lib.hid (VA.out.on hb)
            have VB := Lib.hid (VB.out.on hb)
            have B := Lib.hid (B.out.trans (hb.mono B.out.size))
            clear hb  HF
            obtain ⟨p0, p1, p2, p3, p4⟩ := VA.out.box
            go_wp2_with fail
            refine (HC1.out _ _ _ _ VA.out.at_ Y.out).mono ?_
            rintro e u2 ⟨rfl, hb⟩
            have Y := Lib.hid (Y.out.on hb)
            have VA := Lib.hid (VA.out.on hb)
            have VB := Lib.hid (VB.out.on hb)
            have B := Lib.hid (B.out.trans (hb.mono B.out.size))
            clear hb p0 p1 p2 p3 p4 HC1
            obtain ⟨p0, p1, p2, p3, p4⟩ := VB.out.box
            go_wp2_with fail
            refine (HC2.out _ _ _ _ VB.out.at_ Y.out).mono ?_
            rintro e u3 ⟨rfl, hb⟩
            have Y := Lib.hid (Y.out.on hb)
            have VA := Lib.hid (VA.out.on hb)
            have VB := Lib.hid (VB.out.on hb)
            have B := Lib.hid (B.out.trans (hb.mono B.out.size))
            clear hb p0 p1 p2 p3 p4 HC2
            obtain ⟨p0, p1, p2, p3, p4⟩ := VA.out.box
            obtain ⟨q0, q1, q2, q3, q4⟩ := VB.out.box
            go_wp2_with fail
            refine (HE.out _ _ _ VA.out.at_ VB.out.at_).mono ?_
            rintro e u4 ⟨L14, s14, A14, n14, c14, F14, m14, k14, rfl, hd, hb⟩
            have Y := Lib.hid (Y.out.on hb)
            have VA := Lib.hid (VA.out.on hb)
            have VB := Lib.hid (VB.out.on hb)
            have B := Lib.hid (B.out.trans (hb.mono B.out.size))
            clear hb p0 p1 p2 p3 p4 q0 q1 q2 q3 q4 HE
            obtain ⟨x4, hx4, hbn, Vn⟩ := var_new u4 hd.out
            have VQ := Lib.hid Vn
            have Y := Lib.hid (Y.out.on hbn)
            have VA := Lib.hid (VA.out.on hbn)
            have VB := Lib.hid (VB.out.on hbn)
            have B := Lib.hid (B.out.trans (hbn.mono B.out.size))
            clear hbn Vn hd
            obtain ⟨p0, p1, p2, p3, p4⟩ := VA.out.box
            rw [hx4] at p1 p2 p3 p4
            obtain ⟨q0, q1, q2, q3, q4⟩ := VB.out.box
            rw [hx4] at q1 q2 q3 q4
            have HX := Lib.hid hx4
            clear hx4
            go_wp2_with fail
            rw [← HX.out]
            clear HX
            refine (HB.out _ _ _ VA.out.at_ VB.out.at_).mono ?_
            rintro e u5 ⟨L15, s15, A15, n15, c15, F15, m15, k15, rfl, hd, hb⟩
            have Y := Lib.hid (Y.out.on hb)
            have VA := Lib.hid (VA.out.on hb)
            have VB := Lib.hid (VB.out.on hb)
            have VQ := Lib.hid (VQ.out.on hb)
            have B := Lib.hid (B.out.trans (hb.mono B.out.size))
            clear hb p0 p1 p2 p3 p4 q0 q1 q2 q3 q4 HB
            obtain ⟨x5, hx5, hbn, Vn⟩ := var_new u5 hd.out
            have VP := Lib.hid Vn
            have Y := Lib.hid (Y.out.on hbn)
            have VA := Lib.hid (VA.out.on hbn)
            have VB := Lib.hid (VB.out.on hbn)
            have VQ := Lib.hid (VQ.out.on hbn)
            have B := Lib.hid (B.out.trans (hbn.mono B.out.size))
            clear hbn Vn hd
            obtain ⟨p0, p1, p2, p3, p4⟩ := VQ.out.box
            rw [hx5] at p1 p2 p3 p4
            have HX := Lib.hid hx5
            clear hx5
            go_wp2_with fail
            rw [← HX.out]
            clear HX
            refine (HCq.out _ _ _ _ VQ.out.at_ Y.out).mono ?_
            rintro e u6 ⟨rfl, hb⟩
            have Y := Lib.hid (Y.out.on hb)
            have VA := Lib.hid (VA.out.on hb)
            have VB := Lib.hid (VB.out.on hb)
            have VQ := Lib.hid (VQ.out.on hb)
            have VP := Lib.hid (VP.out.on hb)
            have B := Lib.hid (B.out.trans (hb.mono B.out.size))
            clear hb p0 p1 p2 p3 p4 HCq
            obtain ⟨p0, p1, p2, p3, p4⟩ := VP.out.box
            go_wp2_with fail
            refine (HCp.out _ _ _ _ VP.out.at_ Y.out).mono ?_
            rintro e u7 ⟨rfl, hb⟩
            have Y := Lib.hid (Y.out.on hb)
            have VA := Lib.hid (VA.out.on hb)
            have VB := Lib.hid (VB.out.on hb)
            have VQ := Lib.hid (VQ.out.on hb)
            have VP := Lib.hid (VP.out.on hb)
            have B := Lib.hid (B.out.trans (hb.mono B.out.size))
            clear hb p0 p1 p2 p3 p4 HCp
            go_wp2_with fail
            refine (HS.out _ B.out).mono ?_
            rintro e u8 ⟨rfl, hb⟩
            have Y := Lib.hid (Y.out.on hb)
            have VA := Lib.hid (VA.out.on hb)
            have VB := Lib.hid (VB.out.on hb)
            have VQ := Lib.hid (VQ.out.on hb)
            have VP := Lib.hid (VP.out.on hb)
            have B := Lib.hid (B.out.trans (hb.mono B.out.size))
            clear hb  HS
            go_wp2
            go_ret
            exact ⟨rfl, B.out⟩
          · have e2 : ((c1 : Nat) : Int) ≤ ((y : Nat) : Int) := by omega
            have HCp := Lib.hid (fun W v Z cz (h : DfaAt W W.heap.size v P) (hZ : IntsAt W W.heap.size Z z2) => cost_gives (cz := cz) (C := (y : Int)) (E := .nilIface) h hZ hr hcp rfl rfl)
            clear hcp hy hlt hr
            go_enter Tryd.func6, Tryd.ntmps6
            go_wp2_with fail
            rw [← W0.out]
            clear W0
            refine (HF.out _).mono ?_
            rintro e u1 ⟨rfl, hb⟩
            have Y := Lib.hid (Y.out.on hb)
            have VA := Lib.hid (VA.out.on hb)
            have VB := Lib.hid (VB.out.on hb)
            have B := Lib.hid (B.out.trans (hb.mono B.out.size))
            clear hb  HF
            obtain ⟨p0, p1, p2, p3, p4⟩ := VA.out.box
            go_wp2_with fail
            refine (HC1.out _ _ _ _ VA.out.at_ Y.out).mono ?_
            rintro e u2 ⟨rfl, hb⟩
            have Y := Lib.hid (Y.out.on hb)
            have VA := Lib.hid (VA.out.on hb)
            have VB := Lib.hid (VB.out.on hb)
            have B := Lib.hid (B.out.trans (hb.mono B.out.size))
            clear hb p0 p1 p2 p3 p4 HC1
            obtain ⟨p0, p1, p2, p3, p4⟩ := VB.out.box
            go_wp2_with fail
            refine (HC2.out _ _ _ _ VB.out.at_ Y.out).mono ?_
            rintro e u3 ⟨rfl, hb⟩
            have Y := Lib.hid (Y.out.on hb)
            have VA := Lib.hid (VA.out.on hb)
            have VB := Lib.hid (VB.out.on hb)
            have B := Lib.hid (B.out.trans (hb.mono B.out.size))
            clear hb p0 p1 p2 p3 p4 HC2
            obtain ⟨p0, p1, p2, p3, p4⟩ := VA.out.box
            obtain ⟨q0, q1, q2, q3, q4⟩ := VB.out.box
            go_wp2_with fail
            refine (HE.out _ _ _ VA.out.at_ VB.out.at_).mono ?_
            rintro e u4 ⟨L14, s14, A14, n14, c14, F14, m14, k14, rfl, hd, hb⟩
            have Y := Lib.hid (Y.out.on hb)
            have VA := Lib.hid (VA.out.on hb)
            have VB := Lib.hid (VB.out.on hb)
            have B := Lib.hid (B.out.trans (hb.mono B.out.size))
            clear hb p0 p1 p2 p3 p4 q0 q1 q2 q3 q4 HE
            obtain ⟨x4, hx4, hbn, Vn⟩ := var_new u4 hd.out
            have VQ := Lib.hid Vn
            have Y := Lib.hid (Y.out.on hbn)
            have VA := Lib.hid (VA.out.on hbn)
            have VB := Lib.hid (VB.out.on hbn)
            have B := Lib.hid (B.out.trans (hbn.mono B.out.size))
            clear hbn Vn hd
            obtain ⟨p0, p1, p2, p3, p4⟩ := VA.out.box
            rw [hx4] at p1 p2 p3 p4
            obtain ⟨q0, q1, q2, q3, q4⟩ := VB.out.box
            rw [hx4] at q1 q2 q3 q4
            have HX := Lib.hid hx4
            clear hx4
            go_wp2_with fail
            rw [← HX.out]
            clear HX
            refine (HB.out _ _ _ VA.out.at_ VB.out.at_).mono ?_
            rintro e u5 ⟨L15, s15, A15, n15, c15, F15, m15, k15, rfl, hd, hb⟩
            have Y := Lib.hid (Y.out.on hb)
            have VA := Lib.hid (VA.out.on hb)
            have VB := Lib.hid (VB.out.on hb)
            have VQ := Lib.hid (VQ.out.on hb)
            have B := Lib.hid (B.out.trans (hb.mono B.out.size))
            clear hb p0 p1 p2 p3 p4 q0 q1 q2 q3 q4 HB
            obtain ⟨x5, hx5, hbn, Vn⟩ := var_new u5 hd.out
            have VP := Lib.hid Vn
            have Y := Lib.hid (Y.out.on hbn)
            have VA := Lib.hid (VA.out.on hbn)
            have VB := Lib.hid (VB.out.on hbn)
            have VQ := Lib.hid (VQ.out.on hbn)
            have B := Lib.hid (B.out.trans (hbn.mono B.out.size))
            clear hbn Vn hd
            obtain ⟨p0, p1, p2, p3, p4⟩ := VQ.out.box
            rw [hx5] at p1 p2 p3 p4
            have HX := Lib.hid hx5
            clear hx5
            go_wp2_with fail
            rw [← HX.out]
            clear HX
            refine (HCq.out _ _ _ _ VQ.out.at_ Y.out).mono ?_
            rintro e u6 ⟨rfl, hb⟩
            have Y := Lib.hid (Y.out.on hb)
            have VA := Lib.hid (VA.out.on hb)
            have VB := Lib.hid (VB.out.on hb)
            have VQ := Lib.hid (VQ.out.on hb)
            have VP := Lib.hid (VP.out.on hb)
            have B := Lib.hid (B.out.trans (hb.mono B.out.size))
            clear hb p0 p1 p2 p3 p4 HCq
            obtain ⟨p0, p1, p2, p3, p4⟩ := VP.out.box
            go_wp2_with fail
            refine (HCp.out _ _ _ _ VP.out.at_ Y.out).mono ?_
            rintro e u7 ⟨rfl, hb⟩
            have Y := Lib.hid (Y.out.on hb)
            have VA := Lib.hid (VA.out.on hb)
            have VB := Lib.hid (VB.out.on hb)
            have VQ := Lib.hid (VQ.out.on hb)
            have VP := Lib.hid (VP.out.on hb)
            have B := Lib.hid (B.out.trans (hb.mono B.out.size))
            clear hb p0 p1 p2 p3 p4 HCp
            go_wp2
            go_ret
            exact ⟨rfl, B.out⟩
        · have e1 : ¬ ((c2 : Nat) : Int) < ((c1 : Nat) : Int) := by omega
          rw [show min c1 c2 = c1 by omega] at HCq
          rcases hpw2 with hcp | ⟨y, hcp, hy⟩
          · have HCp := Lib.hid (fun W v Z cz (h : DfaAt W W.heap.size v P) (hZ : IntsAt W W.heap.size Z z2) => cost_gives (cz := cz) (C := 0) (E := errI 5) h hZ hr hcp rfl rfl)
            clear hcp hlt hr
            go_enter Tryd.func6, Tryd.ntmps6
            go_wp2_with fail
            rw [← W0.out]
            clear W0
            refine (HF.out _).mono ?_
            rintro e u1 ⟨rfl, hb⟩
            have Y := Lib.hid (Y.out.on hb)
            have VA := Lib.hid (VA.out.on hb)
            have VB := Lib.hid (VB.out.on hb)
            have B := Lib.hid (B.out.trans (hb.mono B.out.size))
            clear hb  HF
            obtain ⟨p0, p1, p2, p3, p4⟩ := VA.out.box
            go_wp2_with fail
            refine (HC1.out _ _ _ _ VA.out.at_ Y.out).mono ?_
            rintro e u2 ⟨rfl, hb⟩
            have Y := Lib.hid (Y.out.on hb)
            have VA := Lib.hid (VA.out.on hb)
            have VB := Lib.hid (VB.out.on hb)
            have B := Lib.hid (B.out.trans (hb.mono B.out.size))
            clear hb p0 p1 p2 p3 p4 HC1
            obtain ⟨p0, p1, p2, p3, p4⟩ := VB.out.box
            go_wp2_with fail
            refine (HC2.out _ _ _ _ VB.out.at_ Y.out).mono ?_
            rintro e u3 ⟨rfl, hb⟩
            have Y := Lib.hid (Y.out.on hb)
            have VA := Lib.hid (VA.out.on hb)
            have VB := Lib.hid (VB.out.on hb)
            have B := Lib.hid (B.out.trans (hb.mono B.out.size))
            clear hb p0 p1 p2 p3 p4 HC2
            obtain ⟨p0, p1, p2, p3, p4⟩ := VA.out.box
            obtain ⟨q0, q1, q2, q3, q4⟩ := VB.out.box
            go_wp2_with fail
            refine (HE.out _ _ _ VA.out.at_ VB.out.at_).mono ?_
            rintro e u4 ⟨L14, s14, A14, n14, c14, F14, m14, k14, rfl, hd, hb⟩
            have Y := Lib.hid (Y.out.on hb)
            have VA := Lib.hid (VA.out.on hb)
            have VB := Lib.hid (VB.out.on hb)
            have B := Lib.hid (B.out.trans (hb.mono B.out.size))
            clear hb p0 p1 p2 p3 p4 q0 q1 q2 q3 q4 HE
            obtain ⟨x4, hx4, hbn, Vn⟩ := var_new u4 hd.out
            have VQ := Lib.hid Vn
            have Y := Lib.hid (Y.out.on hbn)
            have VA := Lib.hid (VA.out.on hbn)
            have VB := Lib.hid (VB.out.on hbn)
            have B := Lib.hid (B.out.trans (hbn.mono B.out.size))
            clear hbn Vn hd
            obtain ⟨p0, p1, p2, p3, p4⟩ := VA.out.box
            rw [hx4] at p1 p2 p3 p4
            obtain ⟨q0, q1, q2, q3, q4⟩ := VB.out.box
            rw [hx4] at q1 q2 q3 q4
            have HX := Lib.hid hx4
            clear hx4
            go_wp2_with fail
            rw [← HX.out]
            clear HX
            refine (HB.out _ _ _ VA.out.at_ VB.out.at_).mono ?_
            rintro e u5 ⟨L15, s15, A15, n15, c15, F15, m15, k15, rfl, hd, hb⟩
            have Y := Lib.hid (Y.out.on hb)
            have VA := Lib.hid (VA.out.on hb)
            have VB := Lib.hid (VB.out.on hb)
            have VQ := Lib.hid (VQ.out.on hb)
            have B := Lib.hid (B.out.trans (hb.mono B.out.size))
            clear hb p0 p1 p2 p3 p4 q0 q1 q2 q3 q4 HB
            obtain ⟨x5, hx5, hbn, Vn⟩ := var_new u5 hd.out
            have VP := Lib.hid Vn
            have Y := Lib.hid (Y.out.on hbn)
            have VA := Lib.hid (VA.out.on hbn)
            have VB := Lib.hid (VB.out.on hbn)
            have VQ := Lib.hid (VQ.out.on hbn)
            have B := Lib.hid (B.out.trans (hbn.mono B.out.size))
            clear hbn Vn hd
            obtain ⟨p0, p1, p2, p3, p4⟩ := VQ.out.box
            rw [hx5] at p1 p2 p3 p4
            have HX := Lib.hid hx5
            clear hx5
            go_wp2_with fail
            rw [← HX.out]
            clear HX
            refine (HCq.out _ _ _ _ VQ.out.at_ Y.out).mono ?_
            rintro e u6 ⟨rfl, hb⟩
            have Y := Lib.hid (Y.out.on hb)
            have VA := Lib.hid (VA.out.on hb)
            have VB := Lib.hid (VB.out.on hb)
            have VQ := Lib.hid (VQ.out.on hb)
            have VP := Lib.hid (VP.out.on hb)
            have B := Lib.hid (B.out.trans (hb.mono B.out.size))
            clear hb p0 p1 p2 p3 p4 HCq
            obtain ⟨p0, p1, p2, p3, p4⟩ := VP.out.box
            go_wp2_with fail
            refine (HCp.out _ _ _ _ VP.out.at_ Y.out).mono ?_
            rintro e u7 ⟨rfl, hb⟩
            have Y := Lib.hid (Y.out.on hb)
            have VA := Lib.hid (VA.out.on hb)
            have VB := Lib.hid (VB.out.on hb)
            have VQ := Lib.hid (VQ.out.on hb)
            have VP := Lib.hid (VP.out.on hb)
            have B := Lib.hid (B.out.trans (hb.mono B.out.size))
            clear hb p0 p1 p2 p3 p4 HCp
            go_wp2_with fail
            refine (HS.out _ B.out).mono ?_
            rintro e u8 ⟨rfl, hb⟩
            have Y := Lib.hid (Y.out.on hb)
            have VA := Lib.hid (VA.out.on hb)
            have VB := Lib.hid (VB.out.on hb)
            have VQ := Lib.hid (VQ.out.on hb)
            have VP := Lib.hid (VP.out.on hb)
            have B := Lib.hid (B.out.trans (hb.mono B.out.size))
            clear hb  HS
            go_wp2
            go_ret
            exact ⟨rfl, B.out⟩
          · have e2 : ((c2 : Nat) : Int) ≤ ((y : Nat) : Int) := by omega
            have HCp := Lib.hid (fun W v Z cz (h : DfaAt W W.heap.size v P) (hZ : IntsAt W W.heap.size Z z2) => cost_gives (cz := cz) (C := (y : Int)) (E := .nilIface) h hZ hr hcp rfl rfl)
            clear hcp hy hlt hr
            go_enter Tryd.func6, Tryd.ntmps6
            go_wp2_with fail
            rw [← W0.out]
            clear W0
            refine (HF.out _).mono ?_
            rintro e u1 ⟨rfl, hb⟩
            have Y := Lib.hid (Y.out.on hb)
            have VA := Lib.hid (VA.out.on hb)
            have VB := Lib.hid (VB.out.on hb)
            have B := Lib.hid (B.out.trans (hb.mono B.out.size))
            clear hb  HF
            obtain ⟨p0, p1, p2, p3, p4⟩ := VA.out.box
            go_wp2_with fail
            refine (HC1.out _ _ _ _ VA.out.at_ Y.out).mono ?_
            rintro e u2 ⟨rfl, hb⟩
            have Y := Lib.hid (Y.out.on hb)
            have VA := Lib.hid (VA.out.on hb)
            have VB := Lib.hid (VB.out.on hb)
            have B := Lib.hid (B.out.trans (hb.mono B.out.size))
            clear hb p0 p1 p2 p3 p4 HC1
            obtain ⟨p0, p1, p2, p3, p4⟩ := VB.out.box
            go_wp2_with fail
            refine (HC2.out _ _ _ _ VB.out.at_ Y.out).mono ?_
            rintro e u3 ⟨rfl, hb⟩
            have Y := Lib.hid (Y.out.on hb)
            have VA := Lib.hid (VA.out.on hb)
            have VB := Lib.hid (VB.out.on hb)
            have B := Lib.hid (B.out.trans (hb.mono B.out.size))
            clear hb p0 p1 p2 p3 p4 HC2
            obtain ⟨p0, p1, p2, p3, p4⟩ := VA.out.box
            obtain ⟨q0, q1, q2, q3, q4⟩ := VB.out.box
            go_wp2_with fail
            refine (HE.out _ _ _ VA.out.at_ VB.out.at_).mono ?_
            rintro e u4 ⟨L14, s14, A14, n14, c14, F14, m14, k14, rfl, hd, hb⟩
            have Y := Lib.hid (Y.out.on hb)
            have VA := Lib.hid (VA.out.on hb)
            have VB := Lib.hid (VB.out.on hb)
            have B := Lib.hid (B.out.trans (hb.mono B.out.size))
            clear hb p0 p1 p2 p3 p4 q0 q1 q2 q3 q4 HE
            obtain ⟨x4, hx4, hbn, Vn⟩ := var_new u4 hd.out
            have VQ := Lib.hid Vn
            have Y := Lib.hid (Y.out.on hbn)
            have VA := Lib.hid (VA.out.on hbn)
            have VB := Lib.hid (VB.out.on hbn)
            have B := Lib.hid (B.out.trans (hbn.mono B.out.size))
            clear hbn Vn hd
            obtain ⟨p0, p1, p2, p3, p4⟩ := VA.out.box
            rw [hx4] at p1 p2 p3 p4
            obtain ⟨q0, q1, q2, q3, q4⟩ := VB.out.box
            rw [hx4] at q1 q2 q3 q4
            have HX := Lib.hid hx4
            clear hx4
            go_wp2_with fail
            rw [← HX.out]
            clear HX
            refine (HB.out _ _ _ VA.out.at_ VB.out.at_).mono ?_
            rintro e u5 ⟨L15, s15, A15, n15, c15, F15, m15, k15, rfl, hd, hb⟩
            have Y := Lib.hid (Y.out.on hb)
            have VA := Lib.hid (VA.out.on hb)
            have VB := Lib.hid (VB.out.on hb)
            have VQ := Lib.hid (VQ.out.on hb)
            have B := Lib.hid (B.out.trans (hb.mono B.out.size))
            clear hb p0 p1 p2 p3 p4 q0 q1 q2 q3 q4 HB
            obtain ⟨x5, hx5, hbn, Vn⟩ := var_new u5 hd.out
            have VP := Lib.hid Vn
            have Y := Lib.hid (Y.out.on hbn)
            have VA := Lib.hid (VA.out.on hbn)
            have VB := Lib.hid (VB.out.on hbn)
            have VQ := Lib.hid (VQ.out.on hbn)
            have B := Lib.hid (B.out.trans (hbn.mono B.out.size))
            clear hbn Vn hd
            obtain ⟨p0, p1, p2, p3, p4⟩ := VQ.out.box
            rw [hx5] at p1 p2 p3 p4
            have HX := Lib.hid hx5
            clear hx5
            go_wp2_with fail
            rw [← HX.out]
            clear HX
            refine (HCq.out _ _ _ _ VQ.out.at_ Y.out).mono ?_
            rintro e u6 ⟨rfl, hb⟩
            have Y := Lib.hid (Y.out.on hb)
            have VA := Lib.hid (VA.out.on hb)
            have VB := Lib.hid (VB.out.on hb)
            have VQ := Lib.hid (VQ.out.on hb)
            have VP := Lib.hid (VP.out.on hb)
            have B := Lib.hid (B.out.trans (hb.mono B.out.size))
            clear hb p0 p1 p2 p3 p4 HCq
            obtain ⟨p0, p1, p2, p3, p4⟩ := VP.out.box
            go_wp2_with fail
            refine (HCp.out _ _ _ _ VP.out.at_ Y.out).mono ?_
            rintro e u7 ⟨rfl, hb⟩
            have Y := Lib.hid (Y.out.on hb)
            have VA := Lib.hid (VA.out.on hb)
            have VB := Lib.hid (VB.out.on hb)
            have VQ := Lib.hid (VQ.out.on hb)
            have VP := Lib.hid (VP.out.on hb)
            have B := Lib.hid (B.out.trans (hb.mono B.out.size))
            clear hb p0 p1 p2 p3 p4 HCp
            go_wp2
            go_ret
            exact ⟨rfl, B.out⟩


set_option maxRecDepth 100000 in
theorem lifted (os : Os) (started : os.Started) (H : Type) (enc : TypeId × Value → H) :
    ReturnsInHanded {} Tryd.checked os 6 .any (fun w args => (Rows.mendMoreSpec.pre enc Tryd.prog Tryd.f6 Rows.mendMoreRow.domain false w args ∧ laidMetH Tryd.prog [("errors.errorType", Rows.laid_errors_errorType)] w) ∧ sizedMet enc Tryd.prog Tryd.f6 (OpenSpec.ofChange Rows.mendMoreSpec) false w args) (Rows.mendMoreSpec.post enc Tryd.prog Tryd.f6 false true false false) := by
  refine returnsInHanded_of_change_and (C := Tryd.checked) (X := fun w _ => laidMetH Tryd.prog [("errors.errorType", Rows.laid_errors_errorType)] w) (fun _ _ _ hh h => h.of_heap hh) own started (by kernel_rfl) Tryd.func6
    (ChangeSpec.witness_at (enc := enc) (C := Tryd.checked) (os := os) (X := fun w _ => laidMetH Tryd.prog [("errors.errorType", Rows.laid_errors_errorType)] w) false (laidWorld os) #[.agg #[.int .i64 0, .int .i64 0, .slice none 0 0, .slice none 0 0], .agg #[.int .i64 0, .int .i64 0, .slice none 0 0, .slice none 0 0], .slice none 0 0] 8 rfl (by kernel_rfl) (by kernel_rfl) (by kernel_rfl) (by kernel_rfl) (by kernel_rfl) (laidWorld_met os _)) ?_
  intro W base args ds gs before hval0 hW hcnd hsz0 hL _
  have hval : ∀ (j : Nat) t v, Tryd.f6.params[j]? = some t → args[j]? = some v → Value.okWide Tryd.prog W .any base t v := hval0
  have hsz : (DataW.weightsEach Tryd.prog (Tryd.f6.params.toList ++ Rows.mendMoreSpec.plain.varTypes Tryd.prog) (ds ++ gs)).all (· ≤ reachBytes) = true := hsz0
  have hW' := hW
  obtain ⟨p, q, hA0, hV0, rfl, hfz, hnd⟩ := hW
  have hV : DataW.TrodVars enc Tryd.prog W (fun _ => true) [] gs q := hV0
  have hA : DataW.TrodAll enc Tryd.prog W 0 (fun _ => true) true Tryd.f6.params.toList args.toList ds p := hA0
  rw [Tryd.params6] at hA hval hsz
  obtain ⟨v0, vs0, d0, ds0, p0, q0, hargs, rfl, rfl, h0, rr0⟩ := trodAll_cons hA
  obtain ⟨v1, vs1, d1, ds1, p1, q1, rfl, rfl, rfl, h1, rr1⟩ := trodAll_cons rr0
  obtain ⟨v2, vs2, d2, ds2, p2, q2, rfl, rfl, rfl, h2, rr2⟩ := trodAll_cons rr1
  obtain ⟨rfl, rfl, rfl⟩ := trodAll_nil rr2
  obtain rfl : args = #[v0, v1, v2] := by cases args; simp_all
  obtain ⟨rfl, rfl⟩ := trodVars_none hV
  have k0 := h0
  have lt0 : ∀ x ∈ p0, x.block < W.heap.size := by obtain ⟨m, hm⟩ := k0; exact DataW.trod_lt m _ _ _ hm
  have k1 := h1
  have lt1 : ∀ x ∈ p1, x.block < W.heap.size := by obtain ⟨m, hm⟩ := k1; exact DataW.trod_lt m _ _ _ hm
  have k2 := h2
  have lt2 : ∀ x ∈ p2, x.block < W.heap.size := by obtain ⟨m, hm⟩ := k2; exact DataW.trod_lt m _ _ _ hm
  obtain ⟨D0, x0⟩ : ∃ d : Df.Aut, Df.DfaAt W W.heap.size v0 d := Df.dfa_open (hval 0 25 v0 rfl rfl) h0
  obtain ⟨D1, x1⟩ : ∃ d : Df.Aut, Df.DfaAt W W.heap.size v1 d := Df.dfa_open (hval 1 25 v1 rfl rfl) h1
  obtain ⟨A2, len2, c2, rfl⟩ := okWide_slice Tryd.underlying26 (hval 2 26 v2 rfl rfl)
  obtain ⟨z2, rfl, x2, r2, m2⟩ : ∃ zs : List Int, len2 = zs.length ∧ IntsAt W W.heap.size A2 zs ∧ zs.length ≤ 17592186043904 ∧ zs.length ≤ c2 := by
    obtain ⟨fuel, hf⟩ := h2
    rcases open_ints Tryd.underlying26 Tryd.underlying3 (by kernel_rfl) hf with ⟨hcs, _⟩ | ⟨x, l, c, zs, hcs, _, hl, hm, hz, hx, hcell, hwz⟩
    · simp [Value.cells] at hcs
      obtain ⟨rfl, rfl, rfl⟩ := hcs
      exact ⟨[], rfl, IntsAt.nil _ _ _, by simp, by simp⟩
    · simp [Value.cells] at hcs
      obtain ⟨rfl, rfl, rfl⟩ := hcs
      have hd := congrArg Prod.fst hx
      simp only at hd
      have := sized_slice hsz (j := 2) (t := 26) (e := 3) rfl (by rw [hd]; rfl) Tryd.underlying26
      rw [(show Tryd.prog.bytesOf 3 = 8 by kernel_rfl)] at this
      simp only [reachBytes, lits, List.length_map, List.length_take, List.length_drop] at this
      have hz' : zs.length = c2 := by simpa using hz
      exact ⟨zs.take len2, by rw [List.length_take]; omega, intsAt_of_open hcell hwz len2, by rw [List.length_take]; omega, by rw [List.length_take]; omega⟩
  clear hA0 hval0
  refine (walk v0 D0 v1 D1 A2 c2 z2 W x0 x1 x2 r2 m2 (handle_of_laid hL)).mono fun e W' ⟨he, bel⟩ => ?_
  subst he
  exact ⟨_, rfl, _, _, _, [], _, [], hW', trodAll_mk1 (shut_bool Tryd.underlying4 _), (trodAll_cons_mk (Below.trod laidOut (by kernel_rfl) (of_decide_eq_true (by kernel_rfl)) k0 bel lt0) (trodAll_cons_mk (Below.trod laidOut (by kernel_rfl) (of_decide_eq_true (by kernel_rfl)) k1 bel lt1) (trodAll_cons_mk (Below.trod laidOut (by kernel_rfl) (of_decide_eq_true (by kernel_rfl)) k2 bel lt2) trodAll_mk0))), rfl, bel.frame _, fun h => by cases h⟩

theorem over : Rows.mendMoreRow.holds Tryd.pinned (OpenSpec.ofChange Rows.mendMoreSpec) :=
  OpenClaim.holds_of_wide 6 Tryd.f6 rfl rfl rfl rfl rfl rfl rfl ⟨rfl, rfl, rfl, rfl, rfl⟩ rfl rfl rfl rfl rfl (by kernel_rfl) Tryd.func6 (by kernel_rfl)
    (of_decide_eq_true (by kernel_rfl)) (by unfold Func.isWrapper; rw [if_neg (of_decide_eq_false (by kernel_rfl))]; exact ⟨rfl, rfl⟩)
    (fun os started H enc _ => lifted os started H enc)
theorem proved : Rows.MendMoreCardSaid :=
  Claim7.holds_tied_plain_at .later [] [.handle] true (true, "40a282adc493d4c8acbf3f0bcad454e62a5c808698ec6aa269d6144ae7a916ac") true
    over (fun _ h => by cases h) (by kernel_rfl) (fun _ h => by cases h) mendMore_row_tie rfl ⟨rfl, rfl⟩ (by kernel_rfl) rfl
    (fun f fn hf hfn => by
      obtain rfl : f = 6 := Option.some.inj ((show Tryd.prog.funcNamed "stileward/stilewardlaw4.MendMore" = some 6 by kernel_rfl).symm.trans hf) |>.symm
      obtain rfl : fn = Tryd.f6 := (Option.some.inj (Tryd.func6.symm.trans hfn)).symm
      exact ⟨by kernel_rfl, fun j t ht => by
        rw [Tryd.params6] at ht
        rcases j with _ | _ | _ | j
        · obtain rfl : 25 = t := by simpa using ht
          exact (show Tryd.prog.wantsStandIn 25 = false by kernel_rfl)
        · obtain rfl : 25 = t := by simpa using ht
          exact (show Tryd.prog.wantsStandIn 25 = false by kernel_rfl)
        · obtain rfl : 26 = t := by simpa using ht
          exact (show Tryd.prog.wantsStandIn 26 = false by kernel_rfl)
        · simp at ht⟩)
    (by kernel_rfl)
#print axioms proved
end Go.Proofs.YtfiknbdpjnpkdaaDoor.mendMore
