/-
  The statement SmallOneCardSaid of this seat, proved: for every input the law returns true and its arguments read behind the call as before. Conditions: none but the row's own (each argument within the reach; the listed variable as the program lays it, tied by the given tie).
-/
import Derived.Test.YtinehjfanabegaaDoorRows
import Derived.Test.YtinehjfanabegaaDoorCards
import Derived.Test.YtinehjfanabegaaDoorTie
import Derived.SevenTiedAt
import Derived.LaidLaws
import Derived.LaidHandle
import Derived.Stop.Joined
import Derived.JoinedOf
import Derived.RowKit
import Derived.RowKitTokens
import Derived.ChangeSame
import Derived.ChangeVars
import Derived.Test.YtinehjfanabegaaDoorWords
import Derived.WalkKit
import Derived.ProofKit
import Derived.OpenShut
import Derived.ShutString
import Derived.ChangeOld
import Derived.Below
import Derived.SizedLaws
import Derived.Lib.Hide
import Derived.Test.YtinehjfanabegaaDoorMinV
import Derived.Test.YtinehjfanabegaaDoorRefDfa
import Derived.Test.YtinehjfanabegaaDoorSays
namespace Go.Proofs.YtinehjfanabegaaDoor.smallOne
open Go.ChangeShapes Go.WideShapes Go.ChangeAt Go.RowKit Go.IntWalk Go.Proofs.YtinehjfanabegaaDoor.Wd
open Go.ChangeMaps (open_string shut_string)
set_option linter.unusedVariables false

theorem own : ownKnob Tryd.prog.godebug = none := by kernel_rfl
theorem laidOut : laidOutB Tryd.prog = true := by kernel_rfl
theorem et : Tryd.prog.globalNamed "errors.errorType" = some 0 := by kernel_rfl
theorem rt : (Tryd.prog.cutTypes.find? (·.1 == "internal/reflectlite.rtype")).map (·.2) = some 177 := by kernel_rfl
theorem oneRow : ((List.range 228).filter fun t => Tryd.prog.rowNamed t [101, 114, 114, 111, 114]) = [30] := by kernel_rfl
theorem size : Tryd.prog.types.size = 228 := by kernel_rfl
/-- What the condition gives a walk: the variable's one cell. -/
theorem handle_of_laid {w : World} (h : laidMetH Tryd.prog [("errors.errorType", Rows.laid_errors_errorType)] w) : w.cell? ⟨0, 0, none⟩ = some (.iface 177 (.agg #[.pointer (some ⟨1, 30, none⟩)])) := by
  have h' : laidMet Tryd.prog [] w ∧ handlesMet Tryd.prog [("errors.errorType", Rows.laid_errors_errorType)] w := h
  obtain ⟨name, u, ty, e1, e2, e3, e4, e5⟩ := h'.2 _ (List.mem_singleton.2 rfl)
  have en : name = [101, 114, 114, 111, 114] := (Option.some.inj e1).symm
  subst en
  obtain rfl := Option.some.inj (rt.symm.trans e2)
  have hm : ty ∈ (List.range 228).filter fun t => Tryd.prog.rowNamed t [101, 114, 114, 111, 114] := List.mem_filter.2 ⟨List.mem_range.2 (by rw [← size]; exact e3), e4⟩
  rw [oneRow] at hm
  obtain rfl := List.mem_singleton.1 hm
  have hh : typeHandle Tryd.prog 30 = .pointer (some ⟨1, 30, none⟩) := by kernel_rfl
  rw [hh] at e5
  simpa using World.var?_cell et e5 0
/-- A world that meets the condition. -/
noncomputable def laidWorld (os : Os) : World :=
  let w0 := World.holding Tryd.prog os ⟨#[], #[], []⟩
  { w0 with heap := w0.heap.modify 0 fun
      | .cells _ t frozen => .cells #[.iface 177 (.agg #[.pointer (some ⟨1, 30, none⟩)])] t frozen
      | o => o }
theorem laidWorld_met (os : Os) (args : Array Value) : laidMetH Tryd.prog [("errors.errorType", Rows.laid_errors_errorType)] ((laidWorld os).forCall (fun _ _ => 0) ⟨#[], args, []⟩).memory :=
  laidMetH_of_parts (laidMet_nil _ _) (by kernel_rfl)
open Go.Proofs.YtinehjfanabegaaDoor.Wo Go.Proofs.YtinehjfanabegaaDoor.Er Go.Proofs.YtinehjfanabegaaDoor.Df Go.Proofs.YtinehjfanabegaaDoor.Rc Go.Proofs.YtinehjfanabegaaDoor.Sm Go.Proofs.YtinehjfanabegaaDoor.Mp

set_option maxRecDepth 100000 in
set_option maxHeartbeats 4000000 in
theorem walk (v0 : Value) (d0 : Df.Aut) (v1 : Value) (d1 : Df.Aut) (w : World) (h0 : Df.DfaAt w w.heap.size v0 d0) (h1 : Df.DfaAt w w.heap.size v1 d1) (hg : w.cell? ⟨0, 0, none⟩ = some (.iface 177 (.agg #[.pointer (some ⟨1, 30, none⟩)]))) :
    Calls Tryd.prog 12 #[v0, v1] w fun e w' => e = .returned (.bool true) ∧ Below w.heap.size w w' := by
  obtain ⟨L0, s0, A0, n0, c0, F0, m0, k0, rfl⟩ := h0.form
  obtain ⟨L1, s1, A1, n1, c1, F1, m1, k1, rfl⟩ := h1.form
  obtain ⟨hL0, _, hN0, _⟩ := h0.eqs
  obtain ⟨hL1, _, hN1, _⟩ := h1.eqs
  obtain ⟨u0, hu0, hb0, VA0, VB0⟩ := vars_two w h0 h1
  have VA := Lib.hid VA0
  have VB := Lib.hid VB0
  have B := Lib.hid hb0
  have W0 := Lib.hid hu0
  have HE3 := Lib.hid (fun W h => says 3 hg W h)
  clear hu0 hb0 VA0 VB0 h0 h1 hg
  by_cases ga : dchk d0 = 0
  · have Ga := dchk_iff.1 ga
    have HM := Lib.hid (fun W v (h : DfaAt W W.heap.size v d0) => min_gives (E := .nilIface) h (minOut_ok ga) rfl)
    by_cases gb : dchk d1 = 0
    · have Gb := dchk_iff.1 gb
      have HN := Lib.hid (fun W v (h : DfaAt W W.heap.size v d1) => min_gives (E := .nilIface) h (minOut_ok gb) rfl)
      by_cases hL : d0.L = d1.L
      · have G : Good2 d0 d1 := ⟨Ga, Gb, hL⟩
        have hLL : L0 = L1 := by rw [← hL0, ← hL1]; exact hL
        obtain ⟨sb, l, hso, hiff⟩ : ∃ sb l, sameOut d0 d1 = (sb, l, 0) ∧ (sb = true ↔ minA d0 = minA d1) := by
          have hmi := (min_iff G)
          have hal := diffW_none G Ga.s_lt Gb.s_lt
          rcases hd : diffW d0 d1 d0.s.toNat d1.s.toNat with _ | u
          · exact ⟨true, [], sameOut_none (chkD2_iff.2 G) hd, ⟨fun _ => hmi.2 (hal.1 hd), fun _ => rfl⟩⟩
          · refine ⟨false, u, sameOut_some (chkD2_iff.2 G) hd, ⟨fun h => Bool.noConfusion h, fun h => ?_⟩⟩
            have := hal.2 (hmi.1 h)
            rw [hd] at this; cases this
        have HS := Lib.hid (fun W v z (h : DfaAt W W.heap.size v d0) (h2 : DfaAt W W.heap.size z d1) => same_len (E := .nilIface) h h2 hso rfl rfl)
        have HSm := Lib.hid (fun W v z (h : DfaAt W W.heap.size v (minA d0)) (h2 : DfaAt W W.heap.size z (minA d1)) => dsame_any v z (minA d0) (minA d1) W h h2 (min_good Ga).lite (min_good Gb).lite sb hiff)
        have HPos : Hid (1 ≤ (minA d0).next.length) := (min_good Ga).n1
        clear ga gb Ga Gb HE3 G hso hiff hL hL0 hL1 hN0 hN1
        subst hLL
        generalize minA d0 = T at *
        generalize minA d1 = T2 at *
        generalize l.length = ll at *
        have hbb : (sb == sb) = true := beq_self_eq_true _
        go_enter Tryd.func12, Tryd.ntmps12
        obtain ⟨p0, p1, p2, p3, p4⟩ := VA.out.box
        obtain ⟨q0, q1, q2, q3, q4⟩ := VB.out.box
        go_wp2_with fail
        rw [← W0.out]
        clear W0
        refine (HM.out _ _ VA.out.at_).mono ?_
        rintro e u1 ⟨L11, s11, A11, n11, c11, F11, m11, k11, rfl, hd, hb⟩
        have VA := Lib.hid (VA.out.on hb)
        have VB := Lib.hid (VB.out.on hb)
        have B := Lib.hid (B.out.trans (hb.mono B.out.size))
        clear hb  p0 p1 p2 p3 p4 q0 q1 q2 q3 q4 HM
        obtain ⟨p0, p1, p2, p3, p4⟩ := VA.out.box
        obtain ⟨q0, q1, q2, q3, q4⟩ := VB.out.box
        obtain ⟨x1, hx1, hb, Vn⟩ := var_new u1 hd.out
        have HX := Lib.hid hx1
        have Vn := Lib.hid Vn
        have VA := Lib.hid (VA.out.on hb)
        have VB := Lib.hid (VB.out.on hb)
        have B := Lib.hid (B.out.trans (hb.mono B.out.size))
        clear hb hd hx1
        go_wp2_with fail
        rw [← HX.out]
        clear HX
        have VM := Vn
        clear Vn
        refine (HN.out _ _ VB.out.at_).mono ?_
        rintro e u2 ⟨L12, s12, A12, n12, c12, F12, m12, k12, rfl, hd, hb⟩
        have VA := Lib.hid (VA.out.on hb)
        have VB := Lib.hid (VB.out.on hb)
        have VM := Lib.hid (VM.out.on hb)
        have B := Lib.hid (B.out.trans (hb.mono B.out.size))
        clear hb  p0 p1 p2 p3 p4 q0 q1 q2 q3 q4 HN
        have hn9 := VM.out.at_.eqs.2.2.1
        have hpos : (0 : Int) < (n11 : Int) := by have := HPos.out; omega
        clear hn9 HPos
        obtain ⟨p0, p1, p2, p3, p4⟩ := VA.out.box
        obtain ⟨q0, q1, q2, q3, q4⟩ := VB.out.box
        obtain ⟨x2, hx2, hb, Vn⟩ := var_new u2 hd.out
        have HX := Lib.hid hx2
        have Vn := Lib.hid Vn
        have VA := Lib.hid (VA.out.on hb)
        have VB := Lib.hid (VB.out.on hb)
        have VM := Lib.hid (VM.out.on hb)
        have B := Lib.hid (B.out.trans (hb.mono B.out.size))
        clear hb hd hx2
        go_wp2_with fail
        rw [← HX.out]
        clear HX
        have VN := Vn
        clear Vn
        refine (HS.out _ _ _ VA.out.at_ VB.out.at_).mono ?_
        rintro e u3 ⟨Au, cu, rfl, hb⟩
        have VA := Lib.hid (VA.out.on hb)
        have VB := Lib.hid (VB.out.on hb)
        have VM := Lib.hid (VM.out.on hb)
        have VN := Lib.hid (VN.out.on hb)
        have B := Lib.hid (B.out.trans (hb.mono B.out.size))
        clear hb  p0 p1 p2 p3 p4 q0 q1 q2 q3 q4 HS
        obtain ⟨p0, p1, p2, p3, p4⟩ := VM.out.box
        obtain ⟨q0, q1, q2, q3, q4⟩ := VN.out.box
        obtain ⟨r0, r1, r2, r3, r4⟩ := VA.out.box
        obtain ⟨t0, t1, t2, t3, t4⟩ := VB.out.box
        go_wp2_with fail
        refine (HSm.out _ _ _ VM.out.at_ VN.out.at_).mono ?_
        rintro e u4 ⟨rfl, hb⟩
        have VA := Lib.hid (VA.out.on hb)
        have VB := Lib.hid (VB.out.on hb)
        have VM := Lib.hid (VM.out.on hb)
        have VN := Lib.hid (VN.out.on hb)
        have B := Lib.hid (B.out.trans (hb.mono B.out.size))
        clear hb  p0 p1 p2 p3 p4 q0 q1 q2 q3 q4 r0 r1 r2 r3 r4 t0 t1 t2 t3 t4 HSm
        go_wp2
        go_ret
        exact ⟨rfl, B.out⟩
      · have hLL : ¬ L0 = L1 := by rw [← hL0, ← hL1]; exact hL
        have hch : chkD2 d0 d1 = 3 := by unfold chkD2; rw [if_neg (by omega), if_neg (by omega), if_pos hL]
        have HS := Lib.hid (fun W v z (h : DfaAt W W.heap.size v d0) (h2 : DfaAt W W.heap.size z d1) => same_len (E := errI 3) h h2 (sameOut_bad (by omega)) (by rw [hch]; rfl) (n := 0) rfl)
        clear ga gb Ga Gb hL hL0 hL1 hN0 hN1 hch
        generalize minA d0 = T at *
        generalize minA d1 = T2 at *
        go_enter Tryd.func12, Tryd.ntmps12
        obtain ⟨p0, p1, p2, p3, p4⟩ := VA.out.box
        obtain ⟨q0, q1, q2, q3, q4⟩ := VB.out.box
        go_wp2_with fail
        rw [← W0.out]
        clear W0
        refine (HM.out _ _ VA.out.at_).mono ?_
        rintro e u1 ⟨L11, s11, A11, n11, c11, F11, m11, k11, rfl, hd, hb⟩
        have VA := Lib.hid (VA.out.on hb)
        have VB := Lib.hid (VB.out.on hb)
        have B := Lib.hid (B.out.trans (hb.mono B.out.size))
        clear hb  p0 p1 p2 p3 p4 q0 q1 q2 q3 q4 HM
        obtain ⟨p0, p1, p2, p3, p4⟩ := VA.out.box
        obtain ⟨q0, q1, q2, q3, q4⟩ := VB.out.box
        obtain ⟨x1, hx1, hb, Vn⟩ := var_new u1 hd.out
        have HX := Lib.hid hx1
        have Vn := Lib.hid Vn
        have VA := Lib.hid (VA.out.on hb)
        have VB := Lib.hid (VB.out.on hb)
        have B := Lib.hid (B.out.trans (hb.mono B.out.size))
        clear hb hd hx1
        go_wp2_with fail
        rw [← HX.out]
        clear HX
        have VM := Vn
        clear Vn
        refine (HN.out _ _ VB.out.at_).mono ?_
        rintro e u2 ⟨L12, s12, A12, n12, c12, F12, m12, k12, rfl, hd, hb⟩
        have VA := Lib.hid (VA.out.on hb)
        have VB := Lib.hid (VB.out.on hb)
        have VM := Lib.hid (VM.out.on hb)
        have B := Lib.hid (B.out.trans (hb.mono B.out.size))
        clear hb  p0 p1 p2 p3 p4 q0 q1 q2 q3 q4 HN
        obtain ⟨p0, p1, p2, p3, p4⟩ := VA.out.box
        obtain ⟨q0, q1, q2, q3, q4⟩ := VB.out.box
        obtain ⟨x2, hx2, hb, Vn⟩ := var_new u2 hd.out
        have HX := Lib.hid hx2
        have Vn := Lib.hid Vn
        have VA := Lib.hid (VA.out.on hb)
        have VB := Lib.hid (VB.out.on hb)
        have VM := Lib.hid (VM.out.on hb)
        have B := Lib.hid (B.out.trans (hb.mono B.out.size))
        clear hb hd hx2
        go_wp2_with fail
        rw [← HX.out]
        clear HX
        have VN := Vn
        clear Vn
        refine (HS.out _ _ _ VA.out.at_ VB.out.at_).mono ?_
        rintro e u3 ⟨Au, cu, rfl, hb⟩
        have VA := Lib.hid (VA.out.on hb)
        have VB := Lib.hid (VB.out.on hb)
        have VM := Lib.hid (VM.out.on hb)
        have VN := Lib.hid (VN.out.on hb)
        have B := Lib.hid (B.out.trans (hb.mono B.out.size))
        clear hb  p0 p1 p2 p3 p4 q0 q1 q2 q3 q4 HS
        obtain ⟨p0, p1, p2, p3, p4⟩ := VA.out.box
        obtain ⟨q0, q1, q2, q3, q4⟩ := VB.out.box
        go_wp2_with fail
        refine (HE3.out _ B.out).mono ?_
        rintro e u4 ⟨rfl, hb⟩
        have VA := Lib.hid (VA.out.on hb)
        have VB := Lib.hid (VB.out.on hb)
        have VM := Lib.hid (VM.out.on hb)
        have VN := Lib.hid (VN.out.on hb)
        have B := Lib.hid (B.out.trans (hb.mono B.out.size))
        clear hb HE3
        clear p0 p1 p2 p3 p4 q0 q1 q2 q3 q4
        go_wp2
        go_ret
        exact ⟨rfl, B.out⟩
    · have gc : chkD2 d0 d1 ≠ 0 := fun q => gb (dchk_iff.2 (chkD2_iff.1 q).gb)
      obtain ⟨E, hE⟩ := errV_bad gb
      obtain ⟨E2, hE2⟩ := errV_bad gc
      have HN := Lib.hid (fun W v (h : DfaAt W W.heap.size v d1) => min_gives h (minOut_bad gb) hE)
      have HS := Lib.hid (fun W v z (h : DfaAt W W.heap.size v d0) (h2 : DfaAt W W.heap.size z d1) => same_len h h2 (sameOut_bad gc) hE2 (n := 0) rfl)
      clear ga gb Ga gc hE hE2 hL0 hL1 hN0 hN1 HE3
      generalize minA d0 = T at *
      generalize zeroA = T2 at *
      go_enter Tryd.func12, Tryd.ntmps12
      obtain ⟨p0, p1, p2, p3, p4⟩ := VA.out.box
      obtain ⟨q0, q1, q2, q3, q4⟩ := VB.out.box
      go_wp2_with fail
      rw [← W0.out]
      clear W0
      refine (HM.out _ _ VA.out.at_).mono ?_
      rintro e u1 ⟨L11, s11, A11, n11, c11, F11, m11, k11, rfl, hd, hb⟩
      have VA := Lib.hid (VA.out.on hb)
      have VB := Lib.hid (VB.out.on hb)
      have B := Lib.hid (B.out.trans (hb.mono B.out.size))
      clear hb  p0 p1 p2 p3 p4 q0 q1 q2 q3 q4 HM
      obtain ⟨p0, p1, p2, p3, p4⟩ := VA.out.box
      obtain ⟨q0, q1, q2, q3, q4⟩ := VB.out.box
      obtain ⟨x1, hx1, hb, Vn⟩ := var_new u1 hd.out
      have HX := Lib.hid hx1
      have Vn := Lib.hid Vn
      have VA := Lib.hid (VA.out.on hb)
      have VB := Lib.hid (VB.out.on hb)
      have B := Lib.hid (B.out.trans (hb.mono B.out.size))
      clear hb hd hx1
      go_wp2_with fail
      rw [← HX.out]
      clear HX
      have VM := Vn
      clear Vn
      refine (HN.out _ _ VB.out.at_).mono ?_
      rintro e u2 ⟨L12, s12, A12, n12, c12, F12, m12, k12, rfl, hd, hb⟩
      have VA := Lib.hid (VA.out.on hb)
      have VB := Lib.hid (VB.out.on hb)
      have VM := Lib.hid (VM.out.on hb)
      have B := Lib.hid (B.out.trans (hb.mono B.out.size))
      clear hb  p0 p1 p2 p3 p4 q0 q1 q2 q3 q4 HN
      obtain ⟨p0, p1, p2, p3, p4⟩ := VA.out.box
      obtain ⟨q0, q1, q2, q3, q4⟩ := VB.out.box
      obtain ⟨x2, hx2, hb, Vn⟩ := var_new u2 hd.out
      have HX := Lib.hid hx2
      have Vn := Lib.hid Vn
      have VA := Lib.hid (VA.out.on hb)
      have VB := Lib.hid (VB.out.on hb)
      have VM := Lib.hid (VM.out.on hb)
      have B := Lib.hid (B.out.trans (hb.mono B.out.size))
      clear hb hd hx2
      go_wp2_with fail
      rw [← HX.out]
      clear HX
      have VN := Vn
      clear Vn
      refine (HS.out _ _ _ VA.out.at_ VB.out.at_).mono ?_
      rintro e u3 ⟨Au, cu, rfl, hb⟩
      have VA := Lib.hid (VA.out.on hb)
      have VB := Lib.hid (VB.out.on hb)
      have VM := Lib.hid (VM.out.on hb)
      have VN := Lib.hid (VN.out.on hb)
      have B := Lib.hid (B.out.trans (hb.mono B.out.size))
      clear hb  p0 p1 p2 p3 p4 q0 q1 q2 q3 q4 HS
      go_wp2
      go_ret
      exact ⟨rfl, B.out⟩
  · have gc : chkD2 d0 d1 ≠ 0 := fun q => ga (dchk_iff.2 (chkD2_iff.1 q).ga)
    obtain ⟨E, hE⟩ := errV_bad ga
    obtain ⟨E2, hE2⟩ := errV_bad gc
    have HM := Lib.hid (fun W v (h : DfaAt W W.heap.size v d0) => min_gives h (minOut_bad ga) hE)
    have HN := Lib.hid (fun W v (h : DfaAt W W.heap.size v d1) => min_gives h (r := (minOut d1).1) (k := (minOut d1).2) rfl rfl)
    have HS := Lib.hid (fun W v z (h : DfaAt W W.heap.size v d0) (h2 : DfaAt W W.heap.size z d1) => same_len h h2 (sameOut_bad gc) hE2 (n := 0) rfl)
    clear ga gc hE hE2 hL0 hL1 hN0 hN1 HE3
    generalize (minOut d1).1 = T2 at *
    generalize errV (minOut d1).2 = E3 at *
    generalize zeroA = T at *
    go_enter Tryd.func12, Tryd.ntmps12
    obtain ⟨p0, p1, p2, p3, p4⟩ := VA.out.box
    obtain ⟨q0, q1, q2, q3, q4⟩ := VB.out.box
    go_wp2_with fail
    rw [← W0.out]
    clear W0
    refine (HM.out _ _ VA.out.at_).mono ?_
    rintro e u1 ⟨L11, s11, A11, n11, c11, F11, m11, k11, rfl, hd, hb⟩
    have VA := Lib.hid (VA.out.on hb)
    have VB := Lib.hid (VB.out.on hb)
    have B := Lib.hid (B.out.trans (hb.mono B.out.size))
    clear hb  p0 p1 p2 p3 p4 q0 q1 q2 q3 q4 HM
    obtain ⟨p0, p1, p2, p3, p4⟩ := VA.out.box
    obtain ⟨q0, q1, q2, q3, q4⟩ := VB.out.box
    obtain ⟨x1, hx1, hb, Vn⟩ := var_new u1 hd.out
    have HX := Lib.hid hx1
    have Vn := Lib.hid Vn
    have VA := Lib.hid (VA.out.on hb)
    have VB := Lib.hid (VB.out.on hb)
    have B := Lib.hid (B.out.trans (hb.mono B.out.size))
    clear hb hd hx1
    go_wp2_with fail
    rw [← HX.out]
    clear HX
    have VM := Vn
    clear Vn
    refine (HN.out _ _ VB.out.at_).mono ?_
    rintro e u2 ⟨L12, s12, A12, n12, c12, F12, m12, k12, rfl, hd, hb⟩
    have VA := Lib.hid (VA.out.on hb)
    have VB := Lib.hid (VB.out.on hb)
    have VM := Lib.hid (VM.out.on hb)
    have B := Lib.hid (B.out.trans (hb.mono B.out.size))
    clear hb  p0 p1 p2 p3 p4 q0 q1 q2 q3 q4 HN
    obtain ⟨p0, p1, p2, p3, p4⟩ := VA.out.box
    obtain ⟨q0, q1, q2, q3, q4⟩ := VB.out.box
    obtain ⟨x2, hx2, hb, Vn⟩ := var_new u2 hd.out
    have HX := Lib.hid hx2
    have Vn := Lib.hid Vn
    have VA := Lib.hid (VA.out.on hb)
    have VB := Lib.hid (VB.out.on hb)
    have VM := Lib.hid (VM.out.on hb)
    have B := Lib.hid (B.out.trans (hb.mono B.out.size))
    clear hb hd hx2
    go_wp2_with fail
    rw [← HX.out]
    clear HX
    have VN := Vn
    clear Vn
    refine (HS.out _ _ _ VA.out.at_ VB.out.at_).mono ?_
    rintro e u3 ⟨Au, cu, rfl, hb⟩
    have VA := Lib.hid (VA.out.on hb)
    have VB := Lib.hid (VB.out.on hb)
    have VM := Lib.hid (VM.out.on hb)
    have VN := Lib.hid (VN.out.on hb)
    have B := Lib.hid (B.out.trans (hb.mono B.out.size))
    clear hb  p0 p1 p2 p3 p4 q0 q1 q2 q3 q4 HS
    go_wp2
    go_ret
    exact ⟨rfl, B.out⟩


set_option maxRecDepth 100000 in
theorem lifted (os : Os) (started : os.Started) (H : Type) (enc : TypeId × Value → H) :
    ReturnsInHanded {} Tryd.checked os 12 .any (fun w args => (Rows.smallOneSpec.pre enc Tryd.prog Tryd.f12 Rows.smallOneRow.domain false w args ∧ laidMetH Tryd.prog [("errors.errorType", Rows.laid_errors_errorType)] w) ∧ sizedMet enc Tryd.prog Tryd.f12 (OpenSpec.ofChange Rows.smallOneSpec) false w args) (Rows.smallOneSpec.post enc Tryd.prog Tryd.f12 false true false false) := by
  refine returnsInHanded_of_change_and (C := Tryd.checked) (X := fun w _ => laidMetH Tryd.prog [("errors.errorType", Rows.laid_errors_errorType)] w) (fun _ _ _ hh h => h.of_heap hh) own started (by kernel_rfl) Tryd.func12
    (ChangeSpec.witness_at (enc := enc) (C := Tryd.checked) (os := os) (X := fun w _ => laidMetH Tryd.prog [("errors.errorType", Rows.laid_errors_errorType)] w) false (laidWorld os) #[.agg #[.int .i64 0, .int .i64 0, .slice none 0 0, .slice none 0 0], .agg #[.int .i64 0, .int .i64 0, .slice none 0 0, .slice none 0 0]] 8 rfl (by kernel_rfl) (by kernel_rfl) (by kernel_rfl) (by kernel_rfl) (by kernel_rfl) (laidWorld_met os _)) ?_
  intro W base args ds gs before hval0 hW hcnd hsz0 hL _
  have hval : ∀ (j : Nat) t v, Tryd.f12.params[j]? = some t → args[j]? = some v → Value.okWide Tryd.prog W .any base t v := hval0
  have hsz : (DataW.weightsEach Tryd.prog (Tryd.f12.params.toList ++ Rows.smallOneSpec.plain.varTypes Tryd.prog) (ds ++ gs)).all (· ≤ reachBytes) = true := hsz0
  have hW' := hW
  obtain ⟨p, q, hA0, hV0, rfl, hfz, hnd⟩ := hW
  have hV : DataW.TrodVars enc Tryd.prog W (fun _ => true) [] gs q := hV0
  have hA : DataW.TrodAll enc Tryd.prog W 0 (fun _ => true) true Tryd.f12.params.toList args.toList ds p := hA0
  rw [Tryd.params12] at hA hval hsz
  obtain ⟨v0, vs0, d0, ds0, p0, q0, hargs, rfl, rfl, h0, rr0⟩ := trodAll_cons hA
  obtain ⟨v1, vs1, d1, ds1, p1, q1, rfl, rfl, rfl, h1, rr1⟩ := trodAll_cons rr0
  obtain ⟨rfl, rfl, rfl⟩ := trodAll_nil rr1
  obtain rfl : args = #[v0, v1] := by cases args; simp_all
  obtain ⟨rfl, rfl⟩ := trodVars_none hV
  have k0 := h0
  have lt0 : ∀ x ∈ p0, x.block < W.heap.size := by obtain ⟨m, hm⟩ := k0; exact DataW.trod_lt m _ _ _ hm
  have k1 := h1
  have lt1 : ∀ x ∈ p1, x.block < W.heap.size := by obtain ⟨m, hm⟩ := k1; exact DataW.trod_lt m _ _ _ hm
  obtain ⟨D0, x0⟩ : ∃ d : Df.Aut, Df.DfaAt W W.heap.size v0 d := Df.dfa_open (hval 0 25 v0 rfl rfl) h0
  obtain ⟨D1, x1⟩ : ∃ d : Df.Aut, Df.DfaAt W W.heap.size v1 d := Df.dfa_open (hval 1 25 v1 rfl rfl) h1
  clear hA0 hval0
  refine (walk v0 D0 v1 D1 W x0 x1 (handle_of_laid hL)).mono fun e W' ⟨he, bel⟩ => ?_
  subst he
  exact ⟨_, rfl, _, _, _, [], _, [], hW', trodAll_mk1 (shut_bool Tryd.underlying4 _), (trodAll_cons_mk (Below.trod laidOut (by kernel_rfl) (of_decide_eq_true (by kernel_rfl)) k0 bel lt0) (trodAll_cons_mk (Below.trod laidOut (by kernel_rfl) (of_decide_eq_true (by kernel_rfl)) k1 bel lt1) trodAll_mk0)), rfl, bel.frame _, fun h => by cases h⟩

theorem over : Rows.smallOneRow.holds Tryd.pinned (OpenSpec.ofChange Rows.smallOneSpec) :=
  OpenClaim.holds_of_wide 12 Tryd.f12 rfl rfl rfl rfl rfl rfl rfl ⟨rfl, rfl, rfl, rfl, rfl⟩ rfl rfl rfl rfl rfl (by kernel_rfl) Tryd.func12 (by kernel_rfl)
    (of_decide_eq_true (by kernel_rfl)) (by unfold Func.isWrapper; rw [if_neg (of_decide_eq_false (by kernel_rfl))]; exact ⟨rfl, rfl⟩)
    (fun os started H enc _ => lifted os started H enc)
theorem proved : Rows.SmallOneCardSaid :=
  Claim7.holds_tied_plain_at .later [] [.handle] true (true, "79422bc317647e98da3515ddd54c616c62872d918dc64e134f53a2f36d3d9ecc") true
    over (fun _ h => by cases h) (by kernel_rfl) (fun _ h => by cases h) smallOne_row_tie rfl ⟨rfl, rfl⟩ (by kernel_rfl) rfl
    (fun f fn hf hfn => by
      obtain rfl : f = 12 := Option.some.inj ((show Tryd.prog.funcNamed "stileward/stilewardlaw2.SmallOne" = some 12 by kernel_rfl).symm.trans hf) |>.symm
      obtain rfl : fn = Tryd.f12 := (Option.some.inj (Tryd.func12.symm.trans hfn)).symm
      exact ⟨by kernel_rfl, fun j t ht => by
        rw [Tryd.params12] at ht
        rcases j with _ | _ | j
        · obtain rfl : 25 = t := by simpa using ht
          exact (show Tryd.prog.wantsStandIn 25 = false by kernel_rfl)
        · obtain rfl : 25 = t := by simpa using ht
          exact (show Tryd.prog.wantsStandIn 25 = false by kernel_rfl)
        · simp at ht⟩)
    (by kernel_rfl)
#print axioms proved
end Go.Proofs.YtinehjfanabegaaDoor.smallOne
