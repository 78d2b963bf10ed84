/-
  The statement SafeClassSaid of this seat, proved: for every input the law returns true and its arguments read behind the call as before. Conditions: none but the row's own (each argument within the reach).
-/
import Derived.Test.YtciopfiddfmckaaRows
import Derived.Test.YtciopfiddfmckaaWords
import Derived.WalkKit
import Derived.ProofKit
import Derived.OpenShut
import Derived.ShutString
import Derived.ChangeOld
import Derived.Below
import Derived.SizedLaws
import Derived.Lib.Hide
import Derived.Test.YtciopfiddfmckaaSafeL
import Derived.Test.YtciopfiddfmckaaFew
namespace Go.Proofs.Ytciopfiddfmckaa.safeClass
open Go.ChangeShapes Go.WideShapes Go.ChangeAt Go.RowKit Go.IntWalk Go.Proofs.Ytciopfiddfmckaa.Wd
open Go.ChangeMaps (open_string shut_string)
set_option linter.unusedVariables false

theorem own : ownKnob Try.prog.godebug = none := by kernel_rfl
theorem laidOut : laidOutB Try.prog = true := by kernel_rfl
open Go.Proofs.Ytciopfiddfmckaa.Wo Go.Proofs.Ytciopfiddfmckaa.Df Go.Proofs.Ytciopfiddfmckaa.Rc Go.Proofs.Ytciopfiddfmckaa.Sm Go.Proofs.Ytciopfiddfmckaa.Mp Go.Proofs.Ytciopfiddfmckaa.Sa

set_option maxRecDepth 100000 in
set_option maxHeartbeats 4000000 in
theorem walk (v0 : Value) (d0 : Df.Aut) (w : World) (h0 : Df.DfaAt w w.heap.size v0 d0) :
    Calls Try.prog 3 #[v0] w fun e w' => e = .returned (.bool true) ∧ Below w.heap.size w w' := by
  obtain ⟨L0, s0, A0, n0, c0, F0, m0, k0, rfl⟩ := h0.form
  have hN0 := h0.eqs.2.2.1
  obtain ⟨u0, hu0, hb0, VA0⟩ := var_new w h0
  have VA := Lib.hid VA0
  have B := Lib.hid hb0
  have W0 := Lib.hid hu0
  have HN0 := Lib.hid hN0
  clear VA0 hb0 hu0 h0 hN0
  have HF := Lib.hid few_any
  have HF1 := Lib.hid (fun W v (h : DfaAt W W.heap.size v fewA) => cls_gives (E := .nilIface) h (clsOut_ok few_good) rfl)
  rw [few_class] at HF1
  by_cases g1 : dchk d0 = 0
  · have Ga := dchk_iff.1 g1
    have gn := notA_good Ga
    have HC := Lib.hid (fun W v (h : DfaAt W W.heap.size v d0) => cls_gives (E := .nilIface) h (clsOut_ok Ga) rfl)
    have HAl := Lib.hid (fun W v (h : DfaAt W W.heap.size v d0) => always_gives (E := .nilIface) h (mkO_ok Ga) rfl)
    have HEv := Lib.hid (fun W v (h : DfaAt W W.heap.size v d0) => ever_gives (E := .nilIface) h (mkO_ok Ga) rfl)
    have HNt := Lib.hid (fun W v (h : DfaAt W W.heap.size v d0) => not_gives (E := .nilIface) h (notOut_ok Ga) rfl)
    have HT := Lib.hid (fun W v (h : DfaAt W W.heap.size v (notA d0)) => cls_gives (E := .nilIface) h (clsOut_ok gn) rfl)
    have HSa := Lib.hid (fun W v z (h : DfaAt W W.heap.size v d0) (h2 : DfaAt W W.heap.size z (stopA false d0)) => same_len0 (E := .nilIface) h h2 (same_out (good2_stop (b := false) Ga)))
    have HSb := Lib.hid (fun W v z (h : DfaAt W W.heap.size v d0) (h2 : DfaAt W W.heap.size z (stopA true d0)) => same_len0 (E := .nilIface) h h2 (same_out (good2_stop (b := true) Ga)))
    rw [alwaysB Ga] at HSa
    rw [show same0 d0 (stopA true d0) = goesB d0 from rfl] at HSb
    unfold classA at HC HT
    rw [begunB_not Ga, goesB_not Ga] at HT
    clear g1 Ga gn HN0
    generalize begunB d0 = x at *
    generalize goesB d0 = y at *
    generalize stopA false d0 = AL at *
    generalize stopA true d0 = EV at *
    generalize notA d0 = N at *
    rcases x with _ | _ <;> rcases y with _ | _
    · change Hid (∀ W v (h : DfaAt W W.heap.size v d0), Calls _ _ _ W fun e w' => e = .returned (.tuple #[.int .i64 0, .nilIface]) ∧ _) at HC
      change Hid (∀ W v (h : DfaAt W W.heap.size v N), Calls _ _ _ W fun e w' => e = .returned (.tuple #[.int .i64 0, .nilIface]) ∧ _) at HT
      as_aux_lemma =>
        go_enter Try.func3, Try.ntmps3
        go_wp2_with fail
        rw [← W0.out]
        clear W0
        refine (HF.out _).mono ?_
        rintro e u1 he
        obtain ⟨xf, rfl, hof⟩ := he.out
        have hb := hof.below
        have HX0 := Lib.hid hof.at_
        have VA := Lib.hid (VA.out.on hb)
        have B := Lib.hid (B.out.trans (hb.mono B.out.size))
        clear hb he hof HF
        go_wp2_with fail
        refine (HF1.out _ _ HX0.out).mono ?_
        rintro e u2 ⟨rfl, hb⟩
        have VA := Lib.hid (VA.out.on hb)
        have B := Lib.hid (B.out.trans (hb.mono B.out.size))
        clear hb  HF1 HX0
        obtain ⟨p0, p1, p2, p3, p4⟩ := VA.out.box
        go_wp2_with fail
        refine (HC.out _ _ VA.out.at_).mono ?_
        rintro e u3 ⟨rfl, hb⟩
        have VA := Lib.hid (VA.out.on hb)
        have B := Lib.hid (B.out.trans (hb.mono B.out.size))
        clear hb p0 p1 p2 p3 p4 HC
        obtain ⟨p0, p1, p2, p3, p4⟩ := VA.out.box
        go_wp2_with fail
        refine (HAl.out _ _ VA.out.at_).mono ?_
        rintro e u4 ⟨L14, s14, A14, n14, c14, F14, m14, k14, rfl, hd, hb⟩
        have VA := Lib.hid (VA.out.on hb)
        have B := Lib.hid (B.out.trans (hb.mono B.out.size))
        clear hb p0 p1 p2 p3 p4 HAl
        obtain ⟨x4, hx4, hbn, Vn⟩ := var_new u4 hd.out
        have VL := Lib.hid Vn
        have VA := Lib.hid (VA.out.on hbn)
        have B := Lib.hid (B.out.trans (hbn.mono B.out.size))
        clear hbn Vn hd
        obtain ⟨p0, p1, p2, p3, p4⟩ := VA.out.box
        rw [hx4] at p1 p2 p3 p4
        have HX := Lib.hid hx4
        clear hx4
        go_wp2_with fail
        rw [← HX.out]
        clear HX
        refine (HEv.out _ _ VA.out.at_).mono ?_
        rintro e u5 ⟨L15, s15, A15, n15, c15, F15, m15, k15, rfl, hd, hb⟩
        have VA := Lib.hid (VA.out.on hb)
        have VL := Lib.hid (VL.out.on hb)
        have B := Lib.hid (B.out.trans (hb.mono B.out.size))
        clear hb p0 p1 p2 p3 p4 HEv
        obtain ⟨x5, hx5, hbn, Vn⟩ := var_new u5 hd.out
        have VE := Lib.hid Vn
        have VA := Lib.hid (VA.out.on hbn)
        have VL := Lib.hid (VL.out.on hbn)
        have B := Lib.hid (B.out.trans (hbn.mono B.out.size))
        clear hbn Vn hd
        obtain ⟨p0, p1, p2, p3, p4⟩ := VA.out.box
        rw [hx5] at p1 p2 p3 p4
        have HX := Lib.hid hx5
        clear hx5
        go_wp2_with fail
        rw [← HX.out]
        clear HX
        refine (HNt.out _ _ VA.out.at_).mono ?_
        rintro e u6 ⟨L16, s16, A16, n16, c16, F16, m16, k16, rfl, hd, hb⟩
        have VA := Lib.hid (VA.out.on hb)
        have VL := Lib.hid (VL.out.on hb)
        have VE := Lib.hid (VE.out.on hb)
        have B := Lib.hid (B.out.trans (hb.mono B.out.size))
        clear hb p0 p1 p2 p3 p4 HNt
        obtain ⟨x6, hx6, hbn, Vn⟩ := var_new u6 hd.out
        have VN := Lib.hid Vn
        have VA := Lib.hid (VA.out.on hbn)
        have VL := Lib.hid (VL.out.on hbn)
        have VE := Lib.hid (VE.out.on hbn)
        have B := Lib.hid (B.out.trans (hbn.mono B.out.size))
        clear hbn Vn hd
        obtain ⟨p0, p1, p2, p3, p4⟩ := VA.out.box
        rw [hx6] at p1 p2 p3 p4
        obtain ⟨q0, q1, q2, q3, q4⟩ := VL.out.box
        rw [hx6] at q1 q2 q3 q4
        have HX := Lib.hid hx6
        clear hx6
        go_wp2_with fail
        rw [← HX.out]
        clear HX
        refine (HSa.out _ _ _ VA.out.at_ VL.out.at_).mono ?_
        rintro e u7 ⟨Au, cu, rfl, _, hb⟩
        have VA := Lib.hid (VA.out.on hb)
        have VL := Lib.hid (VL.out.on hb)
        have VE := Lib.hid (VE.out.on hb)
        have VN := Lib.hid (VN.out.on hb)
        have B := Lib.hid (B.out.trans (hb.mono B.out.size))
        clear hb p0 p1 p2 p3 p4 q0 q1 q2 q3 q4 HSa
        obtain ⟨p0, p1, p2, p3, p4⟩ := VA.out.box
        obtain ⟨q0, q1, q2, q3, q4⟩ := VE.out.box
        go_wp2_with fail
        refine (HSb.out _ _ _ VA.out.at_ VE.out.at_).mono ?_
        rintro e u8 ⟨Au, cu, rfl, _, hb⟩
        have VA := Lib.hid (VA.out.on hb)
        have VL := Lib.hid (VL.out.on hb)
        have VE := Lib.hid (VE.out.on hb)
        have VN := Lib.hid (VN.out.on hb)
        have B := Lib.hid (B.out.trans (hb.mono B.out.size))
        clear hb p0 p1 p2 p3 p4 q0 q1 q2 q3 q4 HSb
        obtain ⟨p0, p1, p2, p3, p4⟩ := VN.out.box
        go_wp2_with fail
        refine (HT.out _ _ VN.out.at_).mono ?_
        rintro e u9 ⟨rfl, hb⟩
        have VA := Lib.hid (VA.out.on hb)
        have VL := Lib.hid (VL.out.on hb)
        have VE := Lib.hid (VE.out.on hb)
        have VN := Lib.hid (VN.out.on hb)
        have B := Lib.hid (B.out.trans (hb.mono B.out.size))
        clear hb p0 p1 p2 p3 p4 HT
        go_wp2
        go_ret
        exact ⟨rfl, B.out⟩
    · change Hid (∀ W v (h : DfaAt W W.heap.size v d0), Calls _ _ _ W fun e w' => e = .returned (.tuple #[.int .i64 2, .nilIface]) ∧ _) at HC
      change Hid (∀ W v (h : DfaAt W W.heap.size v N), Calls _ _ _ W fun e w' => e = .returned (.tuple #[.int .i64 1, .nilIface]) ∧ _) at HT
      as_aux_lemma =>
        go_enter Try.func3, Try.ntmps3
        go_wp2_with fail
        rw [← W0.out]
        clear W0
        refine (HF.out _).mono ?_
        rintro e u1 he
        obtain ⟨xf, rfl, hof⟩ := he.out
        have hb := hof.below
        have HX0 := Lib.hid hof.at_
        have VA := Lib.hid (VA.out.on hb)
        have B := Lib.hid (B.out.trans (hb.mono B.out.size))
        clear hb he hof HF
        go_wp2_with fail
        refine (HF1.out _ _ HX0.out).mono ?_
        rintro e u2 ⟨rfl, hb⟩
        have VA := Lib.hid (VA.out.on hb)
        have B := Lib.hid (B.out.trans (hb.mono B.out.size))
        clear hb  HF1 HX0
        obtain ⟨p0, p1, p2, p3, p4⟩ := VA.out.box
        go_wp2_with fail
        refine (HC.out _ _ VA.out.at_).mono ?_
        rintro e u3 ⟨rfl, hb⟩
        have VA := Lib.hid (VA.out.on hb)
        have B := Lib.hid (B.out.trans (hb.mono B.out.size))
        clear hb p0 p1 p2 p3 p4 HC
        obtain ⟨p0, p1, p2, p3, p4⟩ := VA.out.box
        go_wp2_with fail
        refine (HAl.out _ _ VA.out.at_).mono ?_
        rintro e u4 ⟨L14, s14, A14, n14, c14, F14, m14, k14, rfl, hd, hb⟩
        have VA := Lib.hid (VA.out.on hb)
        have B := Lib.hid (B.out.trans (hb.mono B.out.size))
        clear hb p0 p1 p2 p3 p4 HAl
        obtain ⟨x4, hx4, hbn, Vn⟩ := var_new u4 hd.out
        have VL := Lib.hid Vn
        have VA := Lib.hid (VA.out.on hbn)
        have B := Lib.hid (B.out.trans (hbn.mono B.out.size))
        clear hbn Vn hd
        obtain ⟨p0, p1, p2, p3, p4⟩ := VA.out.box
        rw [hx4] at p1 p2 p3 p4
        have HX := Lib.hid hx4
        clear hx4
        go_wp2_with fail
        rw [← HX.out]
        clear HX
        refine (HEv.out _ _ VA.out.at_).mono ?_
        rintro e u5 ⟨L15, s15, A15, n15, c15, F15, m15, k15, rfl, hd, hb⟩
        have VA := Lib.hid (VA.out.on hb)
        have VL := Lib.hid (VL.out.on hb)
        have B := Lib.hid (B.out.trans (hb.mono B.out.size))
        clear hb p0 p1 p2 p3 p4 HEv
        obtain ⟨x5, hx5, hbn, Vn⟩ := var_new u5 hd.out
        have VE := Lib.hid Vn
        have VA := Lib.hid (VA.out.on hbn)
        have VL := Lib.hid (VL.out.on hbn)
        have B := Lib.hid (B.out.trans (hbn.mono B.out.size))
        clear hbn Vn hd
        obtain ⟨p0, p1, p2, p3, p4⟩ := VA.out.box
        rw [hx5] at p1 p2 p3 p4
        have HX := Lib.hid hx5
        clear hx5
        go_wp2_with fail
        rw [← HX.out]
        clear HX
        refine (HNt.out _ _ VA.out.at_).mono ?_
        rintro e u6 ⟨L16, s16, A16, n16, c16, F16, m16, k16, rfl, hd, hb⟩
        have VA := Lib.hid (VA.out.on hb)
        have VL := Lib.hid (VL.out.on hb)
        have VE := Lib.hid (VE.out.on hb)
        have B := Lib.hid (B.out.trans (hb.mono B.out.size))
        clear hb p0 p1 p2 p3 p4 HNt
        obtain ⟨x6, hx6, hbn, Vn⟩ := var_new u6 hd.out
        have VN := Lib.hid Vn
        have VA := Lib.hid (VA.out.on hbn)
        have VL := Lib.hid (VL.out.on hbn)
        have VE := Lib.hid (VE.out.on hbn)
        have B := Lib.hid (B.out.trans (hbn.mono B.out.size))
        clear hbn Vn hd
        obtain ⟨p0, p1, p2, p3, p4⟩ := VA.out.box
        rw [hx6] at p1 p2 p3 p4
        obtain ⟨q0, q1, q2, q3, q4⟩ := VL.out.box
        rw [hx6] at q1 q2 q3 q4
        have HX := Lib.hid hx6
        clear hx6
        go_wp2_with fail
        rw [← HX.out]
        clear HX
        refine (HSa.out _ _ _ VA.out.at_ VL.out.at_).mono ?_
        rintro e u7 ⟨Au, cu, rfl, _, hb⟩
        have VA := Lib.hid (VA.out.on hb)
        have VL := Lib.hid (VL.out.on hb)
        have VE := Lib.hid (VE.out.on hb)
        have VN := Lib.hid (VN.out.on hb)
        have B := Lib.hid (B.out.trans (hb.mono B.out.size))
        clear hb p0 p1 p2 p3 p4 q0 q1 q2 q3 q4 HSa
        obtain ⟨p0, p1, p2, p3, p4⟩ := VA.out.box
        obtain ⟨q0, q1, q2, q3, q4⟩ := VE.out.box
        go_wp2_with fail
        refine (HSb.out _ _ _ VA.out.at_ VE.out.at_).mono ?_
        rintro e u8 ⟨Au, cu, rfl, _, hb⟩
        have VA := Lib.hid (VA.out.on hb)
        have VL := Lib.hid (VL.out.on hb)
        have VE := Lib.hid (VE.out.on hb)
        have VN := Lib.hid (VN.out.on hb)
        have B := Lib.hid (B.out.trans (hb.mono B.out.size))
        clear hb p0 p1 p2 p3 p4 q0 q1 q2 q3 q4 HSb
        obtain ⟨p0, p1, p2, p3, p4⟩ := VN.out.box
        go_wp2_with fail
        refine (HT.out _ _ VN.out.at_).mono ?_
        rintro e u9 ⟨rfl, hb⟩
        have VA := Lib.hid (VA.out.on hb)
        have VL := Lib.hid (VL.out.on hb)
        have VE := Lib.hid (VE.out.on hb)
        have VN := Lib.hid (VN.out.on hb)
        have B := Lib.hid (B.out.trans (hb.mono B.out.size))
        clear hb p0 p1 p2 p3 p4 HT
        go_wp2
        go_ret
        exact ⟨rfl, B.out⟩
    · change Hid (∀ W v (h : DfaAt W W.heap.size v d0), Calls _ _ _ W fun e w' => e = .returned (.tuple #[.int .i64 1, .nilIface]) ∧ _) at HC
      change Hid (∀ W v (h : DfaAt W W.heap.size v N), Calls _ _ _ W fun e w' => e = .returned (.tuple #[.int .i64 2, .nilIface]) ∧ _) at HT
      as_aux_lemma =>
        go_enter Try.func3, Try.ntmps3
        go_wp2_with fail
        rw [← W0.out]
        clear W0
        refine (HF.out _).mono ?_
        rintro e u1 he
        obtain ⟨xf, rfl, hof⟩ := he.out
        have hb := hof.below
        have HX0 := Lib.hid hof.at_
        have VA := Lib.hid (VA.out.on hb)
        have B := Lib.hid (B.out.trans (hb.mono B.out.size))
        clear hb he hof HF
        go_wp2_with fail
        refine (HF1.out _ _ HX0.out).mono ?_
        rintro e u2 ⟨rfl, hb⟩
        have VA := Lib.hid (VA.out.on hb)
        have B := Lib.hid (B.out.trans (hb.mono B.out.size))
        clear hb  HF1 HX0
        obtain ⟨p0, p1, p2, p3, p4⟩ := VA.out.box
        go_wp2_with fail
        refine (HC.out _ _ VA.out.at_).mono ?_
        rintro e u3 ⟨rfl, hb⟩
        have VA := Lib.hid (VA.out.on hb)
        have B := Lib.hid (B.out.trans (hb.mono B.out.size))
        clear hb p0 p1 p2 p3 p4 HC
        obtain ⟨p0, p1, p2, p3, p4⟩ := VA.out.box
        go_wp2_with fail
        refine (HAl.out _ _ VA.out.at_).mono ?_
        rintro e u4 ⟨L14, s14, A14, n14, c14, F14, m14, k14, rfl, hd, hb⟩
        have VA := Lib.hid (VA.out.on hb)
        have B := Lib.hid (B.out.trans (hb.mono B.out.size))
        clear hb p0 p1 p2 p3 p4 HAl
        obtain ⟨x4, hx4, hbn, Vn⟩ := var_new u4 hd.out
        have VL := Lib.hid Vn
        have VA := Lib.hid (VA.out.on hbn)
        have B := Lib.hid (B.out.trans (hbn.mono B.out.size))
        clear hbn Vn hd
        obtain ⟨p0, p1, p2, p3, p4⟩ := VA.out.box
        rw [hx4] at p1 p2 p3 p4
        have HX := Lib.hid hx4
        clear hx4
        go_wp2_with fail
        rw [← HX.out]
        clear HX
        refine (HEv.out _ _ VA.out.at_).mono ?_
        rintro e u5 ⟨L15, s15, A15, n15, c15, F15, m15, k15, rfl, hd, hb⟩
        have VA := Lib.hid (VA.out.on hb)
        have VL := Lib.hid (VL.out.on hb)
        have B := Lib.hid (B.out.trans (hb.mono B.out.size))
        clear hb p0 p1 p2 p3 p4 HEv
        obtain ⟨x5, hx5, hbn, Vn⟩ := var_new u5 hd.out
        have VE := Lib.hid Vn
        have VA := Lib.hid (VA.out.on hbn)
        have VL := Lib.hid (VL.out.on hbn)
        have B := Lib.hid (B.out.trans (hbn.mono B.out.size))
        clear hbn Vn hd
        obtain ⟨p0, p1, p2, p3, p4⟩ := VA.out.box
        rw [hx5] at p1 p2 p3 p4
        have HX := Lib.hid hx5
        clear hx5
        go_wp2_with fail
        rw [← HX.out]
        clear HX
        refine (HNt.out _ _ VA.out.at_).mono ?_
        rintro e u6 ⟨L16, s16, A16, n16, c16, F16, m16, k16, rfl, hd, hb⟩
        have VA := Lib.hid (VA.out.on hb)
        have VL := Lib.hid (VL.out.on hb)
        have VE := Lib.hid (VE.out.on hb)
        have B := Lib.hid (B.out.trans (hb.mono B.out.size))
        clear hb p0 p1 p2 p3 p4 HNt
        obtain ⟨x6, hx6, hbn, Vn⟩ := var_new u6 hd.out
        have VN := Lib.hid Vn
        have VA := Lib.hid (VA.out.on hbn)
        have VL := Lib.hid (VL.out.on hbn)
        have VE := Lib.hid (VE.out.on hbn)
        have B := Lib.hid (B.out.trans (hbn.mono B.out.size))
        clear hbn Vn hd
        obtain ⟨p0, p1, p2, p3, p4⟩ := VA.out.box
        rw [hx6] at p1 p2 p3 p4
        obtain ⟨q0, q1, q2, q3, q4⟩ := VL.out.box
        rw [hx6] at q1 q2 q3 q4
        have HX := Lib.hid hx6
        clear hx6
        go_wp2_with fail
        rw [← HX.out]
        clear HX
        refine (HSa.out _ _ _ VA.out.at_ VL.out.at_).mono ?_
        rintro e u7 ⟨Au, cu, rfl, _, hb⟩
        have VA := Lib.hid (VA.out.on hb)
        have VL := Lib.hid (VL.out.on hb)
        have VE := Lib.hid (VE.out.on hb)
        have VN := Lib.hid (VN.out.on hb)
        have B := Lib.hid (B.out.trans (hb.mono B.out.size))
        clear hb p0 p1 p2 p3 p4 q0 q1 q2 q3 q4 HSa
        obtain ⟨p0, p1, p2, p3, p4⟩ := VA.out.box
        obtain ⟨q0, q1, q2, q3, q4⟩ := VE.out.box
        go_wp2_with fail
        refine (HSb.out _ _ _ VA.out.at_ VE.out.at_).mono ?_
        rintro e u8 ⟨Au, cu, rfl, _, hb⟩
        have VA := Lib.hid (VA.out.on hb)
        have VL := Lib.hid (VL.out.on hb)
        have VE := Lib.hid (VE.out.on hb)
        have VN := Lib.hid (VN.out.on hb)
        have B := Lib.hid (B.out.trans (hb.mono B.out.size))
        clear hb p0 p1 p2 p3 p4 q0 q1 q2 q3 q4 HSb
        obtain ⟨p0, p1, p2, p3, p4⟩ := VN.out.box
        go_wp2_with fail
        refine (HT.out _ _ VN.out.at_).mono ?_
        rintro e u9 ⟨rfl, hb⟩
        have VA := Lib.hid (VA.out.on hb)
        have VL := Lib.hid (VL.out.on hb)
        have VE := Lib.hid (VE.out.on hb)
        have VN := Lib.hid (VN.out.on hb)
        have B := Lib.hid (B.out.trans (hb.mono B.out.size))
        clear hb p0 p1 p2 p3 p4 HT
        go_wp2
        go_ret
        exact ⟨rfl, B.out⟩
    · change Hid (∀ W v (h : DfaAt W W.heap.size v d0), Calls _ _ _ W fun e w' => e = .returned (.tuple #[.int .i64 3, .nilIface]) ∧ _) at HC
      change Hid (∀ W v (h : DfaAt W W.heap.size v N), Calls _ _ _ W fun e w' => e = .returned (.tuple #[.int .i64 3, .nilIface]) ∧ _) at HT
      as_aux_lemma =>
        go_enter Try.func3, Try.ntmps3
        go_wp2_with fail
        rw [← W0.out]
        clear W0
        refine (HF.out _).mono ?_
        rintro e u1 he
        obtain ⟨xf, rfl, hof⟩ := he.out
        have hb := hof.below
        have HX0 := Lib.hid hof.at_
        have VA := Lib.hid (VA.out.on hb)
        have B := Lib.hid (B.out.trans (hb.mono B.out.size))
        clear hb he hof HF
        go_wp2_with fail
        refine (HF1.out _ _ HX0.out).mono ?_
        rintro e u2 ⟨rfl, hb⟩
        have VA := Lib.hid (VA.out.on hb)
        have B := Lib.hid (B.out.trans (hb.mono B.out.size))
        clear hb  HF1 HX0
        obtain ⟨p0, p1, p2, p3, p4⟩ := VA.out.box
        go_wp2_with fail
        refine (HC.out _ _ VA.out.at_).mono ?_
        rintro e u3 ⟨rfl, hb⟩
        have VA := Lib.hid (VA.out.on hb)
        have B := Lib.hid (B.out.trans (hb.mono B.out.size))
        clear hb p0 p1 p2 p3 p4 HC
        obtain ⟨p0, p1, p2, p3, p4⟩ := VA.out.box
        go_wp2_with fail
        refine (HAl.out _ _ VA.out.at_).mono ?_
        rintro e u4 ⟨L14, s14, A14, n14, c14, F14, m14, k14, rfl, hd, hb⟩
        have VA := Lib.hid (VA.out.on hb)
        have B := Lib.hid (B.out.trans (hb.mono B.out.size))
        clear hb p0 p1 p2 p3 p4 HAl
        obtain ⟨x4, hx4, hbn, Vn⟩ := var_new u4 hd.out
        have VL := Lib.hid Vn
        have VA := Lib.hid (VA.out.on hbn)
        have B := Lib.hid (B.out.trans (hbn.mono B.out.size))
        clear hbn Vn hd
        obtain ⟨p0, p1, p2, p3, p4⟩ := VA.out.box
        rw [hx4] at p1 p2 p3 p4
        have HX := Lib.hid hx4
        clear hx4
        go_wp2_with fail
        rw [← HX.out]
        clear HX
        refine (HEv.out _ _ VA.out.at_).mono ?_
        rintro e u5 ⟨L15, s15, A15, n15, c15, F15, m15, k15, rfl, hd, hb⟩
        have VA := Lib.hid (VA.out.on hb)
        have VL := Lib.hid (VL.out.on hb)
        have B := Lib.hid (B.out.trans (hb.mono B.out.size))
        clear hb p0 p1 p2 p3 p4 HEv
        obtain ⟨x5, hx5, hbn, Vn⟩ := var_new u5 hd.out
        have VE := Lib.hid Vn
        have VA := Lib.hid (VA.out.on hbn)
        have VL := Lib.hid (VL.out.on hbn)
        have B := Lib.hid (B.out.trans (hbn.mono B.out.size))
        clear hbn Vn hd
        obtain ⟨p0, p1, p2, p3, p4⟩ := VA.out.box
        rw [hx5] at p1 p2 p3 p4
        have HX := Lib.hid hx5
        clear hx5
        go_wp2_with fail
        rw [← HX.out]
        clear HX
        refine (HNt.out _ _ VA.out.at_).mono ?_
        rintro e u6 ⟨L16, s16, A16, n16, c16, F16, m16, k16, rfl, hd, hb⟩
        have VA := Lib.hid (VA.out.on hb)
        have VL := Lib.hid (VL.out.on hb)
        have VE := Lib.hid (VE.out.on hb)
        have B := Lib.hid (B.out.trans (hb.mono B.out.size))
        clear hb p0 p1 p2 p3 p4 HNt
        obtain ⟨x6, hx6, hbn, Vn⟩ := var_new u6 hd.out
        have VN := Lib.hid Vn
        have VA := Lib.hid (VA.out.on hbn)
        have VL := Lib.hid (VL.out.on hbn)
        have VE := Lib.hid (VE.out.on hbn)
        have B := Lib.hid (B.out.trans (hbn.mono B.out.size))
        clear hbn Vn hd
        obtain ⟨p0, p1, p2, p3, p4⟩ := VA.out.box
        rw [hx6] at p1 p2 p3 p4
        obtain ⟨q0, q1, q2, q3, q4⟩ := VL.out.box
        rw [hx6] at q1 q2 q3 q4
        have HX := Lib.hid hx6
        clear hx6
        go_wp2_with fail
        rw [← HX.out]
        clear HX
        refine (HSa.out _ _ _ VA.out.at_ VL.out.at_).mono ?_
        rintro e u7 ⟨Au, cu, rfl, _, hb⟩
        have VA := Lib.hid (VA.out.on hb)
        have VL := Lib.hid (VL.out.on hb)
        have VE := Lib.hid (VE.out.on hb)
        have VN := Lib.hid (VN.out.on hb)
        have B := Lib.hid (B.out.trans (hb.mono B.out.size))
        clear hb p0 p1 p2 p3 p4 q0 q1 q2 q3 q4 HSa
        obtain ⟨p0, p1, p2, p3, p4⟩ := VA.out.box
        obtain ⟨q0, q1, q2, q3, q4⟩ := VE.out.box
        go_wp2_with fail
        refine (HSb.out _ _ _ VA.out.at_ VE.out.at_).mono ?_
        rintro e u8 ⟨Au, cu, rfl, _, hb⟩
        have VA := Lib.hid (VA.out.on hb)
        have VL := Lib.hid (VL.out.on hb)
        have VE := Lib.hid (VE.out.on hb)
        have VN := Lib.hid (VN.out.on hb)
        have B := Lib.hid (B.out.trans (hb.mono B.out.size))
        clear hb p0 p1 p2 p3 p4 q0 q1 q2 q3 q4 HSb
        obtain ⟨p0, p1, p2, p3, p4⟩ := VN.out.box
        go_wp2_with fail
        refine (HT.out _ _ VN.out.at_).mono ?_
        rintro e u9 ⟨rfl, hb⟩
        have VA := Lib.hid (VA.out.on hb)
        have VL := Lib.hid (VL.out.on hb)
        have VE := Lib.hid (VE.out.on hb)
        have VN := Lib.hid (VN.out.on hb)
        have B := Lib.hid (B.out.trans (hb.mono B.out.size))
        clear hb p0 p1 p2 p3 p4 HT
        go_wp2
        go_ret
        exact ⟨rfl, B.out⟩
  · obtain ⟨E, hE⟩ := errV_bad g1
    have HC := Lib.hid (fun W v (h : DfaAt W W.heap.size v d0) => cls_gives h (clsOut_bad g1) hE)
    have HAl := Lib.hid (fun W v (h : DfaAt W W.heap.size v d0) => always_gives h (mkO_bad (K := stopA false) g1) hE)
    have HEv := Lib.hid (fun W v (h : DfaAt W W.heap.size v d0) => ever_gives h (mkO_bad (K := stopA true) g1) hE)
    have HNt := Lib.hid (fun W v (h : DfaAt W W.heap.size v d0) => not_gives h (notOut_bad g1) hE)
    clear g1 hE HN0
    go_enter Try.func3, Try.ntmps3
    go_wp2_with fail
    rw [← W0.out]
    clear W0
    refine (HF.out _).mono ?_
    rintro e u1 he
    obtain ⟨xf, rfl, hof⟩ := he.out
    have hb := hof.below
    have HX0 := Lib.hid hof.at_
    have VA := Lib.hid (VA.out.on hb)
    have B := Lib.hid (B.out.trans (hb.mono B.out.size))
    clear hb he hof HF
    go_wp2_with fail
    refine (HF1.out _ _ HX0.out).mono ?_
    rintro e u2 ⟨rfl, hb⟩
    have VA := Lib.hid (VA.out.on hb)
    have B := Lib.hid (B.out.trans (hb.mono B.out.size))
    clear hb  HF1 HX0
    obtain ⟨p0, p1, p2, p3, p4⟩ := VA.out.box
    go_wp2_with fail
    refine (HC.out _ _ VA.out.at_).mono ?_
    rintro e u3 ⟨rfl, hb⟩
    have VA := Lib.hid (VA.out.on hb)
    have B := Lib.hid (B.out.trans (hb.mono B.out.size))
    clear hb p0 p1 p2 p3 p4 HC
    obtain ⟨p0, p1, p2, p3, p4⟩ := VA.out.box
    go_wp2_with fail
    refine (HAl.out _ _ VA.out.at_).mono ?_
    rintro e u4 ⟨L14, s14, A14, n14, c14, F14, m14, k14, rfl, hd, hb⟩
    have VA := Lib.hid (VA.out.on hb)
    have B := Lib.hid (B.out.trans (hb.mono B.out.size))
    clear hb p0 p1 p2 p3 p4 HAl
    obtain ⟨x4, hx4, hbn, Vn⟩ := var_new u4 hd.out
    have VL := Lib.hid Vn
    have VA := Lib.hid (VA.out.on hbn)
    have B := Lib.hid (B.out.trans (hbn.mono B.out.size))
    clear hbn Vn hd
    obtain ⟨p0, p1, p2, p3, p4⟩ := VA.out.box
    rw [hx4] at p1 p2 p3 p4
    have HX := Lib.hid hx4
    clear hx4
    go_wp2_with fail
    rw [← HX.out]
    clear HX
    refine (HEv.out _ _ VA.out.at_).mono ?_
    rintro e u5 ⟨L15, s15, A15, n15, c15, F15, m15, k15, rfl, hd, hb⟩
    have VA := Lib.hid (VA.out.on hb)
    have VL := Lib.hid (VL.out.on hb)
    have B := Lib.hid (B.out.trans (hb.mono B.out.size))
    clear hb p0 p1 p2 p3 p4 HEv
    obtain ⟨x5, hx5, hbn, Vn⟩ := var_new u5 hd.out
    have VE := Lib.hid Vn
    have VA := Lib.hid (VA.out.on hbn)
    have VL := Lib.hid (VL.out.on hbn)
    have B := Lib.hid (B.out.trans (hbn.mono B.out.size))
    clear hbn Vn hd
    obtain ⟨p0, p1, p2, p3, p4⟩ := VA.out.box
    rw [hx5] at p1 p2 p3 p4
    have HX := Lib.hid hx5
    clear hx5
    go_wp2_with fail
    rw [← HX.out]
    clear HX
    refine (HNt.out _ _ VA.out.at_).mono ?_
    rintro e u6 ⟨L16, s16, A16, n16, c16, F16, m16, k16, rfl, hd, hb⟩
    have VA := Lib.hid (VA.out.on hb)
    have VL := Lib.hid (VL.out.on hb)
    have VE := Lib.hid (VE.out.on hb)
    have B := Lib.hid (B.out.trans (hb.mono B.out.size))
    clear hb p0 p1 p2 p3 p4 HNt
    obtain ⟨x6, hx6, hbn, Vn⟩ := var_new u6 hd.out
    have VN := Lib.hid Vn
    have VA := Lib.hid (VA.out.on hbn)
    have VL := Lib.hid (VL.out.on hbn)
    have VE := Lib.hid (VE.out.on hbn)
    have B := Lib.hid (B.out.trans (hbn.mono B.out.size))
    clear hbn Vn hd
    rw [hx6] at B
    clear hx6
    go_wp2
    go_ret
    exact ⟨rfl, B.out⟩


set_option maxRecDepth 100000 in
theorem lifted (os : Os) (started : os.Started) (H : Type) (enc : TypeId × Value → H) :
    ReturnsInHanded {} Try.checked os 3 .any (Rows.safeClassSpec.pre6 enc Try.prog Try.f3 Rows.safeClassRow.domain false) (Rows.safeClassSpec.post enc Try.prog Try.f3 false true false false) := by
  refine returnsInHanded_of_change_sized (C := Try.checked) own started (by kernel_rfl) Try.func3
    (ChangeSpec.witness6 (enc := enc) (C := Try.checked) false ⟨#[], #[.agg #[.int .i64 0, .int .i64 0, .slice none 0 0, .slice none 0 0]], []⟩ 8 (by kernel_rfl) (by kernel_rfl) (by kernel_rfl) (by kernel_rfl)) ?_
  intro W base args ds gs before hval0 hW hcnd hsz0 _
  have hval : ∀ (j : Nat) t v, Try.f3.params[j]? = some t → args[j]? = some v → Value.okWide Try.prog W .any base t v := hval0
  have hsz : (DataW.weightsEach Try.prog (Try.f3.params.toList ++ Rows.safeClassSpec.plain.varTypes Try.prog) (ds ++ gs)).all (· ≤ reachBytes) = true := hsz0
  have hW' := hW
  obtain ⟨p, q, hA0, hV0, rfl, hfz, hnd⟩ := hW
  have hV : DataW.TrodVars enc Try.prog W (fun _ => true) [] gs q := hV0
  have hA : DataW.TrodAll enc Try.prog W 0 (fun _ => true) true Try.f3.params.toList args.toList ds p := hA0
  rw [Try.params3] at hA hval hsz
  obtain ⟨v0, vs0, d0, ds0, p0, q0, hargs, rfl, rfl, h0, rr0⟩ := trodAll_cons hA
  obtain ⟨rfl, rfl, rfl⟩ := trodAll_nil rr0
  obtain rfl : args = #[v0] := by cases args; simp_all
  obtain ⟨rfl, rfl⟩ := trodVars_none hV
  have k0 := h0
  have lt0 : ∀ x ∈ p0, x.block < W.heap.size := by obtain ⟨m, hm⟩ := k0; exact DataW.trod_lt m _ _ _ hm
  obtain ⟨D0, x0⟩ : ∃ d : Df.Aut, Df.DfaAt W W.heap.size v0 d := Df.dfa_open (hval 0 25 v0 rfl rfl) h0
  clear hA0 hval0
  refine (walk v0 D0 W x0).mono fun e W' ⟨he, bel⟩ => ?_
  subst he
  exact ⟨_, rfl, _, _, _, [], _, [], hW', trodAll_mk1 (shut_bool Try.underlying4 _), (trodAll_cons_mk (Below.trod laidOut (by kernel_rfl) (of_decide_eq_true (by kernel_rfl)) k0 bel lt0) trodAll_mk0), rfl, bel.frame _, fun h => by cases h⟩

theorem over : Rows.safeClassRow.holds Try.pinned (OpenSpec.ofChange Rows.safeClassSpec) :=
  OpenClaim.holds_of_wide 3 Try.f3 rfl rfl rfl rfl rfl rfl rfl ⟨rfl, rfl, rfl, rfl, rfl⟩ rfl rfl rfl rfl rfl (by kernel_rfl) Try.func3 (by kernel_rfl)
    (of_decide_eq_true (by kernel_rfl)) (by unfold Func.isWrapper; rw [if_neg (of_decide_eq_false (by kernel_rfl))]; exact ⟨rfl, rfl⟩)
    (fun os started H enc _ => lifted os started H enc)
theorem proved : Rows.SafeClassSaid := over
#print axioms proved
end Go.Proofs.Ytciopfiddfmckaa.safeClass
