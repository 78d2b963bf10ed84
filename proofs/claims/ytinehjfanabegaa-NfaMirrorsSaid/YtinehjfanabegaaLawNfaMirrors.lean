/-
  The statement NfaMirrorsSaid of this seat, proved: for every input the law returns true and its arguments read behind the call as before. Conditions: none but the row's own (each argument within the reach).
-/
import Derived.Test.YtinehjfanabegaaRows
import Derived.Test.YtinehjfanabegaaWords
import Derived.WalkKit
import Derived.ProofKit
import Derived.OpenShut
import Derived.ShutString
import Derived.ChangeOld
import Derived.Below
import Derived.SizedLaws
import Derived.Lib.Hide
import Derived.Test.YtinehjfanabegaaNfaV
import Derived.Test.YtinehjfanabegaaTrim
import Derived.Test.YtinehjfanabegaaWordL
import Derived.Test.YtinehjfanabegaaDfaK
namespace Go.Proofs.Ytinehjfanabegaa.nfaMirrors
open Go.ChangeShapes Go.WideShapes Go.ChangeAt Go.RowKit Go.IntWalk Go.Proofs.Ytinehjfanabegaa.Wd
open Go.ChangeMaps (open_string shut_string)
set_option linter.unusedVariables false

theorem own : ownKnob Try.prog.godebug = none := by kernel_rfl
theorem laidOut : laidOutB Try.prog = true := by kernel_rfl
open Go.Proofs.Ytinehjfanabegaa.Wo Go.Proofs.Ytinehjfanabegaa.Df Go.Proofs.Ytinehjfanabegaa.Rc
theorem trim_gives {W : World} {v : Value} {d : Aut} (h : DfaAt W W.heap.size v d) {E : Value} {r : Aut} {k : Nat} (hr : trimOut d = (r, k)) (hE : errV k = E) : Gives 25 #[v] W E r :=
  gives_of (trim_any v d W h) (by rw [hr]; exact hE) (by rw [hr])

set_option maxRecDepth 100000 in
set_option maxHeartbeats 4000000 in
theorem walk (v0 : Value) (n0 : Nf.Nfa) (v1 : Value) (d1 : Df.Aut) (A2 : Option Addr) (c2 : Nat) (z2 : List Int) (w : World) (h0 : Nf.NfaAt w w.heap.size v0 n0) (h1 : Df.DfaAt w w.heap.size v1 d1) (v2 : IntsAt w w.heap.size A2 z2) (r2 : z2.length ≤ 17592186043904) (m2 : z2.length ≤ c2) :
    Calls Try.prog 13 #[v0, v1, .slice A2 z2.length c2] w fun e w' => e = .returned (.bool true) ∧ Below w.heap.size w w' := by
  have hr : z2.length ≤ 17592186044416 := by omega
  obtain ⟨L0, s0, A0, a0, c0, M0, b0, e0, F0, m0, k0, rfl⟩ := h0.form
  obtain ⟨L1, s1, A1, a1, c1, F1, m1, k1, rfl⟩ := h1.form
  have hL0 := h0.eqs.1
  have hSm := h0.eqs.2.2
  obtain ⟨ux, hux, hbx, VX0⟩ := Nf.varN_new w h0
  obtain ⟨uc, huc, hbc, VD0⟩ := var_new ux (h1.on hbx)
  rw [show ux.heap.size = w.heap.size + 1 from by rw [hux]; simp] at VD0
  have VX := Lib.hid (VX0.on hbc)
  have VD := Lib.hid VD0
  have B := Lib.hid (hbx.trans (hbc.mono hbx.size))
  have Z := Lib.hid ((v2.on hbx).on hbc)
  have W0 : Hid (uc = (w.alloc (.cells #[.int .i64 L0, .int .i64 s0, .slice A0 a0 c0, .slice M0 b0 e0, .slice F0 m0 k0] 55)).alloc (.cells #[.int .i64 L1, .int .i64 s1, .slice A1 a1 c1, .slice F1 m1 k1] 25)) := by rw [Hid, ← hux]; exact huc
  have HKn := Lib.hid (fun W => known_any W)
  clear hux hbx VX0 huc hbc VD0 h0 h1 v2 r2 m2
  by_cases ga : Nf.naErr n0 z2 = 0
  · obtain ⟨Ga, fa⟩ := Nf.naErr_zero.1 ga
    have gn := Nf.nchk_iff.2 Ga
    have gm := Nf.mir_good Ga
    have fr : Fine (Nf.mir n0).L z2.reverse := reverse_fine fa
    have hrr : z2.reverse.length ≤ 17592186044416 := by rw [List.length_reverse]; exact hr
    have HA := Lib.hid (fun W v (h : Nf.NfaAt W W.heap.size v n0) (hZ : IntsAt W W.heap.size A2 z2) => Nf.nacc_gives (cz := c2) (E := .nilIface) h hZ hr (Nf.naOut_ok Ga fa) (congrArg errV ga))
    have HMir := Lib.hid (fun W v (h : Nf.NfaAt W W.heap.size v n0) => Nf.nmir_gives (E := .nilIface) h (Nf.mirOut_ok gn) rfl)
    have HWm := Lib.hid (fun W (hZ : IntsAt W W.heap.size A2 z2) => mirror_ok (L := L0) (c := c2) hSm hZ (hL0 ▸ fa))
    have HAm := Lib.hid (fun W v X c (h : Nf.NfaAt W W.heap.size v (Nf.mir n0)) (hZ : IntsAt W W.heap.size X z2.reverse) => Nf.nacc_gives (cz := c) (E := .nilIface) h hZ hrr ((Nf.naOut_ok gm fr).trans (Nf.mir_acc Ga (Nf.nn (fine_word fa)))) (congrArg errV (Nf.naErr_zero.2 ⟨gm, fr⟩)))
    have HMm := Lib.hid (fun W v (h : Nf.NfaAt W W.heap.size v (Nf.mir n0)) => Nf.nmir_gives (E := .nilIface) h ((Nf.mirOut_ok (Nf.nchk_iff.2 gm)).trans (by rw [Nf.mir_mir])) rfl)
    have HSm := Lib.hid (fun W v z (h : Nf.NfaAt W W.heap.size v n0) (h2 : Nf.NfaAt W W.heap.size z n0) => Nf.sameN_any v z n0 W h h2 (Nf.liteN_good Ga))
    clear ga Ga fa gn gm fr hrr
    generalize z2.reverse = R at *
    generalize Nf.mir n0 = M at *
    generalize Nf.accN n0 z2 = bb at *
    have hbb : (bb == bb) = true := beq_self_eq_true _
    by_cases gb : accErr d1 z2 = 0
    · obtain ⟨Gd, fd⟩ := accErr_good gb
      have go := Nf.of_good Gd
      have gt := trim_good Gd
      have fo : Fine (Nf.ofA d1).L z2 := fd
      obtain ⟨l, hl, hm⟩ := Nf.make_of Gd
      have HD := Lib.hid (fun W v (h : DfaAt W W.heap.size v d1) (hZ : IntsAt W W.heap.size A2 z2) => acc_gives (cz := c2) (E := .nilIface) h hZ hr (accOut_ok Gd fd) (congrArg errV gb))
      have HOf := Lib.hid (fun W v (h : DfaAt W W.heap.size v d1) => Nf.nof_gives (E := .nilIface) h (Nf.ofOut_ok (dchk_iff.2 Gd)) rfl)
      have HAo := Lib.hid (fun W v (h : Nf.NfaAt W W.heap.size v (Nf.ofA d1)) (hZ : IntsAt W W.heap.size A2 z2) => Nf.nacc_gives (cz := c2) (E := .nilIface) h hZ hr ((Nf.naOut_ok go fo).trans (Nf.of_acc Gd (fine_word fd))) (congrArg errV (Nf.naErr_zero.2 ⟨go, fo⟩)))
      have HMk := Lib.hid (fun W v (h : Nf.NfaAt W W.heap.size v (Nf.ofA d1)) => Nf.nmake_gives (E := .nilIface) (r := trimA d1) (k := 0) h ((Nf.makeOut_ok (Nf.nchk_iff.2 go)).trans ((explOut_some hl).trans (by rw [← hm]; rfl))) rfl)
      have HTr := Lib.hid (fun W v (h : DfaAt W W.heap.size v d1) => trim_gives (E := .nilIface) h (trimOut_ok (dchk_iff.2 Gd)) rfl)
      have HSd := Lib.hid (fun W v z (h : DfaAt W W.heap.size v (trimA d1)) (h2 : DfaAt W W.heap.size z (trimA d1)) => same_gives h h2 gt.lite rfl)
      clear gb Gd fd go gt fo hm hl
      clear l
      generalize trimA d1 = T at *
      generalize Nf.ofA d1 = O at *
      generalize accA d1 z2 = xx at *
      have hxx : (xx == xx) = true := beq_self_eq_true _
      clear hr hL0 hSm
      go_enter Try.func13, Try.ntmps13
      go_wp2_with fail
      rw [← W0.out]
      clear W0
      refine (HKn.out _).mono ?_
      rintro e u1 ⟨rfl, hb⟩
      have VX := Lib.hid (VX.out.on hb)
      have VD := Lib.hid (VD.out.on hb)
      have Z := Lib.hid (Z.out.on hb)
      have B := Lib.hid (B.out.trans (hb.mono B.out.size))
      clear hb  HKn
      obtain ⟨p0, p1, p2, p3, p4, p5⟩ := VX.out.box
      go_wp2_with fail
      refine (HA.out _ _ VX.out.at_ Z.out).mono ?_
      rintro e u2 ⟨rfl, hb⟩
      have VX := Lib.hid (VX.out.on hb)
      have VD := Lib.hid (VD.out.on hb)
      have Z := Lib.hid (Z.out.on hb)
      have B := Lib.hid (B.out.trans (hb.mono B.out.size))
      clear hb p0 p1 p2 p3 p4 p5 HA
      obtain ⟨p0, p1, p2, p3, p4, p5⟩ := VX.out.box
      go_wp2_with fail
      refine (HMir.out _ _ VX.out.at_).mono ?_
      rintro e u3 ⟨L13, s13, A13, n13, c13, M13, b13, d13, F13, m13, k13, rfl, hd, hb⟩
      have VX := Lib.hid (VX.out.on hb)
      have VD := Lib.hid (VD.out.on hb)
      have Z := Lib.hid (Z.out.on hb)
      have B := Lib.hid (B.out.trans (hb.mono B.out.size))
      clear hb p0 p1 p2 p3 p4 p5 HMir
      obtain ⟨p0, p1, p2, p3, p4, p5⟩ := VX.out.box
      obtain ⟨x3, hx3, hbn, Vn⟩ := Nf.varN_new u3 hd.out
      have HX := Lib.hid hx3
      have Vn := Lib.hid Vn
      have VX := Lib.hid (VX.out.on hbn)
      have VD := Lib.hid (VD.out.on hbn)
      have Z := Lib.hid (Z.out.on hbn)
      have B := Lib.hid (B.out.trans (hbn.mono B.out.size))
      clear hbn hd hx3
      go_wp2_with fail
      rw [← HX.out]
      clear HX
      have VM := Vn
      clear Vn
      refine (HWm.out _ Z.out).mono ?_
      rintro e u4 ⟨X9, k9, rfl, hX9, hb⟩
      have ZR := Lib.hid hX9
      clear hX9
      have VX := Lib.hid (VX.out.on hb)
      have VD := Lib.hid (VD.out.on hb)
      have VM := Lib.hid (VM.out.on hb)
      have Z := Lib.hid (Z.out.on hb)
      have B := Lib.hid (B.out.trans (hb.mono B.out.size))
      clear hb p0 p1 p2 p3 p4 p5 HWm
      obtain ⟨p0, p1, p2, p3, p4, p5⟩ := VM.out.box
      go_wp2_with fail
      refine (HAm.out _ _ _ _ VM.out.at_ ZR.out).mono ?_
      rintro e u5 ⟨rfl, hb⟩
      clear ZR
      have VX := Lib.hid (VX.out.on hb)
      have VD := Lib.hid (VD.out.on hb)
      have VM := Lib.hid (VM.out.on hb)
      have Z := Lib.hid (Z.out.on hb)
      have B := Lib.hid (B.out.trans (hb.mono B.out.size))
      clear hb p0 p1 p2 p3 p4 p5 HAm
      obtain ⟨p0, p1, p2, p3, p4, p5⟩ := VM.out.box
      go_wp2_with fail
      refine (HMm.out _ _ VM.out.at_).mono ?_
      rintro e u6 ⟨L16, s16, A16, n16, c16, M16, b16, d16, F16, m16, k16, rfl, hd, hb⟩
      clear VM
      have VX := Lib.hid (VX.out.on hb)
      have VD := Lib.hid (VD.out.on hb)
      have Z := Lib.hid (Z.out.on hb)
      have B := Lib.hid (B.out.trans (hb.mono B.out.size))
      clear hb p0 p1 p2 p3 p4 p5 HMm
      obtain ⟨p0, p1, p2, p3, p4, p5⟩ := VX.out.box
      obtain ⟨x6, hx6, hbn, Vn⟩ := Nf.varN_new u6 hd.out
      have HX := Lib.hid hx6
      have Vn := Lib.hid Vn
      have VX := Lib.hid (VX.out.on hbn)
      have VD := Lib.hid (VD.out.on hbn)
      have Z := Lib.hid (Z.out.on hbn)
      have B := Lib.hid (B.out.trans (hbn.mono B.out.size))
      clear hbn hd hx6
      go_wp2_with fail
      rw [← HX.out]
      clear HX
      have VB := Vn
      clear Vn
      refine (HSm.out _ _ _ VB.out.at_ VX.out.at_).mono ?_
      rintro e u7 ⟨rfl, hb⟩
      clear VB
      have VX := Lib.hid (VX.out.on hb)
      have VD := Lib.hid (VD.out.on hb)
      have Z := Lib.hid (Z.out.on hb)
      have B := Lib.hid (B.out.trans (hb.mono B.out.size))
      clear hb p0 p1 p2 p3 p4 p5 HSm
      obtain ⟨p0, p1, p2, p3, p4⟩ := VD.out.box
      go_wp2_with fail
      refine (HD.out _ _ VD.out.at_ Z.out).mono ?_
      rintro e u8 ⟨rfl, hb⟩
      have VX := Lib.hid (VX.out.on hb)
      have VD := Lib.hid (VD.out.on hb)
      have Z := Lib.hid (Z.out.on hb)
      have B := Lib.hid (B.out.trans (hb.mono B.out.size))
      clear hb p0 p1 p2 p3 p4 HD
      obtain ⟨p0, p1, p2, p3, p4⟩ := VD.out.box
      go_wp2_with fail
      refine (HOf.out _ _ VD.out.at_).mono ?_
      rintro e u9 ⟨L19, s19, A19, n19, c19, M19, b19, d19, F19, m19, k19, rfl, hd, hb⟩
      have VX := Lib.hid (VX.out.on hb)
      have VD := Lib.hid (VD.out.on hb)
      have Z := Lib.hid (Z.out.on hb)
      have B := Lib.hid (B.out.trans (hb.mono B.out.size))
      clear hb p0 p1 p2 p3 p4 HOf
      obtain ⟨x9, hx9, hbn, Vn⟩ := Nf.varN_new u9 hd.out
      have HX := Lib.hid hx9
      have Vn := Lib.hid Vn
      have VX := Lib.hid (VX.out.on hbn)
      have VD := Lib.hid (VD.out.on hbn)
      have Z := Lib.hid (Z.out.on hbn)
      have B := Lib.hid (B.out.trans (hbn.mono B.out.size))
      clear hbn hd hx9
      go_wp2_with fail
      rw [← HX.out]
      clear HX
      have VO := Vn
      clear Vn
      refine (HAo.out _ _ VO.out.at_ Z.out).mono ?_
      rintro e u10 ⟨rfl, hb⟩
      have VX := Lib.hid (VX.out.on hb)
      have VD := Lib.hid (VD.out.on hb)
      have VO := Lib.hid (VO.out.on hb)
      have Z := Lib.hid (Z.out.on hb)
      have B := Lib.hid (B.out.trans (hb.mono B.out.size))
      clear hb  HAo
      obtain ⟨p0, p1, p2, p3, p4, p5⟩ := VO.out.box
      go_wp2_with fail
      refine (HMk.out _ _ VO.out.at_).mono ?_
      rintro e u11 ⟨L21, s21, A21, n21, c21, F21, m21, k21, rfl, hd, hb⟩
      clear VO
      have VX := Lib.hid (VX.out.on hb)
      have VD := Lib.hid (VD.out.on hb)
      have Z := Lib.hid (Z.out.on hb)
      have B := Lib.hid (B.out.trans (hb.mono B.out.size))
      clear hb p0 p1 p2 p3 p4 p5 HMk
      obtain ⟨p0, p1, p2, p3, p4⟩ := VD.out.box
      obtain ⟨x11, hx11, hbn, Vn⟩ := var_new u11 hd.out
      have HX := Lib.hid hx11
      have Vn := Lib.hid Vn
      have VX := Lib.hid (VX.out.on hbn)
      have VD := Lib.hid (VD.out.on hbn)
      have Z := Lib.hid (Z.out.on hbn)
      have B := Lib.hid (B.out.trans (hbn.mono B.out.size))
      clear hbn hd hx11
      go_wp2_with fail
      rw [← HX.out]
      clear HX
      have VZ := Vn
      clear Vn
      refine (HTr.out _ _ VD.out.at_).mono ?_
      rintro e u12 ⟨L22, s22, A22, n22, c22, F22, m22, k22, rfl, hd, hb⟩
      have VX := Lib.hid (VX.out.on hb)
      have VD := Lib.hid (VD.out.on hb)
      have VZ := Lib.hid (VZ.out.on hb)
      have Z := Lib.hid (Z.out.on hb)
      have B := Lib.hid (B.out.trans (hb.mono B.out.size))
      clear hb p0 p1 p2 p3 p4 HTr
      obtain ⟨p0, p1, p2, p3, p4⟩ := VZ.out.box
      obtain ⟨x12, hx12, hbn, Vn⟩ := var_new u12 hd.out
      have HX := Lib.hid hx12
      have Vn := Lib.hid Vn
      have VX := Lib.hid (VX.out.on hbn)
      have VD := Lib.hid (VD.out.on hbn)
      have VZ := Lib.hid (VZ.out.on hbn)
      have Z := Lib.hid (Z.out.on hbn)
      have B := Lib.hid (B.out.trans (hbn.mono B.out.size))
      clear hbn hd hx12
      go_wp2_with fail
      rw [← HX.out]
      clear HX
      have VT := Vn
      clear Vn
      refine (HSd.out _ _ _ VZ.out.at_ VT.out.at_).mono ?_
      rintro e u13 ⟨rfl, hb⟩
      have VX := Lib.hid (VX.out.on hb)
      have VD := Lib.hid (VD.out.on hb)
      have VZ := Lib.hid (VZ.out.on hb)
      have VT := Lib.hid (VT.out.on hb)
      have Z := Lib.hid (Z.out.on hb)
      have B := Lib.hid (B.out.trans (hb.mono B.out.size))
      clear hb p0 p1 p2 p3 p4 HSd
      go_wp2
      go_ret
      exact ⟨rfl, B.out⟩
    · obtain ⟨E9, hE9⟩ := errV_bad gb
      have HD := Lib.hid (fun W v (h : DfaAt W W.heap.size v d1) (hZ : IntsAt W W.heap.size A2 z2) => acc_gives (cz := c2) h hZ hr (b := accOut d1 z2) rfl hE9)
      clear gb hE9
      generalize accOut d1 z2 = xx at *
      clear hr hL0 hSm
      go_enter Try.func13, Try.ntmps13
      go_wp2_with fail
      rw [← W0.out]
      clear W0
      refine (HKn.out _).mono ?_
      rintro e u1 ⟨rfl, hb⟩
      have VX := Lib.hid (VX.out.on hb)
      have VD := Lib.hid (VD.out.on hb)
      have Z := Lib.hid (Z.out.on hb)
      have B := Lib.hid (B.out.trans (hb.mono B.out.size))
      clear hb  HKn
      obtain ⟨p0, p1, p2, p3, p4, p5⟩ := VX.out.box
      go_wp2_with fail
      refine (HA.out _ _ VX.out.at_ Z.out).mono ?_
      rintro e u2 ⟨rfl, hb⟩
      have VX := Lib.hid (VX.out.on hb)
      have VD := Lib.hid (VD.out.on hb)
      have Z := Lib.hid (Z.out.on hb)
      have B := Lib.hid (B.out.trans (hb.mono B.out.size))
      clear hb p0 p1 p2 p3 p4 p5 HA
      obtain ⟨p0, p1, p2, p3, p4, p5⟩ := VX.out.box
      go_wp2_with fail
      refine (HMir.out _ _ VX.out.at_).mono ?_
      rintro e u3 ⟨L13, s13, A13, n13, c13, M13, b13, d13, F13, m13, k13, rfl, hd, hb⟩
      have VX := Lib.hid (VX.out.on hb)
      have VD := Lib.hid (VD.out.on hb)
      have Z := Lib.hid (Z.out.on hb)
      have B := Lib.hid (B.out.trans (hb.mono B.out.size))
      clear hb p0 p1 p2 p3 p4 p5 HMir
      obtain ⟨p0, p1, p2, p3, p4, p5⟩ := VX.out.box
      obtain ⟨x3, hx3, hbn, Vn⟩ := Nf.varN_new u3 hd.out
      have HX := Lib.hid hx3
      have Vn := Lib.hid Vn
      have VX := Lib.hid (VX.out.on hbn)
      have VD := Lib.hid (VD.out.on hbn)
      have Z := Lib.hid (Z.out.on hbn)
      have B := Lib.hid (B.out.trans (hbn.mono B.out.size))
      clear hbn hd hx3
      go_wp2_with fail
      rw [← HX.out]
      clear HX
      have VM := Vn
      clear Vn
      refine (HWm.out _ Z.out).mono ?_
      rintro e u4 ⟨X9, k9, rfl, hX9, hb⟩
      have ZR := Lib.hid hX9
      clear hX9
      have VX := Lib.hid (VX.out.on hb)
      have VD := Lib.hid (VD.out.on hb)
      have VM := Lib.hid (VM.out.on hb)
      have Z := Lib.hid (Z.out.on hb)
      have B := Lib.hid (B.out.trans (hb.mono B.out.size))
      clear hb p0 p1 p2 p3 p4 p5 HWm
      obtain ⟨p0, p1, p2, p3, p4, p5⟩ := VM.out.box
      go_wp2_with fail
      refine (HAm.out _ _ _ _ VM.out.at_ ZR.out).mono ?_
      rintro e u5 ⟨rfl, hb⟩
      clear ZR
      have VX := Lib.hid (VX.out.on hb)
      have VD := Lib.hid (VD.out.on hb)
      have VM := Lib.hid (VM.out.on hb)
      have Z := Lib.hid (Z.out.on hb)
      have B := Lib.hid (B.out.trans (hb.mono B.out.size))
      clear hb p0 p1 p2 p3 p4 p5 HAm
      obtain ⟨p0, p1, p2, p3, p4, p5⟩ := VM.out.box
      go_wp2_with fail
      refine (HMm.out _ _ VM.out.at_).mono ?_
      rintro e u6 ⟨L16, s16, A16, n16, c16, M16, b16, d16, F16, m16, k16, rfl, hd, hb⟩
      clear VM
      have VX := Lib.hid (VX.out.on hb)
      have VD := Lib.hid (VD.out.on hb)
      have Z := Lib.hid (Z.out.on hb)
      have B := Lib.hid (B.out.trans (hb.mono B.out.size))
      clear hb p0 p1 p2 p3 p4 p5 HMm
      obtain ⟨p0, p1, p2, p3, p4, p5⟩ := VX.out.box
      obtain ⟨x6, hx6, hbn, Vn⟩ := Nf.varN_new u6 hd.out
      have HX := Lib.hid hx6
      have Vn := Lib.hid Vn
      have VX := Lib.hid (VX.out.on hbn)
      have VD := Lib.hid (VD.out.on hbn)
      have Z := Lib.hid (Z.out.on hbn)
      have B := Lib.hid (B.out.trans (hbn.mono B.out.size))
      clear hbn hd hx6
      go_wp2_with fail
      rw [← HX.out]
      clear HX
      have VB := Vn
      clear Vn
      refine (HSm.out _ _ _ VB.out.at_ VX.out.at_).mono ?_
      rintro e u7 ⟨rfl, hb⟩
      clear VB
      have VX := Lib.hid (VX.out.on hb)
      have VD := Lib.hid (VD.out.on hb)
      have Z := Lib.hid (Z.out.on hb)
      have B := Lib.hid (B.out.trans (hb.mono B.out.size))
      clear hb p0 p1 p2 p3 p4 p5 HSm
      obtain ⟨p0, p1, p2, p3, p4⟩ := VD.out.box
      go_wp2_with fail
      refine (HD.out _ _ VD.out.at_ Z.out).mono ?_
      rintro e u8 ⟨rfl, hb⟩
      have VX := Lib.hid (VX.out.on hb)
      have VD := Lib.hid (VD.out.on hb)
      have Z := Lib.hid (Z.out.on hb)
      have B := Lib.hid (B.out.trans (hb.mono B.out.size))
      clear hb p0 p1 p2 p3 p4 HD
      go_wp2
      go_ret
      exact ⟨rfl, B.out⟩
  · obtain ⟨E, hE⟩ := errV_bad ga
    have HA := Lib.hid (fun W v (h : Nf.NfaAt W W.heap.size v n0) (hZ : IntsAt W W.heap.size A2 z2) => Nf.nacc_gives (cz := c2) h hZ hr (Nf.naOut_bad ga) hE)
    clear ga hE
    by_cases gb : accErr d1 z2 = 0
    · obtain ⟨Gd, fd⟩ := accErr_good gb
      have go := Nf.of_good Gd
      have gt := trim_good Gd
      have fo : Fine (Nf.ofA d1).L z2 := fd
      obtain ⟨l, hl, hm⟩ := Nf.make_of Gd
      have HD := Lib.hid (fun W v (h : DfaAt W W.heap.size v d1) (hZ : IntsAt W W.heap.size A2 z2) => acc_gives (cz := c2) (E := .nilIface) h hZ hr (accOut_ok Gd fd) (congrArg errV gb))
      have HOf := Lib.hid (fun W v (h : DfaAt W W.heap.size v d1) => Nf.nof_gives (E := .nilIface) h (Nf.ofOut_ok (dchk_iff.2 Gd)) rfl)
      have HAo := Lib.hid (fun W v (h : Nf.NfaAt W W.heap.size v (Nf.ofA d1)) (hZ : IntsAt W W.heap.size A2 z2) => Nf.nacc_gives (cz := c2) (E := .nilIface) h hZ hr ((Nf.naOut_ok go fo).trans (Nf.of_acc Gd (fine_word fd))) (congrArg errV (Nf.naErr_zero.2 ⟨go, fo⟩)))
      have HMk := Lib.hid (fun W v (h : Nf.NfaAt W W.heap.size v (Nf.ofA d1)) => Nf.nmake_gives (E := .nilIface) (r := trimA d1) (k := 0) h ((Nf.makeOut_ok (Nf.nchk_iff.2 go)).trans ((explOut_some hl).trans (by rw [← hm]; rfl))) rfl)
      have HTr := Lib.hid (fun W v (h : DfaAt W W.heap.size v d1) => trim_gives (E := .nilIface) h (trimOut_ok (dchk_iff.2 Gd)) rfl)
      have HSd := Lib.hid (fun W v z (h : DfaAt W W.heap.size v (trimA d1)) (h2 : DfaAt W W.heap.size z (trimA d1)) => same_gives h h2 gt.lite rfl)
      clear gb Gd fd go gt fo hm hl
      clear l
      generalize trimA d1 = T at *
      generalize Nf.ofA d1 = O at *
      generalize accA d1 z2 = xx at *
      have hxx : (xx == xx) = true := beq_self_eq_true _
      clear hr hL0 hSm
      go_enter Try.func13, Try.ntmps13
      go_wp2_with fail
      rw [← W0.out]
      clear W0
      refine (HKn.out _).mono ?_
      rintro e u1 ⟨rfl, hb⟩
      have VX := Lib.hid (VX.out.on hb)
      have VD := Lib.hid (VD.out.on hb)
      have Z := Lib.hid (Z.out.on hb)
      have B := Lib.hid (B.out.trans (hb.mono B.out.size))
      clear hb  HKn
      obtain ⟨p0, p1, p2, p3, p4, p5⟩ := VX.out.box
      go_wp2_with fail
      refine (HA.out _ _ VX.out.at_ Z.out).mono ?_
      rintro e u2 ⟨rfl, hb⟩
      have VX := Lib.hid (VX.out.on hb)
      have VD := Lib.hid (VD.out.on hb)
      have Z := Lib.hid (Z.out.on hb)
      have B := Lib.hid (B.out.trans (hb.mono B.out.size))
      clear hb p0 p1 p2 p3 p4 p5 HA
      obtain ⟨p0, p1, p2, p3, p4⟩ := VD.out.box
      go_wp2_with fail
      refine (HD.out _ _ VD.out.at_ Z.out).mono ?_
      rintro e u3 ⟨rfl, hb⟩
      have VX := Lib.hid (VX.out.on hb)
      have VD := Lib.hid (VD.out.on hb)
      have Z := Lib.hid (Z.out.on hb)
      have B := Lib.hid (B.out.trans (hb.mono B.out.size))
      clear hb p0 p1 p2 p3 p4 HD
      obtain ⟨p0, p1, p2, p3, p4⟩ := VD.out.box
      go_wp2_with fail
      refine (HOf.out _ _ VD.out.at_).mono ?_
      rintro e u4 ⟨L14, s14, A14, n14, c14, M14, b14, d14, F14, m14, k14, rfl, hd, hb⟩
      have VX := Lib.hid (VX.out.on hb)
      have VD := Lib.hid (VD.out.on hb)
      have Z := Lib.hid (Z.out.on hb)
      have B := Lib.hid (B.out.trans (hb.mono B.out.size))
      clear hb p0 p1 p2 p3 p4 HOf
      obtain ⟨x4, hx4, hbn, Vn⟩ := Nf.varN_new u4 hd.out
      have HX := Lib.hid hx4
      have Vn := Lib.hid Vn
      have VX := Lib.hid (VX.out.on hbn)
      have VD := Lib.hid (VD.out.on hbn)
      have Z := Lib.hid (Z.out.on hbn)
      have B := Lib.hid (B.out.trans (hbn.mono B.out.size))
      clear hbn hd hx4
      go_wp2_with fail
      rw [← HX.out]
      clear HX
      have VO := Vn
      clear Vn
      refine (HAo.out _ _ VO.out.at_ Z.out).mono ?_
      rintro e u5 ⟨rfl, hb⟩
      have VX := Lib.hid (VX.out.on hb)
      have VD := Lib.hid (VD.out.on hb)
      have VO := Lib.hid (VO.out.on hb)
      have Z := Lib.hid (Z.out.on hb)
      have B := Lib.hid (B.out.trans (hb.mono B.out.size))
      clear hb  HAo
      obtain ⟨p0, p1, p2, p3, p4, p5⟩ := VO.out.box
      go_wp2_with fail
      refine (HMk.out _ _ VO.out.at_).mono ?_
      rintro e u6 ⟨L16, s16, A16, n16, c16, F16, m16, k16, rfl, hd, hb⟩
      clear VO
      have VX := Lib.hid (VX.out.on hb)
      have VD := Lib.hid (VD.out.on hb)
      have Z := Lib.hid (Z.out.on hb)
      have B := Lib.hid (B.out.trans (hb.mono B.out.size))
      clear hb p0 p1 p2 p3 p4 p5 HMk
      obtain ⟨p0, p1, p2, p3, p4⟩ := VD.out.box
      obtain ⟨x6, hx6, hbn, Vn⟩ := var_new u6 hd.out
      have HX := Lib.hid hx6
      have Vn := Lib.hid Vn
      have VX := Lib.hid (VX.out.on hbn)
      have VD := Lib.hid (VD.out.on hbn)
      have Z := Lib.hid (Z.out.on hbn)
      have B := Lib.hid (B.out.trans (hbn.mono B.out.size))
      clear hbn hd hx6
      go_wp2_with fail
      rw [← HX.out]
      clear HX
      have VZ := Vn
      clear Vn
      refine (HTr.out _ _ VD.out.at_).mono ?_
      rintro e u7 ⟨L17, s17, A17, n17, c17, F17, m17, k17, rfl, hd, hb⟩
      have VX := Lib.hid (VX.out.on hb)
      have VD := Lib.hid (VD.out.on hb)
      have VZ := Lib.hid (VZ.out.on hb)
      have Z := Lib.hid (Z.out.on hb)
      have B := Lib.hid (B.out.trans (hb.mono B.out.size))
      clear hb p0 p1 p2 p3 p4 HTr
      obtain ⟨p0, p1, p2, p3, p4⟩ := VZ.out.box
      obtain ⟨x7, hx7, hbn, Vn⟩ := var_new u7 hd.out
      have HX := Lib.hid hx7
      have Vn := Lib.hid Vn
      have VX := Lib.hid (VX.out.on hbn)
      have VD := Lib.hid (VD.out.on hbn)
      have VZ := Lib.hid (VZ.out.on hbn)
      have Z := Lib.hid (Z.out.on hbn)
      have B := Lib.hid (B.out.trans (hbn.mono B.out.size))
      clear hbn hd hx7
      go_wp2_with fail
      rw [← HX.out]
      clear HX
      have VT := Vn
      clear Vn
      refine (HSd.out _ _ _ VZ.out.at_ VT.out.at_).mono ?_
      rintro e u8 ⟨rfl, hb⟩
      have VX := Lib.hid (VX.out.on hb)
      have VD := Lib.hid (VD.out.on hb)
      have VZ := Lib.hid (VZ.out.on hb)
      have VT := Lib.hid (VT.out.on hb)
      have Z := Lib.hid (Z.out.on hb)
      have B := Lib.hid (B.out.trans (hb.mono B.out.size))
      clear hb p0 p1 p2 p3 p4 HSd
      go_wp2
      go_ret
      exact ⟨rfl, B.out⟩
    · obtain ⟨E9, hE9⟩ := errV_bad gb
      have HD := Lib.hid (fun W v (h : DfaAt W W.heap.size v d1) (hZ : IntsAt W W.heap.size A2 z2) => acc_gives (cz := c2) h hZ hr (b := accOut d1 z2) rfl hE9)
      clear gb hE9
      generalize accOut d1 z2 = xx at *
      clear hr hL0 hSm
      go_enter Try.func13, Try.ntmps13
      go_wp2_with fail
      rw [← W0.out]
      clear W0
      refine (HKn.out _).mono ?_
      rintro e u1 ⟨rfl, hb⟩
      have VX := Lib.hid (VX.out.on hb)
      have VD := Lib.hid (VD.out.on hb)
      have Z := Lib.hid (Z.out.on hb)
      have B := Lib.hid (B.out.trans (hb.mono B.out.size))
      clear hb  HKn
      obtain ⟨p0, p1, p2, p3, p4, p5⟩ := VX.out.box
      go_wp2_with fail
      refine (HA.out _ _ VX.out.at_ Z.out).mono ?_
      rintro e u2 ⟨rfl, hb⟩
      have VX := Lib.hid (VX.out.on hb)
      have VD := Lib.hid (VD.out.on hb)
      have Z := Lib.hid (Z.out.on hb)
      have B := Lib.hid (B.out.trans (hb.mono B.out.size))
      clear hb p0 p1 p2 p3 p4 p5 HA
      obtain ⟨p0, p1, p2, p3, p4⟩ := VD.out.box
      go_wp2_with fail
      refine (HD.out _ _ VD.out.at_ Z.out).mono ?_
      rintro e u3 ⟨rfl, hb⟩
      have VX := Lib.hid (VX.out.on hb)
      have VD := Lib.hid (VD.out.on hb)
      have Z := Lib.hid (Z.out.on hb)
      have B := Lib.hid (B.out.trans (hb.mono B.out.size))
      clear hb p0 p1 p2 p3 p4 HD
      go_wp2
      go_ret
      exact ⟨rfl, B.out⟩


set_option maxRecDepth 100000 in
theorem lifted (os : Os) (started : os.Started) (H : Type) (enc : TypeId × Value → H) :
    ReturnsInHanded {} Try.checked os 13 .any (Rows.nfaMirrorsSpec.pre6 enc Try.prog Try.f13 Rows.nfaMirrorsRow.domain false) (Rows.nfaMirrorsSpec.post enc Try.prog Try.f13 false true false false) := by
  refine returnsInHanded_of_change_sized (C := Try.checked) own started (by kernel_rfl) Try.func13
    (ChangeSpec.witness6 (enc := enc) (C := Try.checked) false ⟨#[], #[.agg #[.int .i64 0, .int .i64 0, .slice none 0 0, .slice none 0 0, .slice none 0 0], .agg #[.int .i64 0, .int .i64 0, .slice none 0 0, .slice none 0 0], .slice none 0 0], []⟩ 8 (by kernel_rfl) (by kernel_rfl) (by kernel_rfl) (by kernel_rfl)) ?_
  intro W base args ds gs before hval0 hW hcnd hsz0 _
  have hval : ∀ (j : Nat) t v, Try.f13.params[j]? = some t → args[j]? = some v → Value.okWide Try.prog W .any base t v := hval0
  have hsz : (DataW.weightsEach Try.prog (Try.f13.params.toList ++ Rows.nfaMirrorsSpec.plain.varTypes Try.prog) (ds ++ gs)).all (· ≤ reachBytes) = true := hsz0
  have hW' := hW
  obtain ⟨p, q, hA0, hV0, rfl, hfz, hnd⟩ := hW
  have hV : DataW.TrodVars enc Try.prog W (fun _ => true) [] gs q := hV0
  have hA : DataW.TrodAll enc Try.prog W 0 (fun _ => true) true Try.f13.params.toList args.toList ds p := hA0
  rw [Try.params13] at hA hval hsz
  obtain ⟨v0, vs0, d0, ds0, p0, q0, hargs, rfl, rfl, h0, rr0⟩ := trodAll_cons hA
  obtain ⟨v1, vs1, d1, ds1, p1, q1, rfl, rfl, rfl, h1, rr1⟩ := trodAll_cons rr0
  obtain ⟨v2, vs2, d2, ds2, p2, q2, rfl, rfl, rfl, h2, rr2⟩ := trodAll_cons rr1
  obtain ⟨rfl, rfl, rfl⟩ := trodAll_nil rr2
  obtain rfl : args = #[v0, v1, v2] := by cases args; simp_all
  obtain ⟨rfl, rfl⟩ := trodVars_none hV
  have k0 := h0
  have lt0 : ∀ x ∈ p0, x.block < W.heap.size := by obtain ⟨m, hm⟩ := k0; exact DataW.trod_lt m _ _ _ hm
  have k1 := h1
  have lt1 : ∀ x ∈ p1, x.block < W.heap.size := by obtain ⟨m, hm⟩ := k1; exact DataW.trod_lt m _ _ _ hm
  have k2 := h2
  have lt2 : ∀ x ∈ p2, x.block < W.heap.size := by obtain ⟨m, hm⟩ := k2; exact DataW.trod_lt m _ _ _ hm
  obtain ⟨D0, x0⟩ : ∃ a : Nf.Nfa, Nf.NfaAt W W.heap.size v0 a := Nf.nfa_open (hval 0 55 v0 rfl rfl) h0
  obtain ⟨D1, x1⟩ : ∃ d : Df.Aut, Df.DfaAt W W.heap.size v1 d := Df.dfa_open (hval 1 25 v1 rfl rfl) h1
  obtain ⟨A2, len2, c2, rfl⟩ := okWide_slice Try.underlying26 (hval 2 26 v2 rfl rfl)
  obtain ⟨z2, rfl, x2, r2, m2⟩ : ∃ zs : List Int, len2 = zs.length ∧ IntsAt W W.heap.size A2 zs ∧ zs.length ≤ 17592186043904 ∧ zs.length ≤ c2 := by
    obtain ⟨fuel, hf⟩ := h2
    rcases open_ints Try.underlying26 Try.underlying3 (by kernel_rfl) hf with ⟨hcs, _⟩ | ⟨x, l, c, zs, hcs, _, hl, hm, hz, hx, hcell, hwz⟩
    · simp [Value.cells] at hcs
      obtain ⟨rfl, rfl, rfl⟩ := hcs
      exact ⟨[], rfl, IntsAt.nil _ _ _, by simp, by simp⟩
    · simp [Value.cells] at hcs
      obtain ⟨rfl, rfl, rfl⟩ := hcs
      have hd := congrArg Prod.fst hx
      simp only at hd
      have := sized_slice hsz (j := 2) (t := 26) (e := 3) rfl (by rw [hd]; rfl) Try.underlying26
      rw [(show Try.prog.bytesOf 3 = 8 by kernel_rfl)] at this
      simp only [reachBytes, lits, List.length_map, List.length_take, List.length_drop] at this
      have hz' : zs.length = c2 := by simpa using hz
      exact ⟨zs.take len2, by rw [List.length_take]; omega, intsAt_of_open hcell hwz len2, by rw [List.length_take]; omega, by rw [List.length_take]; omega⟩
  clear hA0 hval0
  refine (walk v0 D0 v1 D1 A2 c2 z2 W x0 x1 x2 r2 m2).mono fun e W' ⟨he, bel⟩ => ?_
  subst he
  exact ⟨_, rfl, _, _, _, [], _, [], hW', trodAll_mk1 (shut_bool Try.underlying4 _), (trodAll_cons_mk (Below.trod laidOut (by kernel_rfl) (of_decide_eq_true (by kernel_rfl)) k0 bel lt0) (trodAll_cons_mk (Below.trod laidOut (by kernel_rfl) (of_decide_eq_true (by kernel_rfl)) k1 bel lt1) (trodAll_cons_mk (Below.trod laidOut (by kernel_rfl) (of_decide_eq_true (by kernel_rfl)) k2 bel lt2) trodAll_mk0))), rfl, bel.frame _, fun h => by cases h⟩

theorem over : Rows.nfaMirrorsRow.holds Try.pinned (OpenSpec.ofChange Rows.nfaMirrorsSpec) :=
  OpenClaim.holds_of_wide 13 Try.f13 rfl rfl rfl rfl rfl rfl rfl ⟨rfl, rfl, rfl, rfl, rfl⟩ rfl rfl rfl rfl rfl (by kernel_rfl) Try.func13 (by kernel_rfl)
    (of_decide_eq_true (by kernel_rfl)) (by unfold Func.isWrapper; rw [if_neg (of_decide_eq_false (by kernel_rfl))]; exact ⟨rfl, rfl⟩)
    (fun os started H enc _ => lifted os started H enc)
theorem proved : Rows.NfaMirrorsSaid := over
#print axioms proved
end Go.Proofs.Ytinehjfanabegaa.nfaMirrors
