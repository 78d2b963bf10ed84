/-
  The statement GateNewSaid of this seat, proved: for every input the law returns true and its arguments read behind the call as before. Conditions: none but the row's own (each argument within the reach).
-/
import Derived.Test.YtciopfiddfmckaaRows
import Derived.Test.YtciopfiddfmckaaWords
import Derived.WalkKit
import Derived.ProofKit
import Derived.OpenShut
import Derived.ShutString
import Derived.ChangeOld
import Derived.Below
import Derived.SizedLaws
import Derived.Lib.Hide
import Derived.Test.YtciopfiddfmckaaGateL
import Derived.Test.YtciopfiddfmckaaTopM
namespace Go.Proofs.Ytciopfiddfmckaa.gateNew
open Go.ChangeShapes Go.WideShapes Go.ChangeAt Go.RowKit Go.IntWalk Go.Proofs.Ytciopfiddfmckaa.Wd
open Go.ChangeMaps (open_string shut_string)
set_option linter.unusedVariables false

theorem own : ownKnob Try.prog.godebug = none := by kernel_rfl
theorem laidOut : laidOutB Try.prog = true := by kernel_rfl
open Go.Proofs.Ytciopfiddfmckaa.Wo Go.Proofs.Ytciopfiddfmckaa.Df Go.Proofs.Ytciopfiddfmckaa.Rc Go.Proofs.Ytciopfiddfmckaa.Sm Go.Proofs.Ytciopfiddfmckaa.Sa Go.Proofs.Ytciopfiddfmckaa.Ga

set_option maxRecDepth 100000 in
set_option maxHeartbeats 4000000 in
theorem walk (v0 : Value) (d0 : Df.Aut) (w : World) (h0 : Df.DfaAt w w.heap.size v0 d0) :
    Calls Try.prog 8 #[v0] w fun e w' => e = .returned (.bool true) ∧ Below w.heap.size w w' := by
  obtain ⟨L0, s0, A0, n0, c0, F0, m0, k0, rfl⟩ := h0.form
  have hN0 := h0.eqs.2.2.1
  obtain ⟨b0, hu0, hb0, VA0⟩ := var_new w h0
  have VA := Lib.hid VA0
  have B := Lib.hid hb0
  have W0 := Lib.hid hu0
  have HN0 := Lib.hid hN0
  clear VA0 hb0 hu0 h0 hN0
  clear HN0
  have HF := Lib.hid few_any
  have HFG := Lib.hid few_gated0
  by_cases g1 : dchk d0 = 0
  · have hd := dchk_iff.1 g1
    have HAl := Lib.hid (fun W v (h : DfaAt W W.heap.size v d0) => always_gives (E := .nilIface) h (mkO_ok hd) rfl)
    have hcl := Ga.class_le d0
    have hao : accOut d0 [] = accA d0 [] := (acc_word hd (fun a ha => by simp at ha) (by simp)).2
    rcases he : accA d0 [] with _ | _
    · have HA := Lib.hid (fun W v (h : DfaAt W W.heap.size v d0) => acc_none h)
      rw [hao, he, g1, show errV 0 = Value.nilIface from rfl] at HA
      have g2 : gchk (stopA false d0) = 8 := no_gate hd he
      have HN2 := Lib.hid (fun W v (h : DfaAt W W.heap.size v (stopA false d0)) => gnew_gives (E := errI 8) h g2 rfl)
      have hk : classA d0 = 0 ∨ classA d0 = 1 ∨ classA d0 = 2 ∨ classA d0 = 3 := by omega
      rcases hk with hk | hk | hk | hk
      · have HC : Hid (∀ W v (h : DfaAt W W.heap.size v d0), Calls Try.prog 10 #[v] W fun e w' => e = .returned (.tuple #[.int .i64 0, .nilIface]) ∧ Below W.heap.size W w') := fun W v h => by
          have h1 := cls_gives (E := .nilIface) h (clsOut_ok hd) rfl
          rw [hk] at h1
          exact h1
        have HN := Lib.hid (fun W v (h : DfaAt W W.heap.size v d0) => gnew_gives (E := errI 3) h (show gchk d0 = 3 by unfold gchk; rw [if_neg (by omega), if_pos (by omega)]) rfl)
        clear g1 hd hcl hao he g2 hk
        generalize stopA false d0 = AL at *
        as_aux_lemma =>
          go_enter Try.func8, Try.ntmps8
          go_wp2_with fail
          rw [← W0.out]
          clear W0
          refine (HF.out _).mono ?_
          rintro e b1 he
          obtain ⟨xf, rfl, hof⟩ := he.out
          have hb := hof.below
          have HX0 := Lib.hid hof.at_
          have VA := Lib.hid (VA.out.on hb)
          have B := Lib.hid (B.out.trans (hb.mono B.out.size))
          clear he hof hb HF
          go_wp2_with fail
          refine (HFG.out _ _ HX0.out).mono ?_
          rintro e b2 ⟨gf, Af, cf, rfl, HGF, hb⟩
          have VA := Lib.hid (VA.out.on hb)
          have B := Lib.hid (B.out.trans (hb.mono B.out.size))
          clear hb  HX0 HFG
          go_wp2_with fail
          refine (rshut_gives HGF.out).mono ?_
          rintro e b3 ⟨rfl, rfl⟩
          clear HGF
          obtain ⟨p0, p1, p2, p3, p4⟩ := VA.out.box
          go_wp2_with fail
          refine (HC.out _ _ VA.out.at_).mono ?_
          rintro e b4 ⟨rfl, hb⟩
          have VA := Lib.hid (VA.out.on hb)
          have B := Lib.hid (B.out.trans (hb.mono B.out.size))
          clear hb p0 p1 p2 p3 p4 HC
          obtain ⟨p0, p1, p2, p3, p4⟩ := VA.out.box
          go_wp2_with fail
          refine (HA.out _ _ VA.out.at_).mono ?_
          rintro e b5 ⟨rfl, hb⟩
          have VA := Lib.hid (VA.out.on hb)
          have B := Lib.hid (B.out.trans (hb.mono B.out.size))
          clear hb p0 p1 p2 p3 p4 HA
          obtain ⟨p0, p1, p2, p3, p4⟩ := VA.out.box
          go_wp2_with fail
          refine (HN.out _ _ VA.out.at_).mono ?_
          rintro e b6 ⟨pn, rfl, hb⟩
          have VA := Lib.hid (VA.out.on hb)
          have B := Lib.hid (B.out.trans (hb.mono B.out.size))
          clear hb p0 p1 p2 p3 p4 HN
          obtain ⟨p0, p1, p2, p3, p4⟩ := VA.out.box
          go_wp2_with fail
          refine (HAl.out _ _ VA.out.at_).mono ?_
          rintro e b7 ⟨L17, s17, A17, n17, c17, F17, m17, k17, rfl, hd, hb⟩
          have VA := Lib.hid (VA.out.on hb)
          have B := Lib.hid (B.out.trans (hb.mono B.out.size))
          clear hb p0 p1 p2 p3 p4 HAl
          obtain ⟨x7, hx7, hbn, Vn⟩ := var_new b7 hd.out
          have VL := Lib.hid Vn
          have VA := Lib.hid (VA.out.on hbn)
          have B := Lib.hid (B.out.trans (hbn.mono B.out.size))
          clear hbn Vn hd
          obtain ⟨p0, p1, p2, p3, p4⟩ := VL.out.box
          rw [hx7] at p1 p2 p3 p4
          have HX := Lib.hid hx7
          clear hx7
          go_wp2_with fail
          rw [← HX.out]
          clear HX
          refine (HN2.out _ _ VL.out.at_).mono ?_
          rintro e b8 ⟨pm, rfl, hb⟩
          have VA := Lib.hid (VA.out.on hb)
          have VL := Lib.hid (VL.out.on hb)
          have B := Lib.hid (B.out.trans (hb.mono B.out.size))
          clear hb p0 p1 p2 p3 p4 HN2
          go_wp2
          go_ret
          exact ⟨rfl, B.out⟩
      · have HC : Hid (∀ W v (h : DfaAt W W.heap.size v d0), Calls Try.prog 10 #[v] W fun e w' => e = .returned (.tuple #[.int .i64 1, .nilIface]) ∧ Below W.heap.size W w') := fun W v h => by
          have h1 := cls_gives (E := .nilIface) h (clsOut_ok hd) rfl
          rw [hk] at h1
          exact h1
        have HN := Lib.hid (fun W v (h : DfaAt W W.heap.size v d0) => gnew_gives (E := errI 8) h (show gchk d0 = 8 by unfold gchk; rw [if_neg (by omega), if_neg (by omega), if_pos he]) rfl)
        clear g1 hd hcl hao he g2 hk
        generalize stopA false d0 = AL at *
        as_aux_lemma =>
          go_enter Try.func8, Try.ntmps8
          go_wp2_with fail
          rw [← W0.out]
          clear W0
          refine (HF.out _).mono ?_
          rintro e b1 he
          obtain ⟨xf, rfl, hof⟩ := he.out
          have hb := hof.below
          have HX0 := Lib.hid hof.at_
          have VA := Lib.hid (VA.out.on hb)
          have B := Lib.hid (B.out.trans (hb.mono B.out.size))
          clear he hof hb HF
          go_wp2_with fail
          refine (HFG.out _ _ HX0.out).mono ?_
          rintro e b2 ⟨gf, Af, cf, rfl, HGF, hb⟩
          have VA := Lib.hid (VA.out.on hb)
          have B := Lib.hid (B.out.trans (hb.mono B.out.size))
          clear hb  HX0 HFG
          go_wp2_with fail
          refine (rshut_gives HGF.out).mono ?_
          rintro e b3 ⟨rfl, rfl⟩
          clear HGF
          obtain ⟨p0, p1, p2, p3, p4⟩ := VA.out.box
          go_wp2_with fail
          refine (HC.out _ _ VA.out.at_).mono ?_
          rintro e b4 ⟨rfl, hb⟩
          have VA := Lib.hid (VA.out.on hb)
          have B := Lib.hid (B.out.trans (hb.mono B.out.size))
          clear hb p0 p1 p2 p3 p4 HC
          obtain ⟨p0, p1, p2, p3, p4⟩ := VA.out.box
          go_wp2_with fail
          refine (HA.out _ _ VA.out.at_).mono ?_
          rintro e b5 ⟨rfl, hb⟩
          have VA := Lib.hid (VA.out.on hb)
          have B := Lib.hid (B.out.trans (hb.mono B.out.size))
          clear hb p0 p1 p2 p3 p4 HA
          obtain ⟨p0, p1, p2, p3, p4⟩ := VA.out.box
          go_wp2_with fail
          refine (HN.out _ _ VA.out.at_).mono ?_
          rintro e b6 ⟨pn, rfl, hb⟩
          have VA := Lib.hid (VA.out.on hb)
          have B := Lib.hid (B.out.trans (hb.mono B.out.size))
          clear hb p0 p1 p2 p3 p4 HN
          obtain ⟨p0, p1, p2, p3, p4⟩ := VA.out.box
          go_wp2_with fail
          refine (HAl.out _ _ VA.out.at_).mono ?_
          rintro e b7 ⟨L17, s17, A17, n17, c17, F17, m17, k17, rfl, hd, hb⟩
          have VA := Lib.hid (VA.out.on hb)
          have B := Lib.hid (B.out.trans (hb.mono B.out.size))
          clear hb p0 p1 p2 p3 p4 HAl
          obtain ⟨x7, hx7, hbn, Vn⟩ := var_new b7 hd.out
          have VL := Lib.hid Vn
          have VA := Lib.hid (VA.out.on hbn)
          have B := Lib.hid (B.out.trans (hbn.mono B.out.size))
          clear hbn Vn hd
          obtain ⟨p0, p1, p2, p3, p4⟩ := VL.out.box
          rw [hx7] at p1 p2 p3 p4
          have HX := Lib.hid hx7
          clear hx7
          go_wp2_with fail
          rw [← HX.out]
          clear HX
          refine (HN2.out _ _ VL.out.at_).mono ?_
          rintro e b8 ⟨pm, rfl, hb⟩
          have VA := Lib.hid (VA.out.on hb)
          have VL := Lib.hid (VL.out.on hb)
          have B := Lib.hid (B.out.trans (hb.mono B.out.size))
          clear hb p0 p1 p2 p3 p4 HN2
          go_wp2
          go_ret
          exact ⟨rfl, B.out⟩
      · have HC : Hid (∀ W v (h : DfaAt W W.heap.size v d0), Calls Try.prog 10 #[v] W fun e w' => e = .returned (.tuple #[.int .i64 2, .nilIface]) ∧ Below W.heap.size W w') := fun W v h => by
          have h1 := cls_gives (E := .nilIface) h (clsOut_ok hd) rfl
          rw [hk] at h1
          exact h1
        have HN := Lib.hid (fun W v (h : DfaAt W W.heap.size v d0) => gnew_gives (E := errI 3) h (show gchk d0 = 3 by unfold gchk; rw [if_neg (by omega), if_pos (by omega)]) rfl)
        clear g1 hd hcl hao he g2 hk
        generalize stopA false d0 = AL at *
        as_aux_lemma =>
          go_enter Try.func8, Try.ntmps8
          go_wp2_with fail
          rw [← W0.out]
          clear W0
          refine (HF.out _).mono ?_
          rintro e b1 he
          obtain ⟨xf, rfl, hof⟩ := he.out
          have hb := hof.below
          have HX0 := Lib.hid hof.at_
          have VA := Lib.hid (VA.out.on hb)
          have B := Lib.hid (B.out.trans (hb.mono B.out.size))
          clear he hof hb HF
          go_wp2_with fail
          refine (HFG.out _ _ HX0.out).mono ?_
          rintro e b2 ⟨gf, Af, cf, rfl, HGF, hb⟩
          have VA := Lib.hid (VA.out.on hb)
          have B := Lib.hid (B.out.trans (hb.mono B.out.size))
          clear hb  HX0 HFG
          go_wp2_with fail
          refine (rshut_gives HGF.out).mono ?_
          rintro e b3 ⟨rfl, rfl⟩
          clear HGF
          obtain ⟨p0, p1, p2, p3, p4⟩ := VA.out.box
          go_wp2_with fail
          refine (HC.out _ _ VA.out.at_).mono ?_
          rintro e b4 ⟨rfl, hb⟩
          have VA := Lib.hid (VA.out.on hb)
          have B := Lib.hid (B.out.trans (hb.mono B.out.size))
          clear hb p0 p1 p2 p3 p4 HC
          obtain ⟨p0, p1, p2, p3, p4⟩ := VA.out.box
          go_wp2_with fail
          refine (HA.out _ _ VA.out.at_).mono ?_
          rintro e b5 ⟨rfl, hb⟩
          have VA := Lib.hid (VA.out.on hb)
          have B := Lib.hid (B.out.trans (hb.mono B.out.size))
          clear hb p0 p1 p2 p3 p4 HA
          obtain ⟨p0, p1, p2, p3, p4⟩ := VA.out.box
          go_wp2_with fail
          refine (HN.out _ _ VA.out.at_).mono ?_
          rintro e b6 ⟨pn, rfl, hb⟩
          have VA := Lib.hid (VA.out.on hb)
          have B := Lib.hid (B.out.trans (hb.mono B.out.size))
          clear hb p0 p1 p2 p3 p4 HN
          obtain ⟨p0, p1, p2, p3, p4⟩ := VA.out.box
          go_wp2_with fail
          refine (HAl.out _ _ VA.out.at_).mono ?_
          rintro e b7 ⟨L17, s17, A17, n17, c17, F17, m17, k17, rfl, hd, hb⟩
          have VA := Lib.hid (VA.out.on hb)
          have B := Lib.hid (B.out.trans (hb.mono B.out.size))
          clear hb p0 p1 p2 p3 p4 HAl
          obtain ⟨x7, hx7, hbn, Vn⟩ := var_new b7 hd.out
          have VL := Lib.hid Vn
          have VA := Lib.hid (VA.out.on hbn)
          have B := Lib.hid (B.out.trans (hbn.mono B.out.size))
          clear hbn Vn hd
          obtain ⟨p0, p1, p2, p3, p4⟩ := VL.out.box
          rw [hx7] at p1 p2 p3 p4
          have HX := Lib.hid hx7
          clear hx7
          go_wp2_with fail
          rw [← HX.out]
          clear HX
          refine (HN2.out _ _ VL.out.at_).mono ?_
          rintro e b8 ⟨pm, rfl, hb⟩
          have VA := Lib.hid (VA.out.on hb)
          have VL := Lib.hid (VL.out.on hb)
          have B := Lib.hid (B.out.trans (hb.mono B.out.size))
          clear hb p0 p1 p2 p3 p4 HN2
          go_wp2
          go_ret
          exact ⟨rfl, B.out⟩
      · have HC : Hid (∀ W v (h : DfaAt W W.heap.size v d0), Calls Try.prog 10 #[v] W fun e w' => e = .returned (.tuple #[.int .i64 3, .nilIface]) ∧ Below W.heap.size W w') := fun W v h => by
          have h1 := cls_gives (E := .nilIface) h (clsOut_ok hd) rfl
          rw [hk] at h1
          exact h1
        have HN := Lib.hid (fun W v (h : DfaAt W W.heap.size v d0) => gnew_gives (E := errI 8) h (show gchk d0 = 8 by unfold gchk; rw [if_neg (by omega), if_neg (by omega), if_pos he]) rfl)
        clear g1 hd hcl hao he g2 hk
        generalize stopA false d0 = AL at *
        as_aux_lemma =>
          go_enter Try.func8, Try.ntmps8
          go_wp2_with fail
          rw [← W0.out]
          clear W0
          refine (HF.out _).mono ?_
          rintro e b1 he
          obtain ⟨xf, rfl, hof⟩ := he.out
          have hb := hof.below
          have HX0 := Lib.hid hof.at_
          have VA := Lib.hid (VA.out.on hb)
          have B := Lib.hid (B.out.trans (hb.mono B.out.size))
          clear he hof hb HF
          go_wp2_with fail
          refine (HFG.out _ _ HX0.out).mono ?_
          rintro e b2 ⟨gf, Af, cf, rfl, HGF, hb⟩
          have VA := Lib.hid (VA.out.on hb)
          have B := Lib.hid (B.out.trans (hb.mono B.out.size))
          clear hb  HX0 HFG
          go_wp2_with fail
          refine (rshut_gives HGF.out).mono ?_
          rintro e b3 ⟨rfl, rfl⟩
          clear HGF
          obtain ⟨p0, p1, p2, p3, p4⟩ := VA.out.box
          go_wp2_with fail
          refine (HC.out _ _ VA.out.at_).mono ?_
          rintro e b4 ⟨rfl, hb⟩
          have VA := Lib.hid (VA.out.on hb)
          have B := Lib.hid (B.out.trans (hb.mono B.out.size))
          clear hb p0 p1 p2 p3 p4 HC
          obtain ⟨p0, p1, p2, p3, p4⟩ := VA.out.box
          go_wp2_with fail
          refine (HA.out _ _ VA.out.at_).mono ?_
          rintro e b5 ⟨rfl, hb⟩
          have VA := Lib.hid (VA.out.on hb)
          have B := Lib.hid (B.out.trans (hb.mono B.out.size))
          clear hb p0 p1 p2 p3 p4 HA
          obtain ⟨p0, p1, p2, p3, p4⟩ := VA.out.box
          go_wp2_with fail
          refine (HN.out _ _ VA.out.at_).mono ?_
          rintro e b6 ⟨pn, rfl, hb⟩
          have VA := Lib.hid (VA.out.on hb)
          have B := Lib.hid (B.out.trans (hb.mono B.out.size))
          clear hb p0 p1 p2 p3 p4 HN
          obtain ⟨p0, p1, p2, p3, p4⟩ := VA.out.box
          go_wp2_with fail
          refine (HAl.out _ _ VA.out.at_).mono ?_
          rintro e b7 ⟨L17, s17, A17, n17, c17, F17, m17, k17, rfl, hd, hb⟩
          have VA := Lib.hid (VA.out.on hb)
          have B := Lib.hid (B.out.trans (hb.mono B.out.size))
          clear hb p0 p1 p2 p3 p4 HAl
          obtain ⟨x7, hx7, hbn, Vn⟩ := var_new b7 hd.out
          have VL := Lib.hid Vn
          have VA := Lib.hid (VA.out.on hbn)
          have B := Lib.hid (B.out.trans (hbn.mono B.out.size))
          clear hbn Vn hd
          obtain ⟨p0, p1, p2, p3, p4⟩ := VL.out.box
          rw [hx7] at p1 p2 p3 p4
          have HX := Lib.hid hx7
          clear hx7
          go_wp2_with fail
          rw [← HX.out]
          clear HX
          refine (HN2.out _ _ VL.out.at_).mono ?_
          rintro e b8 ⟨pm, rfl, hb⟩
          have VA := Lib.hid (VA.out.on hb)
          have VL := Lib.hid (VL.out.on hb)
          have B := Lib.hid (B.out.trans (hb.mono B.out.size))
          clear hb p0 p1 p2 p3 p4 HN2
          go_wp2
          go_ret
          exact ⟨rfl, B.out⟩
    · have HA := Lib.hid (fun W v (h : DfaAt W W.heap.size v d0) => acc_none h)
      rw [hao, he, g1, show errV 0 = Value.nilIface from rfl] at HA
      have g2 : gchk (stopA false d0) = 0 := gchk_iff.2 (gate_always hd he)
      have HN2 := Lib.hid (fun W v (h : DfaAt W W.heap.size v (stopA false d0)) => gnew_gives (E := .nilIface) h g2 rfl)
      have hk : classA d0 = 0 ∨ classA d0 = 1 ∨ classA d0 = 2 ∨ classA d0 = 3 := by omega
      rcases hk with hk | hk | hk | hk
      · have HC : Hid (∀ W v (h : DfaAt W W.heap.size v d0), Calls Try.prog 10 #[v] W fun e w' => e = .returned (.tuple #[.int .i64 0, .nilIface]) ∧ Below W.heap.size W w') := fun W v h => by
          have h1 := cls_gives (E := .nilIface) h (clsOut_ok hd) rfl
          rw [hk] at h1
          exact h1
        have HN := Lib.hid (fun W v (h : DfaAt W W.heap.size v d0) => gnew_gives (E := errI 3) h (show gchk d0 = 3 by unfold gchk; rw [if_neg (by omega), if_pos (by omega)]) rfl)
        clear g1 hd hcl hao he g2 hk
        generalize stopA false d0 = AL at *
        as_aux_lemma =>
          go_enter Try.func8, Try.ntmps8
          go_wp2_with fail
          rw [← W0.out]
          clear W0
          refine (HF.out _).mono ?_
          rintro e b1 he
          obtain ⟨xf, rfl, hof⟩ := he.out
          have hb := hof.below
          have HX0 := Lib.hid hof.at_
          have VA := Lib.hid (VA.out.on hb)
          have B := Lib.hid (B.out.trans (hb.mono B.out.size))
          clear he hof hb HF
          go_wp2_with fail
          refine (HFG.out _ _ HX0.out).mono ?_
          rintro e b2 ⟨gf, Af, cf, rfl, HGF, hb⟩
          have VA := Lib.hid (VA.out.on hb)
          have B := Lib.hid (B.out.trans (hb.mono B.out.size))
          clear hb  HX0 HFG
          go_wp2_with fail
          refine (rshut_gives HGF.out).mono ?_
          rintro e b3 ⟨rfl, rfl⟩
          clear HGF
          obtain ⟨p0, p1, p2, p3, p4⟩ := VA.out.box
          go_wp2_with fail
          refine (HC.out _ _ VA.out.at_).mono ?_
          rintro e b4 ⟨rfl, hb⟩
          have VA := Lib.hid (VA.out.on hb)
          have B := Lib.hid (B.out.trans (hb.mono B.out.size))
          clear hb p0 p1 p2 p3 p4 HC
          obtain ⟨p0, p1, p2, p3, p4⟩ := VA.out.box
          go_wp2_with fail
          refine (HA.out _ _ VA.out.at_).mono ?_
          rintro e b5 ⟨rfl, hb⟩
          have VA := Lib.hid (VA.out.on hb)
          have B := Lib.hid (B.out.trans (hb.mono B.out.size))
          clear hb p0 p1 p2 p3 p4 HA
          obtain ⟨p0, p1, p2, p3, p4⟩ := VA.out.box
          go_wp2_with fail
          refine (HN.out _ _ VA.out.at_).mono ?_
          rintro e b6 ⟨pn, rfl, hb⟩
          have VA := Lib.hid (VA.out.on hb)
          have B := Lib.hid (B.out.trans (hb.mono B.out.size))
          clear hb p0 p1 p2 p3 p4 HN
          obtain ⟨p0, p1, p2, p3, p4⟩ := VA.out.box
          go_wp2_with fail
          refine (HAl.out _ _ VA.out.at_).mono ?_
          rintro e b7 ⟨L17, s17, A17, n17, c17, F17, m17, k17, rfl, hd, hb⟩
          have VA := Lib.hid (VA.out.on hb)
          have B := Lib.hid (B.out.trans (hb.mono B.out.size))
          clear hb p0 p1 p2 p3 p4 HAl
          obtain ⟨x7, hx7, hbn, Vn⟩ := var_new b7 hd.out
          have VL := Lib.hid Vn
          have VA := Lib.hid (VA.out.on hbn)
          have B := Lib.hid (B.out.trans (hbn.mono B.out.size))
          clear hbn Vn hd
          obtain ⟨p0, p1, p2, p3, p4⟩ := VL.out.box
          rw [hx7] at p1 p2 p3 p4
          have HX := Lib.hid hx7
          clear hx7
          go_wp2_with fail
          rw [← HX.out]
          clear HX
          refine (HN2.out _ _ VL.out.at_).mono ?_
          rintro e b8 ⟨pm, rfl, hb⟩
          have VA := Lib.hid (VA.out.on hb)
          have VL := Lib.hid (VL.out.on hb)
          have B := Lib.hid (B.out.trans (hb.mono B.out.size))
          clear hb p0 p1 p2 p3 p4 HN2
          go_wp2
          go_ret
          exact ⟨rfl, B.out⟩
      · have HC : Hid (∀ W v (h : DfaAt W W.heap.size v d0), Calls Try.prog 10 #[v] W fun e w' => e = .returned (.tuple #[.int .i64 1, .nilIface]) ∧ Below W.heap.size W w') := fun W v h => by
          have h1 := cls_gives (E := .nilIface) h (clsOut_ok hd) rfl
          rw [hk] at h1
          exact h1
        have HN := Lib.hid (fun W v (h : DfaAt W W.heap.size v d0) => gnew_gives (E := .nilIface) h (show gchk d0 = 0 by unfold gchk; rw [if_neg (by omega), if_neg (by omega), if_neg (by rw [he]; decide)]) rfl)
        clear g1 hd hcl hao he g2 hk
        generalize stopA false d0 = AL at *
        as_aux_lemma =>
          go_enter Try.func8, Try.ntmps8
          go_wp2_with fail
          rw [← W0.out]
          clear W0
          refine (HF.out _).mono ?_
          rintro e b1 he
          obtain ⟨xf, rfl, hof⟩ := he.out
          have hb := hof.below
          have HX0 := Lib.hid hof.at_
          have VA := Lib.hid (VA.out.on hb)
          have B := Lib.hid (B.out.trans (hb.mono B.out.size))
          clear he hof hb HF
          go_wp2_with fail
          refine (HFG.out _ _ HX0.out).mono ?_
          rintro e b2 ⟨gf, Af, cf, rfl, HGF, hb⟩
          have VA := Lib.hid (VA.out.on hb)
          have B := Lib.hid (B.out.trans (hb.mono B.out.size))
          clear hb  HX0 HFG
          go_wp2_with fail
          refine (rshut_gives HGF.out).mono ?_
          rintro e b3 ⟨rfl, rfl⟩
          clear HGF
          obtain ⟨p0, p1, p2, p3, p4⟩ := VA.out.box
          go_wp2_with fail
          refine (HC.out _ _ VA.out.at_).mono ?_
          rintro e b4 ⟨rfl, hb⟩
          have VA := Lib.hid (VA.out.on hb)
          have B := Lib.hid (B.out.trans (hb.mono B.out.size))
          clear hb p0 p1 p2 p3 p4 HC
          obtain ⟨p0, p1, p2, p3, p4⟩ := VA.out.box
          go_wp2_with fail
          refine (HA.out _ _ VA.out.at_).mono ?_
          rintro e b5 ⟨rfl, hb⟩
          have VA := Lib.hid (VA.out.on hb)
          have B := Lib.hid (B.out.trans (hb.mono B.out.size))
          clear hb p0 p1 p2 p3 p4 HA
          obtain ⟨p0, p1, p2, p3, p4⟩ := VA.out.box
          go_wp2_with fail
          refine (HN.out _ _ VA.out.at_).mono ?_
          rintro e b6 ⟨pn, rfl, hb⟩
          have VA := Lib.hid (VA.out.on hb)
          have B := Lib.hid (B.out.trans (hb.mono B.out.size))
          clear hb p0 p1 p2 p3 p4 HN
          obtain ⟨p0, p1, p2, p3, p4⟩ := VA.out.box
          go_wp2_with fail
          refine (HAl.out _ _ VA.out.at_).mono ?_
          rintro e b7 ⟨L17, s17, A17, n17, c17, F17, m17, k17, rfl, hd, hb⟩
          have VA := Lib.hid (VA.out.on hb)
          have B := Lib.hid (B.out.trans (hb.mono B.out.size))
          clear hb p0 p1 p2 p3 p4 HAl
          obtain ⟨x7, hx7, hbn, Vn⟩ := var_new b7 hd.out
          have VL := Lib.hid Vn
          have VA := Lib.hid (VA.out.on hbn)
          have B := Lib.hid (B.out.trans (hbn.mono B.out.size))
          clear hbn Vn hd
          obtain ⟨p0, p1, p2, p3, p4⟩ := VL.out.box
          rw [hx7] at p1 p2 p3 p4
          have HX := Lib.hid hx7
          clear hx7
          go_wp2_with fail
          rw [← HX.out]
          clear HX
          refine (HN2.out _ _ VL.out.at_).mono ?_
          rintro e b8 ⟨pm, rfl, hb⟩
          have VA := Lib.hid (VA.out.on hb)
          have VL := Lib.hid (VL.out.on hb)
          have B := Lib.hid (B.out.trans (hb.mono B.out.size))
          clear hb p0 p1 p2 p3 p4 HN2
          go_wp2
          go_ret
          exact ⟨rfl, B.out⟩
      · have HC : Hid (∀ W v (h : DfaAt W W.heap.size v d0), Calls Try.prog 10 #[v] W fun e w' => e = .returned (.tuple #[.int .i64 2, .nilIface]) ∧ Below W.heap.size W w') := fun W v h => by
          have h1 := cls_gives (E := .nilIface) h (clsOut_ok hd) rfl
          rw [hk] at h1
          exact h1
        have HN := Lib.hid (fun W v (h : DfaAt W W.heap.size v d0) => gnew_gives (E := errI 3) h (show gchk d0 = 3 by unfold gchk; rw [if_neg (by omega), if_pos (by omega)]) rfl)
        clear g1 hd hcl hao he g2 hk
        generalize stopA false d0 = AL at *
        as_aux_lemma =>
          go_enter Try.func8, Try.ntmps8
          go_wp2_with fail
          rw [← W0.out]
          clear W0
          refine (HF.out _).mono ?_
          rintro e b1 he
          obtain ⟨xf, rfl, hof⟩ := he.out
          have hb := hof.below
          have HX0 := Lib.hid hof.at_
          have VA := Lib.hid (VA.out.on hb)
          have B := Lib.hid (B.out.trans (hb.mono B.out.size))
          clear he hof hb HF
          go_wp2_with fail
          refine (HFG.out _ _ HX0.out).mono ?_
          rintro e b2 ⟨gf, Af, cf, rfl, HGF, hb⟩
          have VA := Lib.hid (VA.out.on hb)
          have B := Lib.hid (B.out.trans (hb.mono B.out.size))
          clear hb  HX0 HFG
          go_wp2_with fail
          refine (rshut_gives HGF.out).mono ?_
          rintro e b3 ⟨rfl, rfl⟩
          clear HGF
          obtain ⟨p0, p1, p2, p3, p4⟩ := VA.out.box
          go_wp2_with fail
          refine (HC.out _ _ VA.out.at_).mono ?_
          rintro e b4 ⟨rfl, hb⟩
          have VA := Lib.hid (VA.out.on hb)
          have B := Lib.hid (B.out.trans (hb.mono B.out.size))
          clear hb p0 p1 p2 p3 p4 HC
          obtain ⟨p0, p1, p2, p3, p4⟩ := VA.out.box
          go_wp2_with fail
          refine (HA.out _ _ VA.out.at_).mono ?_
          rintro e b5 ⟨rfl, hb⟩
          have VA := Lib.hid (VA.out.on hb)
          have B := Lib.hid (B.out.trans (hb.mono B.out.size))
          clear hb p0 p1 p2 p3 p4 HA
          obtain ⟨p0, p1, p2, p3, p4⟩ := VA.out.box
          go_wp2_with fail
          refine (HN.out _ _ VA.out.at_).mono ?_
          rintro e b6 ⟨pn, rfl, hb⟩
          have VA := Lib.hid (VA.out.on hb)
          have B := Lib.hid (B.out.trans (hb.mono B.out.size))
          clear hb p0 p1 p2 p3 p4 HN
          obtain ⟨p0, p1, p2, p3, p4⟩ := VA.out.box
          go_wp2_with fail
          refine (HAl.out _ _ VA.out.at_).mono ?_
          rintro e b7 ⟨L17, s17, A17, n17, c17, F17, m17, k17, rfl, hd, hb⟩
          have VA := Lib.hid (VA.out.on hb)
          have B := Lib.hid (B.out.trans (hb.mono B.out.size))
          clear hb p0 p1 p2 p3 p4 HAl
          obtain ⟨x7, hx7, hbn, Vn⟩ := var_new b7 hd.out
          have VL := Lib.hid Vn
          have VA := Lib.hid (VA.out.on hbn)
          have B := Lib.hid (B.out.trans (hbn.mono B.out.size))
          clear hbn Vn hd
          obtain ⟨p0, p1, p2, p3, p4⟩ := VL.out.box
          rw [hx7] at p1 p2 p3 p4
          have HX := Lib.hid hx7
          clear hx7
          go_wp2_with fail
          rw [← HX.out]
          clear HX
          refine (HN2.out _ _ VL.out.at_).mono ?_
          rintro e b8 ⟨pm, rfl, hb⟩
          have VA := Lib.hid (VA.out.on hb)
          have VL := Lib.hid (VL.out.on hb)
          have B := Lib.hid (B.out.trans (hb.mono B.out.size))
          clear hb p0 p1 p2 p3 p4 HN2
          go_wp2
          go_ret
          exact ⟨rfl, B.out⟩
      · have HC : Hid (∀ W v (h : DfaAt W W.heap.size v d0), Calls Try.prog 10 #[v] W fun e w' => e = .returned (.tuple #[.int .i64 3, .nilIface]) ∧ Below W.heap.size W w') := fun W v h => by
          have h1 := cls_gives (E := .nilIface) h (clsOut_ok hd) rfl
          rw [hk] at h1
          exact h1
        have HN := Lib.hid (fun W v (h : DfaAt W W.heap.size v d0) => gnew_gives (E := .nilIface) h (show gchk d0 = 0 by unfold gchk; rw [if_neg (by omega), if_neg (by omega), if_neg (by rw [he]; decide)]) rfl)
        clear g1 hd hcl hao he g2 hk
        generalize stopA false d0 = AL at *
        as_aux_lemma =>
          go_enter Try.func8, Try.ntmps8
          go_wp2_with fail
          rw [← W0.out]
          clear W0
          refine (HF.out _).mono ?_
          rintro e b1 he
          obtain ⟨xf, rfl, hof⟩ := he.out
          have hb := hof.below
          have HX0 := Lib.hid hof.at_
          have VA := Lib.hid (VA.out.on hb)
          have B := Lib.hid (B.out.trans (hb.mono B.out.size))
          clear he hof hb HF
          go_wp2_with fail
          refine (HFG.out _ _ HX0.out).mono ?_
          rintro e b2 ⟨gf, Af, cf, rfl, HGF, hb⟩
          have VA := Lib.hid (VA.out.on hb)
          have B := Lib.hid (B.out.trans (hb.mono B.out.size))
          clear hb  HX0 HFG
          go_wp2_with fail
          refine (rshut_gives HGF.out).mono ?_
          rintro e b3 ⟨rfl, rfl⟩
          clear HGF
          obtain ⟨p0, p1, p2, p3, p4⟩ := VA.out.box
          go_wp2_with fail
          refine (HC.out _ _ VA.out.at_).mono ?_
          rintro e b4 ⟨rfl, hb⟩
          have VA := Lib.hid (VA.out.on hb)
          have B := Lib.hid (B.out.trans (hb.mono B.out.size))
          clear hb p0 p1 p2 p3 p4 HC
          obtain ⟨p0, p1, p2, p3, p4⟩ := VA.out.box
          go_wp2_with fail
          refine (HA.out _ _ VA.out.at_).mono ?_
          rintro e b5 ⟨rfl, hb⟩
          have VA := Lib.hid (VA.out.on hb)
          have B := Lib.hid (B.out.trans (hb.mono B.out.size))
          clear hb p0 p1 p2 p3 p4 HA
          obtain ⟨p0, p1, p2, p3, p4⟩ := VA.out.box
          go_wp2_with fail
          refine (HN.out _ _ VA.out.at_).mono ?_
          rintro e b6 ⟨pn, rfl, hb⟩
          have VA := Lib.hid (VA.out.on hb)
          have B := Lib.hid (B.out.trans (hb.mono B.out.size))
          clear hb p0 p1 p2 p3 p4 HN
          obtain ⟨p0, p1, p2, p3, p4⟩ := VA.out.box
          go_wp2_with fail
          refine (HAl.out _ _ VA.out.at_).mono ?_
          rintro e b7 ⟨L17, s17, A17, n17, c17, F17, m17, k17, rfl, hd, hb⟩
          have VA := Lib.hid (VA.out.on hb)
          have B := Lib.hid (B.out.trans (hb.mono B.out.size))
          clear hb p0 p1 p2 p3 p4 HAl
          obtain ⟨x7, hx7, hbn, Vn⟩ := var_new b7 hd.out
          have VL := Lib.hid Vn
          have VA := Lib.hid (VA.out.on hbn)
          have B := Lib.hid (B.out.trans (hbn.mono B.out.size))
          clear hbn Vn hd
          obtain ⟨p0, p1, p2, p3, p4⟩ := VL.out.box
          rw [hx7] at p1 p2 p3 p4
          have HX := Lib.hid hx7
          clear hx7
          go_wp2_with fail
          rw [← HX.out]
          clear HX
          refine (HN2.out _ _ VL.out.at_).mono ?_
          rintro e b8 ⟨pm, rfl, hb⟩
          have VA := Lib.hid (VA.out.on hb)
          have VL := Lib.hid (VL.out.on hb)
          have B := Lib.hid (B.out.trans (hb.mono B.out.size))
          clear hb p0 p1 p2 p3 p4 HN2
          go_wp2
          go_ret
          exact ⟨rfl, B.out⟩
  · obtain ⟨E, hE⟩ := errV_bad g1
    have HC := Lib.hid (fun W v (h : DfaAt W W.heap.size v d0) => cls_gives (E := errI E) h (clsOut_bad g1) hE)
    have HA := Lib.hid (fun W v (h : DfaAt W W.heap.size v d0) => acc_none h)
    rw [hE, show accOut d0 [] = false by unfold accOut accErr; rw [if_pos g1, if_neg g1]] at HA
    have HN := Lib.hid (fun W v (h : DfaAt W W.heap.size v d0) => gnew_gives (E := errI E) h (show gchk d0 = dchk d0 by unfold gchk; rw [if_pos g1]) hE)
    clear g1 hE
    go_enter Try.func8, Try.ntmps8
    go_wp2_with fail
    rw [← W0.out]
    clear W0
    refine (HF.out _).mono ?_
    rintro e b1 he
    obtain ⟨xf, rfl, hof⟩ := he.out
    have hb := hof.below
    have HX0 := Lib.hid hof.at_
    have VA := Lib.hid (VA.out.on hb)
    have B := Lib.hid (B.out.trans (hb.mono B.out.size))
    clear he hof hb HF
    go_wp2_with fail
    refine (HFG.out _ _ HX0.out).mono ?_
    rintro e b2 ⟨gf, Af, cf, rfl, HGF, hb⟩
    have VA := Lib.hid (VA.out.on hb)
    have B := Lib.hid (B.out.trans (hb.mono B.out.size))
    clear hb  HX0 HFG
    go_wp2_with fail
    refine (rshut_gives HGF.out).mono ?_
    rintro e b3 ⟨rfl, rfl⟩
    clear HGF
    obtain ⟨p0, p1, p2, p3, p4⟩ := VA.out.box
    go_wp2_with fail
    refine (HC.out _ _ VA.out.at_).mono ?_
    rintro e b4 ⟨rfl, hb⟩
    have VA := Lib.hid (VA.out.on hb)
    have B := Lib.hid (B.out.trans (hb.mono B.out.size))
    clear hb p0 p1 p2 p3 p4 HC
    obtain ⟨p0, p1, p2, p3, p4⟩ := VA.out.box
    go_wp2_with fail
    refine (HA.out _ _ VA.out.at_).mono ?_
    rintro e b5 ⟨rfl, hb⟩
    have VA := Lib.hid (VA.out.on hb)
    have B := Lib.hid (B.out.trans (hb.mono B.out.size))
    clear hb p0 p1 p2 p3 p4 HA
    obtain ⟨p0, p1, p2, p3, p4⟩ := VA.out.box
    go_wp2_with fail
    refine (HN.out _ _ VA.out.at_).mono ?_
    rintro e b6 ⟨pn, rfl, hb⟩
    have VA := Lib.hid (VA.out.on hb)
    have B := Lib.hid (B.out.trans (hb.mono B.out.size))
    clear hb p0 p1 p2 p3 p4 HN
    go_wp2
    go_ret
    exact ⟨rfl, B.out⟩


set_option maxRecDepth 100000 in
theorem lifted (os : Os) (started : os.Started) (H : Type) (enc : TypeId × Value → H) :
    ReturnsInHanded {} Try.checked os 8 .any (Rows.gateNewSpec.pre6 enc Try.prog Try.f8 Rows.gateNewRow.domain false) (Rows.gateNewSpec.post enc Try.prog Try.f8 false true false false) := by
  refine returnsInHanded_of_change_sized (C := Try.checked) own started (by kernel_rfl) Try.func8
    (ChangeSpec.witness6 (enc := enc) (C := Try.checked) false ⟨#[], #[.agg #[.int .i64 0, .int .i64 0, .slice none 0 0, .slice none 0 0]], []⟩ 8 (by kernel_rfl) (by kernel_rfl) (by kernel_rfl) (by kernel_rfl)) ?_
  intro W base args ds gs before hval0 hW hcnd hsz0 _
  have hval : ∀ (j : Nat) t v, Try.f8.params[j]? = some t → args[j]? = some v → Value.okWide Try.prog W .any base t v := hval0
  have hsz : (DataW.weightsEach Try.prog (Try.f8.params.toList ++ Rows.gateNewSpec.plain.varTypes Try.prog) (ds ++ gs)).all (· ≤ reachBytes) = true := hsz0
  have hW' := hW
  obtain ⟨p, q, hA0, hV0, rfl, hfz, hnd⟩ := hW
  have hV : DataW.TrodVars enc Try.prog W (fun _ => true) [] gs q := hV0
  have hA : DataW.TrodAll enc Try.prog W 0 (fun _ => true) true Try.f8.params.toList args.toList ds p := hA0
  rw [Try.params8] at hA hval hsz
  obtain ⟨v0, vs0, d0, ds0, p0, q0, hargs, rfl, rfl, h0, rr0⟩ := trodAll_cons hA
  obtain ⟨rfl, rfl, rfl⟩ := trodAll_nil rr0
  obtain rfl : args = #[v0] := by cases args; simp_all
  obtain ⟨rfl, rfl⟩ := trodVars_none hV
  have k0 := h0
  have lt0 : ∀ x ∈ p0, x.block < W.heap.size := by obtain ⟨m, hm⟩ := k0; exact DataW.trod_lt m _ _ _ hm
  obtain ⟨D0, x0⟩ : ∃ d : Df.Aut, Df.DfaAt W W.heap.size v0 d := Df.dfa_open (hval 0 25 v0 rfl rfl) h0
  clear hA0 hval0
  refine (walk v0 D0 W x0).mono fun e W' ⟨he, bel⟩ => ?_
  subst he
  exact ⟨_, rfl, _, _, _, [], _, [], hW', trodAll_mk1 (shut_bool Try.underlying4 _), (trodAll_cons_mk (Below.trod laidOut (by kernel_rfl) (of_decide_eq_true (by kernel_rfl)) k0 bel lt0) trodAll_mk0), rfl, bel.frame _, fun h => by cases h⟩

theorem over : Rows.gateNewRow.holds Try.pinned (OpenSpec.ofChange Rows.gateNewSpec) :=
  OpenClaim.holds_of_wide 8 Try.f8 rfl rfl rfl rfl rfl rfl rfl ⟨rfl, rfl, rfl, rfl, rfl⟩ rfl rfl rfl rfl rfl (by kernel_rfl) Try.func8 (by kernel_rfl)
    (of_decide_eq_true (by kernel_rfl)) (by unfold Func.isWrapper; rw [if_neg (of_decide_eq_false (by kernel_rfl))]; exact ⟨rfl, rfl⟩)
    (fun os started H enc _ => lifted os started H enc)
theorem proved : Rows.GateNewSaid := over
#print axioms proved
end Go.Proofs.Ytciopfiddfmckaa.gateNew
