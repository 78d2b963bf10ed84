/-
  The statement SafeClosesSaid of this seat, proved: for every input the law returns true and its arguments read behind the call as before. Conditions: none but the row's own (each argument within the reach).
-/
import Derived.Test.YtloihkoamccacaaRows
import Derived.Test.YtloihkoamccacaaWords
import Derived.WalkKit
import Derived.ProofKit
import Derived.OpenShut
import Derived.ShutString
import Derived.ChangeOld
import Derived.Below
import Derived.SizedLaws
import Derived.Lib.Hide
import Derived.Test.YtloihkoamccacaaSafeL
import Derived.Test.YtloihkoamccacaaFew
namespace Go.Proofs.Ytloihkoamccacaa.safeCloses
open Go.ChangeShapes Go.WideShapes Go.ChangeAt Go.RowKit Go.IntWalk Go.Proofs.Ytloihkoamccacaa.Wd
open Go.ChangeMaps (open_string shut_string)
set_option linter.unusedVariables false

theorem own : ownKnob Try.prog.godebug = none := by kernel_rfl
theorem laidOut : laidOutB Try.prog = true := by kernel_rfl
open Go.Proofs.Ytloihkoamccacaa.Wo Go.Proofs.Ytloihkoamccacaa.Df Go.Proofs.Ytloihkoamccacaa.Rc Go.Proofs.Ytloihkoamccacaa.Sm Go.Proofs.Ytloihkoamccacaa.Mp Go.Proofs.Ytloihkoamccacaa.Sa

set_option maxRecDepth 100000 in
set_option maxHeartbeats 4000000 in
theorem walk (v0 : Value) (d0 : Df.Aut) (v1 : Value) (d1 : Df.Aut) (A2 : Option Addr) (c2 : Nat) (z2 : List Int) (w : World) (h0 : Df.DfaAt w w.heap.size v0 d0) (h1 : Df.DfaAt w w.heap.size v1 d1) (v2 : IntsAt w w.heap.size A2 z2) (r2 : z2.length ≤ 17592186043904) (m2 : z2.length ≤ c2) :
    Calls Try.prog 7 #[v0, v1, .slice A2 z2.length c2] w fun e w' => e = .returned (.bool true) ∧ Below w.heap.size w w' := by
  have hr : z2.length ≤ 17592186044416 := by omega
  obtain ⟨L0, s0, A0, n0, c0, F0, m0, k0, rfl⟩ := h0.form
  have hN0 := h0.eqs.2.2.1
  obtain ⟨L1, s1, A1, n1, c1, F1, m1, k1, rfl⟩ := h1.form
  have hN1 := h1.eqs.2.2.1
  obtain ⟨u0, hu0, hb0, VA0, VB0⟩ := vars_two w h0 h1
  have VA := Lib.hid VA0
  have VB := Lib.hid VB0
  have B := Lib.hid hb0
  have W0 := Lib.hid hu0
  have HN0 := Lib.hid hN0
  have HN1 := Lib.hid hN1
  have Z := Lib.hid (v2.on hb0)
  clear VA0 hb0 hu0 h0 hN0 VB0 h1 hN1 v2
  clear m2 r2
  have HK := Lib.hid Sa.known_any
  by_cases ga : accErr d0 z2 = 0
  · obtain ⟨Ga, fa⟩ := accErr_good ga
    have fw := fine_word fa
    have gp := judge_good (f := preF) Ga
    have fp : Wo.Fine (preA d0).L z2 := fa
    obtain ⟨b, hb⟩ : ∃ b, accA d0 z2 = b := ⟨_, rfl⟩
    obtain ⟨x, hx⟩ : ∃ x, accA (preA d0) z2 = x := ⟨_, rfl⟩
    have hbx : b = true → x = true := fun h => by rw [← hx]; exact acc_pre Ga fw (hb.trans h)
    have HA := Lib.hid (fun W v (h : DfaAt W W.heap.size v d0) (hZ : IntsAt W W.heap.size A2 z2) => acc_gives (cz := c2) (E := .nilIface) h hZ hr ((accOut_ok Ga fa).trans (hb)) (congrArg errV (accErr_ok Ga fa)))
    have HP := Lib.hid (fun W v (h : DfaAt W W.heap.size v d0) => pre_gives (E := .nilIface) h (mkO_ok Ga) rfl)
    have HX := Lib.hid (fun W v (h : DfaAt W W.heap.size v (preA d0)) (hZ : IntsAt W W.heap.size A2 z2) => acc_gives (cz := c2) (E := .nilIface) h hZ hr ((accOut_ok gp fp).trans (hx)) (congrArg errV (accErr_ok gp fp)))
    have HPP := Lib.hid (fun W v (h : DfaAt W W.heap.size v (preA d0)) => pre_gives (E := .nilIface) h (r := preA d0) ((mkO_ok gp).trans (by rw [pre_pre Ga])) rfl)
    have HS := Lib.hid (fun W v z (h : DfaAt W W.heap.size v (preA d0)) (h2 : DfaAt W W.heap.size z (preA d0)) => same_gives h h2 gp.lite rfl)
    by_cases g1 : dchk d1 = 0
    · have Gb := dchk_iff.1 g1
      have gq := judge_good (f := preF) Gb
      rcases prod_two d0 d1 with ⟨k, hp⟩ | ⟨g2, l, hf⟩
      · have HQ := Lib.hid (fun W v (h : DfaAt W W.heap.size v d1) => pre_gives (E := .nilIface) h (mkO_ok Gb) rfl)
        have HEi := Lib.hid (fun W v z (h : DfaAt W W.heap.size v d0) (h2 : DfaAt W W.heap.size z d1) => either_gives (E := errI ((k + 1 : Nat) : Int)) h h2 (hp _) rfl)
        have hbx' : (b = false ∧ x = false) ∨ (b = false ∧ x = true) ∨ (b = true ∧ x = true) := by rcases b with _ | _ <;> rcases x with _ | _ <;> simp_all
        clear hbx
        clear ga Ga fa fw gp fp hb hx hp g1 Gb gq hr HN0 HN1
        generalize preA d0 = P at *
        generalize preA d1 = Q at *
        generalize ((k + 1 : Nat) : Int) = e at *
        rcases hbx' with ⟨rfl, rfl⟩ | ⟨rfl, rfl⟩ | ⟨rfl, rfl⟩
        all_goals as_aux_lemma =>
          go_enter Try.func7, Try.ntmps7
          go_wp2_with fail
          rw [← W0.out]
          clear W0
          refine (HK.out _).mono ?_
          rintro e u1 ⟨rfl, hb⟩
          have Z := Lib.hid (Z.out.on hb)
          have VA := Lib.hid (VA.out.on hb)
          have VB := Lib.hid (VB.out.on hb)
          have B := Lib.hid (B.out.trans (hb.mono B.out.size))
          clear hb  HK
          obtain ⟨p0, p1, p2, p3, p4⟩ := VA.out.box
          go_wp2_with fail
          refine (HA.out _ _ VA.out.at_ Z.out).mono ?_
          rintro e u2 ⟨rfl, hb⟩
          have Z := Lib.hid (Z.out.on hb)
          have VA := Lib.hid (VA.out.on hb)
          have VB := Lib.hid (VB.out.on hb)
          have B := Lib.hid (B.out.trans (hb.mono B.out.size))
          clear hb p0 p1 p2 p3 p4 HA
          obtain ⟨p0, p1, p2, p3, p4⟩ := VA.out.box
          go_wp2_with fail
          refine (HP.out _ _ VA.out.at_).mono ?_
          rintro e u3 ⟨L13, s13, A13, n13, c13, F13, m13, k13, rfl, hd, hb⟩
          have Z := Lib.hid (Z.out.on hb)
          have VA := Lib.hid (VA.out.on hb)
          have VB := Lib.hid (VB.out.on hb)
          have B := Lib.hid (B.out.trans (hb.mono B.out.size))
          clear hb p0 p1 p2 p3 p4 HP
          obtain ⟨x3, hx3, hbn, Vn⟩ := var_new u3 hd.out
          have VP := Lib.hid Vn
          have Z := Lib.hid (Z.out.on hbn)
          have VA := Lib.hid (VA.out.on hbn)
          have VB := Lib.hid (VB.out.on hbn)
          have B := Lib.hid (B.out.trans (hbn.mono B.out.size))
          clear hbn Vn hd
          obtain ⟨p0, p1, p2, p3, p4⟩ := VP.out.box
          rw [hx3] at p1 p2 p3 p4
          have HX := Lib.hid hx3
          clear hx3
          go_wp2_with fail
          rw [← HX.out]
          clear HX
          refine (HX.out _ _ VP.out.at_ Z.out).mono ?_
          rintro e u4 ⟨rfl, hb⟩
          have Z := Lib.hid (Z.out.on hb)
          have VA := Lib.hid (VA.out.on hb)
          have VB := Lib.hid (VB.out.on hb)
          have VP := Lib.hid (VP.out.on hb)
          have B := Lib.hid (B.out.trans (hb.mono B.out.size))
          clear hb p0 p1 p2 p3 p4 HX
          obtain ⟨p0, p1, p2, p3, p4⟩ := VP.out.box
          go_wp2_with fail
          refine (HPP.out _ _ VP.out.at_).mono ?_
          rintro e u5 ⟨L15, s15, A15, n15, c15, F15, m15, k15, rfl, hd, hb⟩
          have Z := Lib.hid (Z.out.on hb)
          have VA := Lib.hid (VA.out.on hb)
          have VB := Lib.hid (VB.out.on hb)
          have VP := Lib.hid (VP.out.on hb)
          have B := Lib.hid (B.out.trans (hb.mono B.out.size))
          clear hb p0 p1 p2 p3 p4 HPP
          obtain ⟨x5, hx5, hbn, Vn⟩ := var_new u5 hd.out
          have VG := Lib.hid Vn
          have Z := Lib.hid (Z.out.on hbn)
          have VA := Lib.hid (VA.out.on hbn)
          have VB := Lib.hid (VB.out.on hbn)
          have VP := Lib.hid (VP.out.on hbn)
          have B := Lib.hid (B.out.trans (hbn.mono B.out.size))
          clear hbn Vn hd
          obtain ⟨p0, p1, p2, p3, p4⟩ := VG.out.box
          rw [hx5] at p1 p2 p3 p4
          obtain ⟨q0, q1, q2, q3, q4⟩ := VP.out.box
          rw [hx5] at q1 q2 q3 q4
          have HX := Lib.hid hx5
          clear hx5
          go_wp2_with fail
          rw [← HX.out]
          clear HX
          refine (HS.out _ _ _ VG.out.at_ VP.out.at_).mono ?_
          rintro e u6 ⟨rfl, hb⟩
          have Z := Lib.hid (Z.out.on hb)
          have VA := Lib.hid (VA.out.on hb)
          have VB := Lib.hid (VB.out.on hb)
          have VP := Lib.hid (VP.out.on hb)
          have VG := Lib.hid (VG.out.on hb)
          have B := Lib.hid (B.out.trans (hb.mono B.out.size))
          clear hb p0 p1 p2 p3 p4 q0 q1 q2 q3 q4 HS
          clear VG VP
          obtain ⟨p0, p1, p2, p3, p4⟩ := VB.out.box
          go_wp2_with fail
          refine (HQ.out _ _ VB.out.at_).mono ?_
          rintro e u7 ⟨L17, s17, A17, n17, c17, F17, m17, k17, rfl, hd, hb⟩
          have Z := Lib.hid (Z.out.on hb)
          have VA := Lib.hid (VA.out.on hb)
          have VB := Lib.hid (VB.out.on hb)
          have B := Lib.hid (B.out.trans (hb.mono B.out.size))
          clear hb p0 p1 p2 p3 p4 HQ
          obtain ⟨x7, hx7, hbn, Vn⟩ := var_new u7 hd.out
          have VQ := Lib.hid Vn
          have Z := Lib.hid (Z.out.on hbn)
          have VA := Lib.hid (VA.out.on hbn)
          have VB := Lib.hid (VB.out.on hbn)
          have B := Lib.hid (B.out.trans (hbn.mono B.out.size))
          clear hbn Vn hd
          obtain ⟨p0, p1, p2, p3, p4⟩ := VA.out.box
          rw [hx7] at p1 p2 p3 p4
          obtain ⟨q0, q1, q2, q3, q4⟩ := VB.out.box
          rw [hx7] at q1 q2 q3 q4
          have HX := Lib.hid hx7
          clear hx7
          go_wp2_with fail
          rw [← HX.out]
          clear HX
          refine (HEi.out _ _ _ VA.out.at_ VB.out.at_).mono ?_
          rintro e u8 ⟨L18, s18, A18, n18, c18, F18, m18, k18, rfl, hd, hb⟩
          have Z := Lib.hid (Z.out.on hb)
          have VA := Lib.hid (VA.out.on hb)
          have VB := Lib.hid (VB.out.on hb)
          have VQ := Lib.hid (VQ.out.on hb)
          have B := Lib.hid (B.out.trans (hb.mono B.out.size))
          clear hb p0 p1 p2 p3 p4 q0 q1 q2 q3 q4 HEi
          obtain ⟨x8, hx8, hbn, Vn⟩ := var_new u8 hd.out
          have VE := Lib.hid Vn
          have Z := Lib.hid (Z.out.on hbn)
          have VA := Lib.hid (VA.out.on hbn)
          have VB := Lib.hid (VB.out.on hbn)
          have VQ := Lib.hid (VQ.out.on hbn)
          have B := Lib.hid (B.out.trans (hbn.mono B.out.size))
          clear hbn Vn hd
          rw [hx8] at B
          clear hx8
          go_wp2
          go_ret
          exact ⟨rfl, B.out⟩
      · have gE := prod_good g2 hf (fun p => finA d0 p.1 || finA d1 p.2)
        have hacc := fun (u : List Int) (hu : Word d0.L u) => prod_acc g2 hf (fun p q => p || q) hu
        have eL : (autOf d0.L (S2 d0 d1) l (fun p => finA d0 p.1 || finA d1 p.2)).L = d0.L := rfl
        have HEi := Lib.hid (fun W v z (h : DfaAt W W.heap.size v d0) (h2 : DfaAt W W.heap.size z d1) => either_gives (E := .nilIface) h h2 (prod_ok g2 hf _) rfl)
        have HQ := Lib.hid (fun W v (h : DfaAt W W.heap.size v d1) => pre_gives (E := .nilIface) h (mkO_ok Gb) rfl)
        generalize autOf d0.L (S2 d0 d1) l (fun p => finA d0 p.1 || finA d1 p.2) = D at *
        have fq : Wo.Fine (preA d1).L z2 := by show Wo.Fine d1.L z2; rw [← g2.eL]; exact fa
        have gr := judge_good (f := preF) gE
        have fr : Wo.Fine (preA D).L z2 := by show Wo.Fine D.L z2; rw [eL]; exact fa
        obtain ⟨y, hy⟩ : ∃ y, accA (preA d1) z2 = y := ⟨_, rfl⟩
        have hz : accA (preA D) z2 = (x || y) := by
          rw [← hx, ← hy]
          exact pre_either Ga Gb gE eL.symm (g2.eL.symm.trans eL.symm) (fun u hu => hacc u (by rw [← eL]; exact hu)) (by rw [eL]; exact fw)
        have HY := Lib.hid (fun W v (h : DfaAt W W.heap.size v (preA d1)) (hZ : IntsAt W W.heap.size A2 z2) => acc_gives (cz := c2) (E := .nilIface) h hZ hr ((accOut_ok gq fq).trans (hy)) (congrArg errV (accErr_ok gq fq)))
        have HR := Lib.hid (fun W v (h : DfaAt W W.heap.size v D) => pre_gives (E := .nilIface) h (mkO_ok gE) rfl)
        have HZ := Lib.hid (fun W v (h : DfaAt W W.heap.size v (preA D)) (hZ : IntsAt W W.heap.size A2 z2) => acc_gives (cz := c2) (E := .nilIface) h hZ hr ((accOut_ok gr fr).trans (hz)) (congrArg errV (accErr_ok gr fr)))
        have hbx' : (b = false ∧ x = false) ∨ (b = false ∧ x = true) ∨ (b = true ∧ x = true) := by rcases b with _ | _ <;> rcases x with _ | _ <;> simp_all
        clear hbx
        clear ga Ga fa fw gp fp hb hx g1 Gb gq hr gE hacc eL fq gr fr hy hz g2 hf HN0 HN1
        generalize preA d0 = P at *
        generalize preA d1 = Q at *
        generalize preA D = PD at *
        rcases hbx' with ⟨rfl, rfl⟩ | ⟨rfl, rfl⟩ | ⟨rfl, rfl⟩ <;> rcases y with _ | _
        all_goals as_aux_lemma =>
          go_enter Try.func7, Try.ntmps7
          go_wp2_with fail
          rw [← W0.out]
          clear W0
          refine (HK.out _).mono ?_
          rintro e u1 ⟨rfl, hb⟩
          have Z := Lib.hid (Z.out.on hb)
          have VA := Lib.hid (VA.out.on hb)
          have VB := Lib.hid (VB.out.on hb)
          have B := Lib.hid (B.out.trans (hb.mono B.out.size))
          clear hb  HK
          obtain ⟨p0, p1, p2, p3, p4⟩ := VA.out.box
          go_wp2_with fail
          refine (HA.out _ _ VA.out.at_ Z.out).mono ?_
          rintro e u2 ⟨rfl, hb⟩
          have Z := Lib.hid (Z.out.on hb)
          have VA := Lib.hid (VA.out.on hb)
          have VB := Lib.hid (VB.out.on hb)
          have B := Lib.hid (B.out.trans (hb.mono B.out.size))
          clear hb p0 p1 p2 p3 p4 HA
          obtain ⟨p0, p1, p2, p3, p4⟩ := VA.out.box
          go_wp2_with fail
          refine (HP.out _ _ VA.out.at_).mono ?_
          rintro e u3 ⟨L13, s13, A13, n13, c13, F13, m13, k13, rfl, hd, hb⟩
          have Z := Lib.hid (Z.out.on hb)
          have VA := Lib.hid (VA.out.on hb)
          have VB := Lib.hid (VB.out.on hb)
          have B := Lib.hid (B.out.trans (hb.mono B.out.size))
          clear hb p0 p1 p2 p3 p4 HP
          obtain ⟨x3, hx3, hbn, Vn⟩ := var_new u3 hd.out
          have VP := Lib.hid Vn
          have Z := Lib.hid (Z.out.on hbn)
          have VA := Lib.hid (VA.out.on hbn)
          have VB := Lib.hid (VB.out.on hbn)
          have B := Lib.hid (B.out.trans (hbn.mono B.out.size))
          clear hbn Vn hd
          obtain ⟨p0, p1, p2, p3, p4⟩ := VP.out.box
          rw [hx3] at p1 p2 p3 p4
          have HX := Lib.hid hx3
          clear hx3
          go_wp2_with fail
          rw [← HX.out]
          clear HX
          refine (HX.out _ _ VP.out.at_ Z.out).mono ?_
          rintro e u4 ⟨rfl, hb⟩
          have Z := Lib.hid (Z.out.on hb)
          have VA := Lib.hid (VA.out.on hb)
          have VB := Lib.hid (VB.out.on hb)
          have VP := Lib.hid (VP.out.on hb)
          have B := Lib.hid (B.out.trans (hb.mono B.out.size))
          clear hb p0 p1 p2 p3 p4 HX
          obtain ⟨p0, p1, p2, p3, p4⟩ := VP.out.box
          go_wp2_with fail
          refine (HPP.out _ _ VP.out.at_).mono ?_
          rintro e u5 ⟨L15, s15, A15, n15, c15, F15, m15, k15, rfl, hd, hb⟩
          have Z := Lib.hid (Z.out.on hb)
          have VA := Lib.hid (VA.out.on hb)
          have VB := Lib.hid (VB.out.on hb)
          have VP := Lib.hid (VP.out.on hb)
          have B := Lib.hid (B.out.trans (hb.mono B.out.size))
          clear hb p0 p1 p2 p3 p4 HPP
          obtain ⟨x5, hx5, hbn, Vn⟩ := var_new u5 hd.out
          have VG := Lib.hid Vn
          have Z := Lib.hid (Z.out.on hbn)
          have VA := Lib.hid (VA.out.on hbn)
          have VB := Lib.hid (VB.out.on hbn)
          have VP := Lib.hid (VP.out.on hbn)
          have B := Lib.hid (B.out.trans (hbn.mono B.out.size))
          clear hbn Vn hd
          obtain ⟨p0, p1, p2, p3, p4⟩ := VG.out.box
          rw [hx5] at p1 p2 p3 p4
          obtain ⟨q0, q1, q2, q3, q4⟩ := VP.out.box
          rw [hx5] at q1 q2 q3 q4
          have HX := Lib.hid hx5
          clear hx5
          go_wp2_with fail
          rw [← HX.out]
          clear HX
          refine (HS.out _ _ _ VG.out.at_ VP.out.at_).mono ?_
          rintro e u6 ⟨rfl, hb⟩
          have Z := Lib.hid (Z.out.on hb)
          have VA := Lib.hid (VA.out.on hb)
          have VB := Lib.hid (VB.out.on hb)
          have VP := Lib.hid (VP.out.on hb)
          have VG := Lib.hid (VG.out.on hb)
          have B := Lib.hid (B.out.trans (hb.mono B.out.size))
          clear hb p0 p1 p2 p3 p4 q0 q1 q2 q3 q4 HS
          clear VG VP
          obtain ⟨p0, p1, p2, p3, p4⟩ := VB.out.box
          go_wp2_with fail
          refine (HQ.out _ _ VB.out.at_).mono ?_
          rintro e u7 ⟨L17, s17, A17, n17, c17, F17, m17, k17, rfl, hd, hb⟩
          have Z := Lib.hid (Z.out.on hb)
          have VA := Lib.hid (VA.out.on hb)
          have VB := Lib.hid (VB.out.on hb)
          have B := Lib.hid (B.out.trans (hb.mono B.out.size))
          clear hb p0 p1 p2 p3 p4 HQ
          obtain ⟨x7, hx7, hbn, Vn⟩ := var_new u7 hd.out
          have VQ := Lib.hid Vn
          have Z := Lib.hid (Z.out.on hbn)
          have VA := Lib.hid (VA.out.on hbn)
          have VB := Lib.hid (VB.out.on hbn)
          have B := Lib.hid (B.out.trans (hbn.mono B.out.size))
          clear hbn Vn hd
          obtain ⟨p0, p1, p2, p3, p4⟩ := VA.out.box
          rw [hx7] at p1 p2 p3 p4
          obtain ⟨q0, q1, q2, q3, q4⟩ := VB.out.box
          rw [hx7] at q1 q2 q3 q4
          have HX := Lib.hid hx7
          clear hx7
          go_wp2_with fail
          rw [← HX.out]
          clear HX
          refine (HEi.out _ _ _ VA.out.at_ VB.out.at_).mono ?_
          rintro e u8 ⟨L18, s18, A18, n18, c18, F18, m18, k18, rfl, hd, hb⟩
          have Z := Lib.hid (Z.out.on hb)
          have VA := Lib.hid (VA.out.on hb)
          have VB := Lib.hid (VB.out.on hb)
          have VQ := Lib.hid (VQ.out.on hb)
          have B := Lib.hid (B.out.trans (hb.mono B.out.size))
          clear hb p0 p1 p2 p3 p4 q0 q1 q2 q3 q4 HEi
          obtain ⟨x8, hx8, hbn, Vn⟩ := var_new u8 hd.out
          have VE := Lib.hid Vn
          have Z := Lib.hid (Z.out.on hbn)
          have VA := Lib.hid (VA.out.on hbn)
          have VB := Lib.hid (VB.out.on hbn)
          have VQ := Lib.hid (VQ.out.on hbn)
          have B := Lib.hid (B.out.trans (hbn.mono B.out.size))
          clear hbn Vn hd
          obtain ⟨p0, p1, p2, p3, p4⟩ := VQ.out.box
          rw [hx8] at p1 p2 p3 p4
          have HX := Lib.hid hx8
          clear hx8
          go_wp2_with fail
          rw [← HX.out]
          clear HX
          refine (HY.out _ _ VQ.out.at_ Z.out).mono ?_
          rintro e u9 ⟨rfl, hb⟩
          have Z := Lib.hid (Z.out.on hb)
          have VA := Lib.hid (VA.out.on hb)
          have VB := Lib.hid (VB.out.on hb)
          have VQ := Lib.hid (VQ.out.on hb)
          have VE := Lib.hid (VE.out.on hb)
          have B := Lib.hid (B.out.trans (hb.mono B.out.size))
          clear hb p0 p1 p2 p3 p4 HY
          obtain ⟨p0, p1, p2, p3, p4⟩ := VE.out.box
          go_wp2_with fail
          refine (HR.out _ _ VE.out.at_).mono ?_
          rintro e u10 ⟨L20, s20, A20, n20, c20, F20, m20, k20, rfl, hd, hb⟩
          have Z := Lib.hid (Z.out.on hb)
          have VA := Lib.hid (VA.out.on hb)
          have VB := Lib.hid (VB.out.on hb)
          have VQ := Lib.hid (VQ.out.on hb)
          have VE := Lib.hid (VE.out.on hb)
          have B := Lib.hid (B.out.trans (hb.mono B.out.size))
          clear hb p0 p1 p2 p3 p4 HR
          obtain ⟨x10, hx10, hbn, Vn⟩ := var_new u10 hd.out
          have VR := Lib.hid Vn
          have Z := Lib.hid (Z.out.on hbn)
          have VA := Lib.hid (VA.out.on hbn)
          have VB := Lib.hid (VB.out.on hbn)
          have VQ := Lib.hid (VQ.out.on hbn)
          have VE := Lib.hid (VE.out.on hbn)
          have B := Lib.hid (B.out.trans (hbn.mono B.out.size))
          clear hbn Vn hd
          obtain ⟨p0, p1, p2, p3, p4⟩ := VR.out.box
          rw [hx10] at p1 p2 p3 p4
          have HX := Lib.hid hx10
          clear hx10
          go_wp2_with fail
          rw [← HX.out]
          clear HX
          refine (HZ.out _ _ VR.out.at_ Z.out).mono ?_
          rintro e u11 ⟨rfl, hb⟩
          have Z := Lib.hid (Z.out.on hb)
          have VA := Lib.hid (VA.out.on hb)
          have VB := Lib.hid (VB.out.on hb)
          have VQ := Lib.hid (VQ.out.on hb)
          have VE := Lib.hid (VE.out.on hb)
          have VR := Lib.hid (VR.out.on hb)
          have B := Lib.hid (B.out.trans (hb.mono B.out.size))
          clear hb p0 p1 p2 p3 p4 HZ
          go_wp2
          go_ret
          exact ⟨rfl, B.out⟩
    · obtain ⟨E, hE⟩ := errV_bad g1
      have HQ := Lib.hid (fun W v (h : DfaAt W W.heap.size v d1) => pre_gives h (mkO_bad (K := preA) g1) hE)
      obtain ⟨k, hp⟩ := prod_err (a := d0) (b := d1) (chkD2_bad_b g1)
      have HEi := Lib.hid (fun W v z (h : DfaAt W W.heap.size v d0) (h2 : DfaAt W W.heap.size z d1) => either_gives (E := errI ((k + 1 : Nat) : Int)) h h2 (hp _) rfl)
      have hbx' : (b = false ∧ x = false) ∨ (b = false ∧ x = true) ∨ (b = true ∧ x = true) := by rcases b with _ | _ <;> rcases x with _ | _ <;> simp_all
      clear hbx
      clear ga Ga fa fw gp fp hb hx hp g1 hE hr HN0 HN1
      generalize preA d0 = P at *
      generalize ((k + 1 : Nat) : Int) = e at *
      rcases hbx' with ⟨rfl, rfl⟩ | ⟨rfl, rfl⟩ | ⟨rfl, rfl⟩
      all_goals as_aux_lemma =>
        go_enter Try.func7, Try.ntmps7
        go_wp2_with fail
        rw [← W0.out]
        clear W0
        refine (HK.out _).mono ?_
        rintro e u1 ⟨rfl, hb⟩
        have Z := Lib.hid (Z.out.on hb)
        have VA := Lib.hid (VA.out.on hb)
        have VB := Lib.hid (VB.out.on hb)
        have B := Lib.hid (B.out.trans (hb.mono B.out.size))
        clear hb  HK
        obtain ⟨p0, p1, p2, p3, p4⟩ := VA.out.box
        go_wp2_with fail
        refine (HA.out _ _ VA.out.at_ Z.out).mono ?_
        rintro e u2 ⟨rfl, hb⟩
        have Z := Lib.hid (Z.out.on hb)
        have VA := Lib.hid (VA.out.on hb)
        have VB := Lib.hid (VB.out.on hb)
        have B := Lib.hid (B.out.trans (hb.mono B.out.size))
        clear hb p0 p1 p2 p3 p4 HA
        obtain ⟨p0, p1, p2, p3, p4⟩ := VA.out.box
        go_wp2_with fail
        refine (HP.out _ _ VA.out.at_).mono ?_
        rintro e u3 ⟨L13, s13, A13, n13, c13, F13, m13, k13, rfl, hd, hb⟩
        have Z := Lib.hid (Z.out.on hb)
        have VA := Lib.hid (VA.out.on hb)
        have VB := Lib.hid (VB.out.on hb)
        have B := Lib.hid (B.out.trans (hb.mono B.out.size))
        clear hb p0 p1 p2 p3 p4 HP
        obtain ⟨x3, hx3, hbn, Vn⟩ := var_new u3 hd.out
        have VP := Lib.hid Vn
        have Z := Lib.hid (Z.out.on hbn)
        have VA := Lib.hid (VA.out.on hbn)
        have VB := Lib.hid (VB.out.on hbn)
        have B := Lib.hid (B.out.trans (hbn.mono B.out.size))
        clear hbn Vn hd
        obtain ⟨p0, p1, p2, p3, p4⟩ := VP.out.box
        rw [hx3] at p1 p2 p3 p4
        have HX := Lib.hid hx3
        clear hx3
        go_wp2_with fail
        rw [← HX.out]
        clear HX
        refine (HX.out _ _ VP.out.at_ Z.out).mono ?_
        rintro e u4 ⟨rfl, hb⟩
        have Z := Lib.hid (Z.out.on hb)
        have VA := Lib.hid (VA.out.on hb)
        have VB := Lib.hid (VB.out.on hb)
        have VP := Lib.hid (VP.out.on hb)
        have B := Lib.hid (B.out.trans (hb.mono B.out.size))
        clear hb p0 p1 p2 p3 p4 HX
        obtain ⟨p0, p1, p2, p3, p4⟩ := VP.out.box
        go_wp2_with fail
        refine (HPP.out _ _ VP.out.at_).mono ?_
        rintro e u5 ⟨L15, s15, A15, n15, c15, F15, m15, k15, rfl, hd, hb⟩
        have Z := Lib.hid (Z.out.on hb)
        have VA := Lib.hid (VA.out.on hb)
        have VB := Lib.hid (VB.out.on hb)
        have VP := Lib.hid (VP.out.on hb)
        have B := Lib.hid (B.out.trans (hb.mono B.out.size))
        clear hb p0 p1 p2 p3 p4 HPP
        obtain ⟨x5, hx5, hbn, Vn⟩ := var_new u5 hd.out
        have VG := Lib.hid Vn
        have Z := Lib.hid (Z.out.on hbn)
        have VA := Lib.hid (VA.out.on hbn)
        have VB := Lib.hid (VB.out.on hbn)
        have VP := Lib.hid (VP.out.on hbn)
        have B := Lib.hid (B.out.trans (hbn.mono B.out.size))
        clear hbn Vn hd
        obtain ⟨p0, p1, p2, p3, p4⟩ := VG.out.box
        rw [hx5] at p1 p2 p3 p4
        obtain ⟨q0, q1, q2, q3, q4⟩ := VP.out.box
        rw [hx5] at q1 q2 q3 q4
        have HX := Lib.hid hx5
        clear hx5
        go_wp2_with fail
        rw [← HX.out]
        clear HX
        refine (HS.out _ _ _ VG.out.at_ VP.out.at_).mono ?_
        rintro e u6 ⟨rfl, hb⟩
        have Z := Lib.hid (Z.out.on hb)
        have VA := Lib.hid (VA.out.on hb)
        have VB := Lib.hid (VB.out.on hb)
        have VP := Lib.hid (VP.out.on hb)
        have VG := Lib.hid (VG.out.on hb)
        have B := Lib.hid (B.out.trans (hb.mono B.out.size))
        clear hb p0 p1 p2 p3 p4 q0 q1 q2 q3 q4 HS
        clear VG VP
        obtain ⟨p0, p1, p2, p3, p4⟩ := VB.out.box
        go_wp2_with fail
        refine (HQ.out _ _ VB.out.at_).mono ?_
        rintro e u7 ⟨L17, s17, A17, n17, c17, F17, m17, k17, rfl, hd, hb⟩
        have Z := Lib.hid (Z.out.on hb)
        have VA := Lib.hid (VA.out.on hb)
        have VB := Lib.hid (VB.out.on hb)
        have B := Lib.hid (B.out.trans (hb.mono B.out.size))
        clear hb p0 p1 p2 p3 p4 HQ
        obtain ⟨x7, hx7, hbn, Vn⟩ := var_new u7 hd.out
        have VQ := Lib.hid Vn
        have Z := Lib.hid (Z.out.on hbn)
        have VA := Lib.hid (VA.out.on hbn)
        have VB := Lib.hid (VB.out.on hbn)
        have B := Lib.hid (B.out.trans (hbn.mono B.out.size))
        clear hbn Vn hd
        obtain ⟨p0, p1, p2, p3, p4⟩ := VA.out.box
        rw [hx7] at p1 p2 p3 p4
        obtain ⟨q0, q1, q2, q3, q4⟩ := VB.out.box
        rw [hx7] at q1 q2 q3 q4
        have HX := Lib.hid hx7
        clear hx7
        go_wp2_with fail
        rw [← HX.out]
        clear HX
        refine (HEi.out _ _ _ VA.out.at_ VB.out.at_).mono ?_
        rintro e u8 ⟨L18, s18, A18, n18, c18, F18, m18, k18, rfl, hd, hb⟩
        have Z := Lib.hid (Z.out.on hb)
        have VA := Lib.hid (VA.out.on hb)
        have VB := Lib.hid (VB.out.on hb)
        have VQ := Lib.hid (VQ.out.on hb)
        have B := Lib.hid (B.out.trans (hb.mono B.out.size))
        clear hb p0 p1 p2 p3 p4 q0 q1 q2 q3 q4 HEi
        obtain ⟨x8, hx8, hbn, Vn⟩ := var_new u8 hd.out
        have VE := Lib.hid Vn
        have Z := Lib.hid (Z.out.on hbn)
        have VA := Lib.hid (VA.out.on hbn)
        have VB := Lib.hid (VB.out.on hbn)
        have VQ := Lib.hid (VQ.out.on hbn)
        have B := Lib.hid (B.out.trans (hbn.mono B.out.size))
        clear hbn Vn hd
        rw [hx8] at B
        clear hx8
        go_wp2
        go_ret
        exact ⟨rfl, B.out⟩
  · obtain ⟨E, hE⟩ := errV_bad ga
    have HA := Lib.hid (fun W v (h : DfaAt W W.heap.size v d0) (hZ : IntsAt W W.heap.size A2 z2) => acc_gives (cz := c2) h hZ hr (b := accOut d0 z2) rfl hE)
    clear ga hE hr
    generalize accOut d0 z2 = b at *
    go_enter Try.func7, Try.ntmps7
    go_wp2_with fail
    rw [← W0.out]
    clear W0
    refine (HK.out _).mono ?_
    rintro e u1 ⟨rfl, hb⟩
    have Z := Lib.hid (Z.out.on hb)
    have VA := Lib.hid (VA.out.on hb)
    have VB := Lib.hid (VB.out.on hb)
    have B := Lib.hid (B.out.trans (hb.mono B.out.size))
    clear hb  HK
    obtain ⟨p0, p1, p2, p3, p4⟩ := VA.out.box
    go_wp2_with fail
    refine (HA.out _ _ VA.out.at_ Z.out).mono ?_
    rintro e u2 ⟨rfl, hb⟩
    have Z := Lib.hid (Z.out.on hb)
    have VA := Lib.hid (VA.out.on hb)
    have VB := Lib.hid (VB.out.on hb)
    have B := Lib.hid (B.out.trans (hb.mono B.out.size))
    clear hb p0 p1 p2 p3 p4 HA
    go_wp2
    go_ret
    exact ⟨rfl, B.out⟩


set_option maxRecDepth 100000 in
theorem lifted (os : Os) (started : os.Started) (H : Type) (enc : TypeId × Value → H) :
    ReturnsInHanded {} Try.checked os 7 .any (Rows.safeClosesSpec.pre6 enc Try.prog Try.f7 Rows.safeClosesRow.domain false) (Rows.safeClosesSpec.post enc Try.prog Try.f7 false true false false) := by
  refine returnsInHanded_of_change_sized (C := Try.checked) own started (by kernel_rfl) Try.func7
    (ChangeSpec.witness6 (enc := enc) (C := Try.checked) false ⟨#[], #[.agg #[.int .i64 0, .int .i64 0, .slice none 0 0, .slice none 0 0], .agg #[.int .i64 0, .int .i64 0, .slice none 0 0, .slice none 0 0], .slice none 0 0], []⟩ 8 (by kernel_rfl) (by kernel_rfl) (by kernel_rfl) (by kernel_rfl)) ?_
  intro W base args ds gs before hval0 hW hcnd hsz0 _
  have hval : ∀ (j : Nat) t v, Try.f7.params[j]? = some t → args[j]? = some v → Value.okWide Try.prog W .any base t v := hval0
  have hsz : (DataW.weightsEach Try.prog (Try.f7.params.toList ++ Rows.safeClosesSpec.plain.varTypes Try.prog) (ds ++ gs)).all (· ≤ reachBytes) = true := hsz0
  have hW' := hW
  obtain ⟨p, q, hA0, hV0, rfl, hfz, hnd⟩ := hW
  have hV : DataW.TrodVars enc Try.prog W (fun _ => true) [] gs q := hV0
  have hA : DataW.TrodAll enc Try.prog W 0 (fun _ => true) true Try.f7.params.toList args.toList ds p := hA0
  rw [Try.params7] at hA hval hsz
  obtain ⟨v0, vs0, d0, ds0, p0, q0, hargs, rfl, rfl, h0, rr0⟩ := trodAll_cons hA
  obtain ⟨v1, vs1, d1, ds1, p1, q1, rfl, rfl, rfl, h1, rr1⟩ := trodAll_cons rr0
  obtain ⟨v2, vs2, d2, ds2, p2, q2, rfl, rfl, rfl, h2, rr2⟩ := trodAll_cons rr1
  obtain ⟨rfl, rfl, rfl⟩ := trodAll_nil rr2
  obtain rfl : args = #[v0, v1, v2] := by cases args; simp_all
  obtain ⟨rfl, rfl⟩ := trodVars_none hV
  have k0 := h0
  have lt0 : ∀ x ∈ p0, x.block < W.heap.size := by obtain ⟨m, hm⟩ := k0; exact DataW.trod_lt m _ _ _ hm
  have k1 := h1
  have lt1 : ∀ x ∈ p1, x.block < W.heap.size := by obtain ⟨m, hm⟩ := k1; exact DataW.trod_lt m _ _ _ hm
  have k2 := h2
  have lt2 : ∀ x ∈ p2, x.block < W.heap.size := by obtain ⟨m, hm⟩ := k2; exact DataW.trod_lt m _ _ _ hm
  obtain ⟨D0, x0⟩ : ∃ d : Df.Aut, Df.DfaAt W W.heap.size v0 d := Df.dfa_open (hval 0 25 v0 rfl rfl) h0
  obtain ⟨D1, x1⟩ : ∃ d : Df.Aut, Df.DfaAt W W.heap.size v1 d := Df.dfa_open (hval 1 25 v1 rfl rfl) h1
  obtain ⟨A2, len2, c2, rfl⟩ := okWide_slice Try.underlying26 (hval 2 26 v2 rfl rfl)
  obtain ⟨z2, rfl, x2, r2, m2⟩ : ∃ zs : List Int, len2 = zs.length ∧ IntsAt W W.heap.size A2 zs ∧ zs.length ≤ 17592186043904 ∧ zs.length ≤ c2 := by
    obtain ⟨fuel, hf⟩ := h2
    rcases open_ints Try.underlying26 Try.underlying3 (by kernel_rfl) hf with ⟨hcs, _⟩ | ⟨x, l, c, zs, hcs, _, hl, hm, hz, hx, hcell, hwz⟩
    · simp [Value.cells] at hcs
      obtain ⟨rfl, rfl, rfl⟩ := hcs
      exact ⟨[], rfl, IntsAt.nil _ _ _, by simp, by simp⟩
    · simp [Value.cells] at hcs
      obtain ⟨rfl, rfl, rfl⟩ := hcs
      have hd := congrArg Prod.fst hx
      simp only at hd
      have := sized_slice hsz (j := 2) (t := 26) (e := 3) rfl (by rw [hd]; rfl) Try.underlying26
      rw [(show Try.prog.bytesOf 3 = 8 by kernel_rfl)] at this
      simp only [reachBytes, lits, List.length_map, List.length_take, List.length_drop] at this
      have hz' : zs.length = c2 := by simpa using hz
      exact ⟨zs.take len2, by rw [List.length_take]; omega, intsAt_of_open hcell hwz len2, by rw [List.length_take]; omega, by rw [List.length_take]; omega⟩
  clear hA0 hval0
  refine (walk v0 D0 v1 D1 A2 c2 z2 W x0 x1 x2 r2 m2).mono fun e W' ⟨he, bel⟩ => ?_
  subst he
  exact ⟨_, rfl, _, _, _, [], _, [], hW', trodAll_mk1 (shut_bool Try.underlying4 _), (trodAll_cons_mk (Below.trod laidOut (by kernel_rfl) (of_decide_eq_true (by kernel_rfl)) k0 bel lt0) (trodAll_cons_mk (Below.trod laidOut (by kernel_rfl) (of_decide_eq_true (by kernel_rfl)) k1 bel lt1) (trodAll_cons_mk (Below.trod laidOut (by kernel_rfl) (of_decide_eq_true (by kernel_rfl)) k2 bel lt2) trodAll_mk0))), rfl, bel.frame _, fun h => by cases h⟩

theorem over : Rows.safeClosesRow.holds Try.pinned (OpenSpec.ofChange Rows.safeClosesSpec) :=
  OpenClaim.holds_of_wide 7 Try.f7 rfl rfl rfl rfl rfl rfl rfl ⟨rfl, rfl, rfl, rfl, rfl⟩ rfl rfl rfl rfl rfl (by kernel_rfl) Try.func7 (by kernel_rfl)
    (of_decide_eq_true (by kernel_rfl)) (by unfold Func.isWrapper; rw [if_neg (of_decide_eq_false (by kernel_rfl))]; exact ⟨rfl, rfl⟩)
    (fun os started H enc _ => lifted os started H enc)
theorem proved : Rows.SafeClosesSaid := over
#print axioms proved
end Go.Proofs.Ytloihkoamccacaa.safeCloses
