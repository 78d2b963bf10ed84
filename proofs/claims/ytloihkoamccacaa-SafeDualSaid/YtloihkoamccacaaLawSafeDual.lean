/-
  The statement SafeDualSaid of this seat, proved: for every input the law returns true and its arguments read behind the call as before. Conditions: none but the row's own (each argument within the reach).
-/
import Derived.Test.YtloihkoamccacaaRows
import Derived.Test.YtloihkoamccacaaWords
import Derived.WalkKit
import Derived.ProofKit
import Derived.OpenShut
import Derived.ShutString
import Derived.ChangeOld
import Derived.Below
import Derived.SizedLaws
import Derived.Lib.Hide
import Derived.Test.YtloihkoamccacaaSafeL
import Derived.Test.YtloihkoamccacaaFew
namespace Go.Proofs.Ytloihkoamccacaa.safeDual
open Go.ChangeShapes Go.WideShapes Go.ChangeAt Go.RowKit Go.IntWalk Go.Proofs.Ytloihkoamccacaa.Wd
open Go.ChangeMaps (open_string shut_string)
set_option linter.unusedVariables false

theorem own : ownKnob Try.prog.godebug = none := by kernel_rfl
theorem laidOut : laidOutB Try.prog = true := by kernel_rfl
open Go.Proofs.Ytloihkoamccacaa.Wo Go.Proofs.Ytloihkoamccacaa.Df Go.Proofs.Ytloihkoamccacaa.Rc Go.Proofs.Ytloihkoamccacaa.Sm Go.Proofs.Ytloihkoamccacaa.Mp Go.Proofs.Ytloihkoamccacaa.Sa

set_option maxRecDepth 100000 in
set_option maxHeartbeats 4000000 in
theorem walk (v0 : Value) (d0 : Df.Aut) (A1 : Option Addr) (c1 : Nat) (z1 : List Int) (w : World) (h0 : Df.DfaAt w w.heap.size v0 d0) (v1 : IntsAt w w.heap.size A1 z1) (r1 : z1.length ≤ 17592186043904) (m1 : z1.length ≤ c1) :
    Calls Try.prog 10 #[v0, .slice A1 z1.length c1] w fun e w' => e = .returned (.bool true) ∧ Below w.heap.size w w' := by
  have hr : z1.length ≤ 17592186044416 := by omega
  obtain ⟨L0, s0, A0, n0, c0, F0, m0, k0, rfl⟩ := h0.form
  have hN0 := h0.eqs.2.2.1
  obtain ⟨u0, hu0, hb0, VA0⟩ := var_new w h0
  have VA := Lib.hid VA0
  have B := Lib.hid hb0
  have W0 := Lib.hid hu0
  have HN0 := Lib.hid hN0
  have Z := Lib.hid (v1.on hb0)
  clear VA0 hb0 hu0 h0 hN0 v1
  clear m1 r1
  have HK := Lib.hid Sa.known_any
  by_cases g1 : dchk d0 = 0
  · have Ga := dchk_iff.1 g1
    have gn := notA_good Ga
    have gs := stop_good (b := false) Ga
    have ge := stop_good (b := true) Ga
    have gm := notA_good gs
    have HNt := Lib.hid (fun W v (h : DfaAt W W.heap.size v d0) => not_gives (E := .nilIface) h (notOut_ok Ga) rfl)
    have HAl := Lib.hid (fun W v (h : DfaAt W W.heap.size v d0) => always_gives (E := .nilIface) h (mkO_ok Ga) rfl)
    have HX := Lib.hid (fun W v (h : DfaAt W W.heap.size v (stopA false d0)) => not_gives (E := .nilIface) h (notOut_ok gs) rfl)
    have HY := Lib.hid (fun W v (h : DfaAt W W.heap.size v (notA d0)) => ever_gives (E := .nilIface) h (r := notA (stopA false d0)) ((mkO_ok gn).trans (by rw [not_always Ga])) rfl)
    have HEv := Lib.hid (fun W v (h : DfaAt W W.heap.size v d0) => ever_gives (E := .nilIface) h (mkO_ok Ga) rfl)
    have HS := Lib.hid (fun W v z (h : DfaAt W W.heap.size v (notA (stopA false d0))) (h2 : DfaAt W W.heap.size z (notA (stopA false d0))) => same_gives h h2 gm.lite rfl)
    by_cases ga : accErr d0 z1 = 0
    · obtain ⟨_, fa⟩ := accErr_good ga
      have fw := fine_word fa
      have fs : Wo.Fine (stopA false d0).L z1 := fa
      have fe : Wo.Fine (stopA true d0).L z1 := fa
      obtain ⟨p, hp⟩ : ∃ p, accA (stopA false d0) z1 = p := ⟨_, rfl⟩
      obtain ⟨q, hq⟩ : ∃ q, accA (stopA true d0) z1 = q := ⟨_, rfl⟩
      have hpq : (p = false ∧ q = false) ∨ (p = false ∧ q = true) ∨ (p = true ∧ q = true) := by
        have h : p = true → q = true := fun h => by rw [← hq]; exact always_ever Ga fw (hp.trans h)
        rcases p with _ | _ <;> rcases q with _ | _ <;> simp_all
      have HP := Lib.hid (fun W v (h : DfaAt W W.heap.size v (stopA false d0)) (hZ : IntsAt W W.heap.size A1 z1) => acc_gives (cz := c1) (E := .nilIface) h hZ hr ((accOut_ok gs fs).trans (hp)) (congrArg errV (accErr_ok gs fs)))
      have HQ := Lib.hid (fun W v (h : DfaAt W W.heap.size v (stopA true d0)) (hZ : IntsAt W W.heap.size A1 z1) => acc_gives (cz := c1) (E := .nilIface) h hZ hr ((accOut_ok ge fe).trans (hq)) (congrArg errV (accErr_ok ge fe)))
      clear g1 Ga gn gs ge gm ga fa fw fs fe hp hq hr HN0
      generalize notA (stopA false d0) = NS at *
      generalize stopA false d0 = AL at *
      generalize stopA true d0 = EV at *
      generalize notA d0 = N at *
      rcases hpq with ⟨rfl, rfl⟩ | ⟨rfl, rfl⟩ | ⟨rfl, rfl⟩
      all_goals as_aux_lemma =>
        go_enter Try.func10, Try.ntmps10
        go_wp2_with fail
        rw [← W0.out]
        clear W0
        refine (HK.out _).mono ?_
        rintro e u1 ⟨rfl, hb⟩
        have Z := Lib.hid (Z.out.on hb)
        have VA := Lib.hid (VA.out.on hb)
        have B := Lib.hid (B.out.trans (hb.mono B.out.size))
        clear hb  HK
        obtain ⟨p0, p1, p2, p3, p4⟩ := VA.out.box
        go_wp2_with fail
        refine (HNt.out _ _ VA.out.at_).mono ?_
        rintro e u2 ⟨L12, s12, A12, n12, c12, F12, m12, k12, rfl, hd, hb⟩
        have Z := Lib.hid (Z.out.on hb)
        have VA := Lib.hid (VA.out.on hb)
        have B := Lib.hid (B.out.trans (hb.mono B.out.size))
        clear hb p0 p1 p2 p3 p4 HNt
        obtain ⟨x2, hx2, hbn, Vn⟩ := var_new u2 hd.out
        have VN := Lib.hid Vn
        have Z := Lib.hid (Z.out.on hbn)
        have VA := Lib.hid (VA.out.on hbn)
        have B := Lib.hid (B.out.trans (hbn.mono B.out.size))
        clear hbn Vn hd
        obtain ⟨p0, p1, p2, p3, p4⟩ := VA.out.box
        rw [hx2] at p1 p2 p3 p4
        have HX := Lib.hid hx2
        clear hx2
        go_wp2_with fail
        rw [← HX.out]
        clear HX
        refine (HAl.out _ _ VA.out.at_).mono ?_
        rintro e u3 ⟨L13, s13, A13, n13, c13, F13, m13, k13, rfl, hd, hb⟩
        have Z := Lib.hid (Z.out.on hb)
        have VA := Lib.hid (VA.out.on hb)
        have VN := Lib.hid (VN.out.on hb)
        have B := Lib.hid (B.out.trans (hb.mono B.out.size))
        clear hb p0 p1 p2 p3 p4 HAl
        obtain ⟨x3, hx3, hbn, Vn⟩ := var_new u3 hd.out
        have VL := Lib.hid Vn
        have Z := Lib.hid (Z.out.on hbn)
        have VA := Lib.hid (VA.out.on hbn)
        have VN := Lib.hid (VN.out.on hbn)
        have B := Lib.hid (B.out.trans (hbn.mono B.out.size))
        clear hbn Vn hd
        obtain ⟨p0, p1, p2, p3, p4⟩ := VL.out.box
        rw [hx3] at p1 p2 p3 p4
        have HX := Lib.hid hx3
        clear hx3
        go_wp2_with fail
        rw [← HX.out]
        clear HX
        refine (HX.out _ _ VL.out.at_).mono ?_
        rintro e u4 ⟨L14, s14, A14, n14, c14, F14, m14, k14, rfl, hd, hb⟩
        have Z := Lib.hid (Z.out.on hb)
        have VA := Lib.hid (VA.out.on hb)
        have VN := Lib.hid (VN.out.on hb)
        have VL := Lib.hid (VL.out.on hb)
        have B := Lib.hid (B.out.trans (hb.mono B.out.size))
        clear hb p0 p1 p2 p3 p4 HX
        obtain ⟨x4, hx4, hbn, Vn⟩ := var_new u4 hd.out
        have VX := Lib.hid Vn
        have Z := Lib.hid (Z.out.on hbn)
        have VA := Lib.hid (VA.out.on hbn)
        have VN := Lib.hid (VN.out.on hbn)
        have VL := Lib.hid (VL.out.on hbn)
        have B := Lib.hid (B.out.trans (hbn.mono B.out.size))
        clear hbn Vn hd
        obtain ⟨p0, p1, p2, p3, p4⟩ := VN.out.box
        rw [hx4] at p1 p2 p3 p4
        have HX := Lib.hid hx4
        clear hx4
        go_wp2_with fail
        rw [← HX.out]
        clear HX
        refine (HY.out _ _ VN.out.at_).mono ?_
        rintro e u5 ⟨L15, s15, A15, n15, c15, F15, m15, k15, rfl, hd, hb⟩
        have Z := Lib.hid (Z.out.on hb)
        have VA := Lib.hid (VA.out.on hb)
        have VN := Lib.hid (VN.out.on hb)
        have VL := Lib.hid (VL.out.on hb)
        have VX := Lib.hid (VX.out.on hb)
        have B := Lib.hid (B.out.trans (hb.mono B.out.size))
        clear hb p0 p1 p2 p3 p4 HY
        obtain ⟨x5, hx5, hbn, Vn⟩ := var_new u5 hd.out
        have VY := Lib.hid Vn
        have Z := Lib.hid (Z.out.on hbn)
        have VA := Lib.hid (VA.out.on hbn)
        have VN := Lib.hid (VN.out.on hbn)
        have VL := Lib.hid (VL.out.on hbn)
        have VX := Lib.hid (VX.out.on hbn)
        have B := Lib.hid (B.out.trans (hbn.mono B.out.size))
        clear hbn Vn hd
        obtain ⟨p0, p1, p2, p3, p4⟩ := VA.out.box
        rw [hx5] at p1 p2 p3 p4
        have HX := Lib.hid hx5
        clear hx5
        go_wp2_with fail
        rw [← HX.out]
        clear HX
        refine (HEv.out _ _ VA.out.at_).mono ?_
        rintro e u6 ⟨L16, s16, A16, n16, c16, F16, m16, k16, rfl, hd, hb⟩
        have Z := Lib.hid (Z.out.on hb)
        have VA := Lib.hid (VA.out.on hb)
        have VN := Lib.hid (VN.out.on hb)
        have VL := Lib.hid (VL.out.on hb)
        have VX := Lib.hid (VX.out.on hb)
        have VY := Lib.hid (VY.out.on hb)
        have B := Lib.hid (B.out.trans (hb.mono B.out.size))
        clear hb p0 p1 p2 p3 p4 HEv
        obtain ⟨x6, hx6, hbn, Vn⟩ := var_new u6 hd.out
        have VE := Lib.hid Vn
        have Z := Lib.hid (Z.out.on hbn)
        have VA := Lib.hid (VA.out.on hbn)
        have VN := Lib.hid (VN.out.on hbn)
        have VL := Lib.hid (VL.out.on hbn)
        have VX := Lib.hid (VX.out.on hbn)
        have VY := Lib.hid (VY.out.on hbn)
        have B := Lib.hid (B.out.trans (hbn.mono B.out.size))
        clear hbn Vn hd
        obtain ⟨p0, p1, p2, p3, p4⟩ := VX.out.box
        rw [hx6] at p1 p2 p3 p4
        obtain ⟨q0, q1, q2, q3, q4⟩ := VY.out.box
        rw [hx6] at q1 q2 q3 q4
        have HX := Lib.hid hx6
        clear hx6
        go_wp2_with fail
        rw [← HX.out]
        clear HX
        refine (HS.out _ _ _ VX.out.at_ VY.out.at_).mono ?_
        rintro e u7 ⟨rfl, hb⟩
        have Z := Lib.hid (Z.out.on hb)
        have VA := Lib.hid (VA.out.on hb)
        have VN := Lib.hid (VN.out.on hb)
        have VL := Lib.hid (VL.out.on hb)
        have VX := Lib.hid (VX.out.on hb)
        have VY := Lib.hid (VY.out.on hb)
        have VE := Lib.hid (VE.out.on hb)
        have B := Lib.hid (B.out.trans (hb.mono B.out.size))
        clear hb p0 p1 p2 p3 p4 q0 q1 q2 q3 q4 HS
        obtain ⟨p0, p1, p2, p3, p4⟩ := VL.out.box
        go_wp2_with fail
        refine (HP.out _ _ VL.out.at_ Z.out).mono ?_
        rintro e u8 ⟨rfl, hb⟩
        have Z := Lib.hid (Z.out.on hb)
        have VA := Lib.hid (VA.out.on hb)
        have VN := Lib.hid (VN.out.on hb)
        have VL := Lib.hid (VL.out.on hb)
        have VX := Lib.hid (VX.out.on hb)
        have VY := Lib.hid (VY.out.on hb)
        have VE := Lib.hid (VE.out.on hb)
        have B := Lib.hid (B.out.trans (hb.mono B.out.size))
        clear hb p0 p1 p2 p3 p4 HP
        obtain ⟨p0, p1, p2, p3, p4⟩ := VE.out.box
        go_wp2_with fail
        refine (HQ.out _ _ VE.out.at_ Z.out).mono ?_
        rintro e u9 ⟨rfl, hb⟩
        have Z := Lib.hid (Z.out.on hb)
        have VA := Lib.hid (VA.out.on hb)
        have VN := Lib.hid (VN.out.on hb)
        have VL := Lib.hid (VL.out.on hb)
        have VX := Lib.hid (VX.out.on hb)
        have VY := Lib.hid (VY.out.on hb)
        have VE := Lib.hid (VE.out.on hb)
        have B := Lib.hid (B.out.trans (hb.mono B.out.size))
        clear hb p0 p1 p2 p3 p4 HQ
        go_wp2
        go_ret
        exact ⟨rfl, B.out⟩
    · obtain ⟨E, hE⟩ := errV_bad ga
      have hs : accErr (stopA false d0) z1 = accErr d0 z1 := by unfold accErr; rw [if_neg (by have := dchk_iff.2 gs; omega), if_neg (by omega)]; rfl
      have he : accErr (stopA true d0) z1 = accErr d0 z1 := by unfold accErr; rw [if_neg (by have := dchk_iff.2 ge; omega), if_neg (by omega)]; rfl
      have HP := Lib.hid (fun W v (h : DfaAt W W.heap.size v (stopA false d0)) (hZ : IntsAt W W.heap.size A1 z1) => acc_gives (cz := c1) h hZ hr (b := accOut (stopA false d0) z1) rfl ((congrArg errV hs).trans hE))
      have HQ := Lib.hid (fun W v (h : DfaAt W W.heap.size v (stopA true d0)) (hZ : IntsAt W W.heap.size A1 z1) => acc_gives (cz := c1) h hZ hr (b := accOut (stopA true d0) z1) rfl ((congrArg errV he).trans hE))
      clear g1 Ga gn gs ge gm ga hs he hE hr HN0
      generalize accOut (stopA false d0) z1 = p at *
      generalize accOut (stopA true d0) z1 = q at *
      generalize notA (stopA false d0) = NS at *
      generalize stopA false d0 = AL at *
      generalize stopA true d0 = EV at *
      generalize notA d0 = N at *
      go_enter Try.func10, Try.ntmps10
      go_wp2_with fail
      rw [← W0.out]
      clear W0
      refine (HK.out _).mono ?_
      rintro e u1 ⟨rfl, hb⟩
      have Z := Lib.hid (Z.out.on hb)
      have VA := Lib.hid (VA.out.on hb)
      have B := Lib.hid (B.out.trans (hb.mono B.out.size))
      clear hb  HK
      obtain ⟨p0, p1, p2, p3, p4⟩ := VA.out.box
      go_wp2_with fail
      refine (HNt.out _ _ VA.out.at_).mono ?_
      rintro e u2 ⟨L12, s12, A12, n12, c12, F12, m12, k12, rfl, hd, hb⟩
      have Z := Lib.hid (Z.out.on hb)
      have VA := Lib.hid (VA.out.on hb)
      have B := Lib.hid (B.out.trans (hb.mono B.out.size))
      clear hb p0 p1 p2 p3 p4 HNt
      obtain ⟨x2, hx2, hbn, Vn⟩ := var_new u2 hd.out
      have VN := Lib.hid Vn
      have Z := Lib.hid (Z.out.on hbn)
      have VA := Lib.hid (VA.out.on hbn)
      have B := Lib.hid (B.out.trans (hbn.mono B.out.size))
      clear hbn Vn hd
      obtain ⟨p0, p1, p2, p3, p4⟩ := VA.out.box
      rw [hx2] at p1 p2 p3 p4
      have HX := Lib.hid hx2
      clear hx2
      go_wp2_with fail
      rw [← HX.out]
      clear HX
      refine (HAl.out _ _ VA.out.at_).mono ?_
      rintro e u3 ⟨L13, s13, A13, n13, c13, F13, m13, k13, rfl, hd, hb⟩
      have Z := Lib.hid (Z.out.on hb)
      have VA := Lib.hid (VA.out.on hb)
      have VN := Lib.hid (VN.out.on hb)
      have B := Lib.hid (B.out.trans (hb.mono B.out.size))
      clear hb p0 p1 p2 p3 p4 HAl
      obtain ⟨x3, hx3, hbn, Vn⟩ := var_new u3 hd.out
      have VL := Lib.hid Vn
      have Z := Lib.hid (Z.out.on hbn)
      have VA := Lib.hid (VA.out.on hbn)
      have VN := Lib.hid (VN.out.on hbn)
      have B := Lib.hid (B.out.trans (hbn.mono B.out.size))
      clear hbn Vn hd
      obtain ⟨p0, p1, p2, p3, p4⟩ := VL.out.box
      rw [hx3] at p1 p2 p3 p4
      have HX := Lib.hid hx3
      clear hx3
      go_wp2_with fail
      rw [← HX.out]
      clear HX
      refine (HX.out _ _ VL.out.at_).mono ?_
      rintro e u4 ⟨L14, s14, A14, n14, c14, F14, m14, k14, rfl, hd, hb⟩
      have Z := Lib.hid (Z.out.on hb)
      have VA := Lib.hid (VA.out.on hb)
      have VN := Lib.hid (VN.out.on hb)
      have VL := Lib.hid (VL.out.on hb)
      have B := Lib.hid (B.out.trans (hb.mono B.out.size))
      clear hb p0 p1 p2 p3 p4 HX
      obtain ⟨x4, hx4, hbn, Vn⟩ := var_new u4 hd.out
      have VX := Lib.hid Vn
      have Z := Lib.hid (Z.out.on hbn)
      have VA := Lib.hid (VA.out.on hbn)
      have VN := Lib.hid (VN.out.on hbn)
      have VL := Lib.hid (VL.out.on hbn)
      have B := Lib.hid (B.out.trans (hbn.mono B.out.size))
      clear hbn Vn hd
      obtain ⟨p0, p1, p2, p3, p4⟩ := VN.out.box
      rw [hx4] at p1 p2 p3 p4
      have HX := Lib.hid hx4
      clear hx4
      go_wp2_with fail
      rw [← HX.out]
      clear HX
      refine (HY.out _ _ VN.out.at_).mono ?_
      rintro e u5 ⟨L15, s15, A15, n15, c15, F15, m15, k15, rfl, hd, hb⟩
      have Z := Lib.hid (Z.out.on hb)
      have VA := Lib.hid (VA.out.on hb)
      have VN := Lib.hid (VN.out.on hb)
      have VL := Lib.hid (VL.out.on hb)
      have VX := Lib.hid (VX.out.on hb)
      have B := Lib.hid (B.out.trans (hb.mono B.out.size))
      clear hb p0 p1 p2 p3 p4 HY
      obtain ⟨x5, hx5, hbn, Vn⟩ := var_new u5 hd.out
      have VY := Lib.hid Vn
      have Z := Lib.hid (Z.out.on hbn)
      have VA := Lib.hid (VA.out.on hbn)
      have VN := Lib.hid (VN.out.on hbn)
      have VL := Lib.hid (VL.out.on hbn)
      have VX := Lib.hid (VX.out.on hbn)
      have B := Lib.hid (B.out.trans (hbn.mono B.out.size))
      clear hbn Vn hd
      obtain ⟨p0, p1, p2, p3, p4⟩ := VA.out.box
      rw [hx5] at p1 p2 p3 p4
      have HX := Lib.hid hx5
      clear hx5
      go_wp2_with fail
      rw [← HX.out]
      clear HX
      refine (HEv.out _ _ VA.out.at_).mono ?_
      rintro e u6 ⟨L16, s16, A16, n16, c16, F16, m16, k16, rfl, hd, hb⟩
      have Z := Lib.hid (Z.out.on hb)
      have VA := Lib.hid (VA.out.on hb)
      have VN := Lib.hid (VN.out.on hb)
      have VL := Lib.hid (VL.out.on hb)
      have VX := Lib.hid (VX.out.on hb)
      have VY := Lib.hid (VY.out.on hb)
      have B := Lib.hid (B.out.trans (hb.mono B.out.size))
      clear hb p0 p1 p2 p3 p4 HEv
      obtain ⟨x6, hx6, hbn, Vn⟩ := var_new u6 hd.out
      have VE := Lib.hid Vn
      have Z := Lib.hid (Z.out.on hbn)
      have VA := Lib.hid (VA.out.on hbn)
      have VN := Lib.hid (VN.out.on hbn)
      have VL := Lib.hid (VL.out.on hbn)
      have VX := Lib.hid (VX.out.on hbn)
      have VY := Lib.hid (VY.out.on hbn)
      have B := Lib.hid (B.out.trans (hbn.mono B.out.size))
      clear hbn Vn hd
      obtain ⟨p0, p1, p2, p3, p4⟩ := VX.out.box
      rw [hx6] at p1 p2 p3 p4
      obtain ⟨q0, q1, q2, q3, q4⟩ := VY.out.box
      rw [hx6] at q1 q2 q3 q4
      have HX := Lib.hid hx6
      clear hx6
      go_wp2_with fail
      rw [← HX.out]
      clear HX
      refine (HS.out _ _ _ VX.out.at_ VY.out.at_).mono ?_
      rintro e u7 ⟨rfl, hb⟩
      have Z := Lib.hid (Z.out.on hb)
      have VA := Lib.hid (VA.out.on hb)
      have VN := Lib.hid (VN.out.on hb)
      have VL := Lib.hid (VL.out.on hb)
      have VX := Lib.hid (VX.out.on hb)
      have VY := Lib.hid (VY.out.on hb)
      have VE := Lib.hid (VE.out.on hb)
      have B := Lib.hid (B.out.trans (hb.mono B.out.size))
      clear hb p0 p1 p2 p3 p4 q0 q1 q2 q3 q4 HS
      obtain ⟨p0, p1, p2, p3, p4⟩ := VL.out.box
      go_wp2_with fail
      refine (HP.out _ _ VL.out.at_ Z.out).mono ?_
      rintro e u8 ⟨rfl, hb⟩
      have Z := Lib.hid (Z.out.on hb)
      have VA := Lib.hid (VA.out.on hb)
      have VN := Lib.hid (VN.out.on hb)
      have VL := Lib.hid (VL.out.on hb)
      have VX := Lib.hid (VX.out.on hb)
      have VY := Lib.hid (VY.out.on hb)
      have VE := Lib.hid (VE.out.on hb)
      have B := Lib.hid (B.out.trans (hb.mono B.out.size))
      clear hb p0 p1 p2 p3 p4 HP
      obtain ⟨p0, p1, p2, p3, p4⟩ := VE.out.box
      go_wp2_with fail
      refine (HQ.out _ _ VE.out.at_ Z.out).mono ?_
      rintro e u9 ⟨rfl, hb⟩
      have Z := Lib.hid (Z.out.on hb)
      have VA := Lib.hid (VA.out.on hb)
      have VN := Lib.hid (VN.out.on hb)
      have VL := Lib.hid (VL.out.on hb)
      have VX := Lib.hid (VX.out.on hb)
      have VY := Lib.hid (VY.out.on hb)
      have VE := Lib.hid (VE.out.on hb)
      have B := Lib.hid (B.out.trans (hb.mono B.out.size))
      clear hb p0 p1 p2 p3 p4 HQ
      go_wp2
      go_ret
      exact ⟨rfl, B.out⟩
  · obtain ⟨E, hE⟩ := errV_bad g1
    have HNt := Lib.hid (fun W v (h : DfaAt W W.heap.size v d0) => not_gives h (notOut_bad g1) hE)
    have HAl := Lib.hid (fun W v (h : DfaAt W W.heap.size v d0) => always_gives h (mkO_bad (K := stopA false) g1) hE)
    clear g1 hE hr HN0
    go_enter Try.func10, Try.ntmps10
    go_wp2_with fail
    rw [← W0.out]
    clear W0
    refine (HK.out _).mono ?_
    rintro e u1 ⟨rfl, hb⟩
    have Z := Lib.hid (Z.out.on hb)
    have VA := Lib.hid (VA.out.on hb)
    have B := Lib.hid (B.out.trans (hb.mono B.out.size))
    clear hb  HK
    obtain ⟨p0, p1, p2, p3, p4⟩ := VA.out.box
    go_wp2_with fail
    refine (HNt.out _ _ VA.out.at_).mono ?_
    rintro e u2 ⟨L12, s12, A12, n12, c12, F12, m12, k12, rfl, hd, hb⟩
    have Z := Lib.hid (Z.out.on hb)
    have VA := Lib.hid (VA.out.on hb)
    have B := Lib.hid (B.out.trans (hb.mono B.out.size))
    clear hb p0 p1 p2 p3 p4 HNt
    obtain ⟨x2, hx2, hbn, Vn⟩ := var_new u2 hd.out
    have VN := Lib.hid Vn
    have Z := Lib.hid (Z.out.on hbn)
    have VA := Lib.hid (VA.out.on hbn)
    have B := Lib.hid (B.out.trans (hbn.mono B.out.size))
    clear hbn Vn hd
    obtain ⟨p0, p1, p2, p3, p4⟩ := VA.out.box
    rw [hx2] at p1 p2 p3 p4
    have HX := Lib.hid hx2
    clear hx2
    go_wp2_with fail
    rw [← HX.out]
    clear HX
    refine (HAl.out _ _ VA.out.at_).mono ?_
    rintro e u3 ⟨L13, s13, A13, n13, c13, F13, m13, k13, rfl, hd, hb⟩
    have Z := Lib.hid (Z.out.on hb)
    have VA := Lib.hid (VA.out.on hb)
    have VN := Lib.hid (VN.out.on hb)
    have B := Lib.hid (B.out.trans (hb.mono B.out.size))
    clear hb p0 p1 p2 p3 p4 HAl
    obtain ⟨x3, hx3, hbn, Vn⟩ := var_new u3 hd.out
    have VL := Lib.hid Vn
    have Z := Lib.hid (Z.out.on hbn)
    have VA := Lib.hid (VA.out.on hbn)
    have VN := Lib.hid (VN.out.on hbn)
    have B := Lib.hid (B.out.trans (hbn.mono B.out.size))
    clear hbn Vn hd
    rw [hx3] at B
    clear hx3
    go_wp2
    go_ret
    exact ⟨rfl, B.out⟩


set_option maxRecDepth 100000 in
theorem lifted (os : Os) (started : os.Started) (H : Type) (enc : TypeId × Value → H) :
    ReturnsInHanded {} Try.checked os 10 .any (Rows.safeDualSpec.pre6 enc Try.prog Try.f10 Rows.safeDualRow.domain false) (Rows.safeDualSpec.post enc Try.prog Try.f10 false true false false) := by
  refine returnsInHanded_of_change_sized (C := Try.checked) own started (by kernel_rfl) Try.func10
    (ChangeSpec.witness6 (enc := enc) (C := Try.checked) false ⟨#[], #[.agg #[.int .i64 0, .int .i64 0, .slice none 0 0, .slice none 0 0], .slice none 0 0], []⟩ 8 (by kernel_rfl) (by kernel_rfl) (by kernel_rfl) (by kernel_rfl)) ?_
  intro W base args ds gs before hval0 hW hcnd hsz0 _
  have hval : ∀ (j : Nat) t v, Try.f10.params[j]? = some t → args[j]? = some v → Value.okWide Try.prog W .any base t v := hval0
  have hsz : (DataW.weightsEach Try.prog (Try.f10.params.toList ++ Rows.safeDualSpec.plain.varTypes Try.prog) (ds ++ gs)).all (· ≤ reachBytes) = true := hsz0
  have hW' := hW
  obtain ⟨p, q, hA0, hV0, rfl, hfz, hnd⟩ := hW
  have hV : DataW.TrodVars enc Try.prog W (fun _ => true) [] gs q := hV0
  have hA : DataW.TrodAll enc Try.prog W 0 (fun _ => true) true Try.f10.params.toList args.toList ds p := hA0
  rw [Try.params10] at hA hval hsz
  obtain ⟨v0, vs0, d0, ds0, p0, q0, hargs, rfl, rfl, h0, rr0⟩ := trodAll_cons hA
  obtain ⟨v1, vs1, d1, ds1, p1, q1, rfl, rfl, rfl, h1, rr1⟩ := trodAll_cons rr0
  obtain ⟨rfl, rfl, rfl⟩ := trodAll_nil rr1
  obtain rfl : args = #[v0, v1] := by cases args; simp_all
  obtain ⟨rfl, rfl⟩ := trodVars_none hV
  have k0 := h0
  have lt0 : ∀ x ∈ p0, x.block < W.heap.size := by obtain ⟨m, hm⟩ := k0; exact DataW.trod_lt m _ _ _ hm
  have k1 := h1
  have lt1 : ∀ x ∈ p1, x.block < W.heap.size := by obtain ⟨m, hm⟩ := k1; exact DataW.trod_lt m _ _ _ hm
  obtain ⟨D0, x0⟩ : ∃ d : Df.Aut, Df.DfaAt W W.heap.size v0 d := Df.dfa_open (hval 0 25 v0 rfl rfl) h0
  obtain ⟨A1, len1, c1, rfl⟩ := okWide_slice Try.underlying26 (hval 1 26 v1 rfl rfl)
  obtain ⟨z1, rfl, x1, r1, m1⟩ : ∃ zs : List Int, len1 = zs.length ∧ IntsAt W W.heap.size A1 zs ∧ zs.length ≤ 17592186043904 ∧ zs.length ≤ c1 := by
    obtain ⟨fuel, hf⟩ := h1
    rcases open_ints Try.underlying26 Try.underlying3 (by kernel_rfl) hf with ⟨hcs, _⟩ | ⟨x, l, c, zs, hcs, _, hl, hm, hz, hx, hcell, hwz⟩
    · simp [Value.cells] at hcs
      obtain ⟨rfl, rfl, rfl⟩ := hcs
      exact ⟨[], rfl, IntsAt.nil _ _ _, by simp, by simp⟩
    · simp [Value.cells] at hcs
      obtain ⟨rfl, rfl, rfl⟩ := hcs
      have hd := congrArg Prod.fst hx
      simp only at hd
      have := sized_slice hsz (j := 1) (t := 26) (e := 3) rfl (by rw [hd]; rfl) Try.underlying26
      rw [(show Try.prog.bytesOf 3 = 8 by kernel_rfl)] at this
      simp only [reachBytes, lits, List.length_map, List.length_take, List.length_drop] at this
      have hz' : zs.length = c1 := by simpa using hz
      exact ⟨zs.take len1, by rw [List.length_take]; omega, intsAt_of_open hcell hwz len1, by rw [List.length_take]; omega, by rw [List.length_take]; omega⟩
  clear hA0 hval0
  refine (walk v0 D0 A1 c1 z1 W x0 x1 r1 m1).mono fun e W' ⟨he, bel⟩ => ?_
  subst he
  exact ⟨_, rfl, _, _, _, [], _, [], hW', trodAll_mk1 (shut_bool Try.underlying4 _), (trodAll_cons_mk (Below.trod laidOut (by kernel_rfl) (of_decide_eq_true (by kernel_rfl)) k0 bel lt0) (trodAll_cons_mk (Below.trod laidOut (by kernel_rfl) (of_decide_eq_true (by kernel_rfl)) k1 bel lt1) trodAll_mk0)), rfl, bel.frame _, fun h => by cases h⟩

theorem over : Rows.safeDualRow.holds Try.pinned (OpenSpec.ofChange Rows.safeDualSpec) :=
  OpenClaim.holds_of_wide 10 Try.f10 rfl rfl rfl rfl rfl rfl rfl ⟨rfl, rfl, rfl, rfl, rfl⟩ rfl rfl rfl rfl rfl (by kernel_rfl) Try.func10 (by kernel_rfl)
    (of_decide_eq_true (by kernel_rfl)) (by unfold Func.isWrapper; rw [if_neg (of_decide_eq_false (by kernel_rfl))]; exact ⟨rfl, rfl⟩)
    (fun os started H enc _ => lifted os started H enc)
theorem proved : Rows.SafeDualSaid := over
#print axioms proved
end Go.Proofs.Ytloihkoamccacaa.safeDual
