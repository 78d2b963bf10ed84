/-
  The statement DfaMorganSaid of this seat, proved: for every input the law returns true and its arguments read behind the call as before. Conditions: none but the row's own (each argument within the reach).
-/
import Derived.Test.YtloihkoamccacaaRows
import Derived.Test.YtloihkoamccacaaWords
import Derived.WalkKit
import Derived.ProofKit
import Derived.OpenShut
import Derived.ShutString
import Derived.ChangeOld
import Derived.Below
import Derived.SizedLaws
import Derived.Lib.Hide
import Derived.Test.YtloihkoamccacaaDfaV
import Derived.Test.YtloihkoamccacaaDfaK
import Derived.Deep.QuietTactic
import Derived.BigQuiet
namespace Go.Proofs.Ytloihkoamccacaa.dfaMorgan
open Go.ChangeShapes Go.WideShapes Go.ChangeAt Go.RowKit Go.IntWalk Go.Proofs.Ytloihkoamccacaa.Wd
open Go.ChangeMaps (open_string shut_string)
set_option linter.unusedVariables false

theorem own : ownKnob Try.prog.godebug = none := by kernel_rfl
theorem laidOut : laidOutB Try.prog = true := by kernel_rfl
open Go.Proofs.Ytloihkoamccacaa.Wo Go.Proofs.Ytloihkoamccacaa.Df

set_option maxRecDepth 100000 in
set_option maxHeartbeats 4000000 in
theorem walk (v0 : Value) (d0 : Df.Aut) (v1 : Value) (d1 : Df.Aut) (w : World) (h0 : Df.DfaAt w w.heap.size v0 d0) (h1 : Df.DfaAt w w.heap.size v1 d1) :
    Calls Try.prog 4 #[v0, v1] w fun e w' => e = .returned (.bool true) ∧ Below w.heap.size w w' := by
  by_cases ga : dchk d0 = 0
  · by_cases gb : dchk d1 = 0
    · have Ga := dchk_iff.1 ga
      have Gb := dchk_iff.1 gb
      have HNa := Lib.hid (fun W v (h : DfaAt W W.heap.size v d0) => not_gives (E := .nilIface) h (notOut_ok Ga) rfl)
      have HNb := Lib.hid (fun W v (h : DfaAt W W.heap.size v d1) => not_gives (E := .nilIface) h (notOut_ok Gb) rfl)
      have HNn := Lib.hid (fun W v (h : DfaAt W W.heap.size v (notA d0)) => not_gives (E := .nilIface) h ((notOut_ok (notA_good Ga)).trans (by rw [notA_notA])) rfl)
      have HS := Lib.hid (fun W v u (h : DfaAt W W.heap.size v d0) (h2 : DfaAt W W.heap.size u d0) => same_gives h h2 Ga.lite rfl)
      rcases prod_two d0 d1 with ⟨k, hk⟩ | ⟨g2, l, hl⟩
      · have HB := Lib.hid (fun W v u (h : DfaAt W W.heap.size v d0) (h2 : DfaAt W W.heap.size u d1) => both_gives h h2 (hk _) rfl)
        have HU := Lib.hid (fun W v u (h : DfaAt W W.heap.size v d0) (h2 : DfaAt W W.heap.size u d1) => but_gives h h2 (hk _) rfl)
        obtain ⟨j, hj⟩ : ∃ j, ∀ f, prodOut f (notA d0) (notA d1) = (zeroA, j + 1) := by
          by_cases hL : d0.L = d1.L
          · exact (not_prod ⟨Ga, Gb, hL⟩ hk).1
          · exact prod_err (chkD2_bad_L hL)
        obtain ⟨i, hi⟩ : ∃ j, ∀ f, prodOut f d0 (notA d1) = (zeroA, j + 1) := by
          by_cases hL : d0.L = d1.L
          · exact (not_prod ⟨Ga, Gb, hL⟩ hk).2
          · exact prod_err (chkD2_bad_L hL)
        have HE := Lib.hid (fun W v u (h : DfaAt W W.heap.size v (notA d0)) (h2 : DfaAt W W.heap.size u (notA d1)) => either_gives h h2 (hj _) rfl)
        have HM := Lib.hid (fun W v u (h : DfaAt W W.heap.size v d0) (h2 : DfaAt W W.heap.size u (notA d1)) => both_gives h h2 (hi _) rfl)
        rw [show errV (k + 1) = errI ((k + 1 : Nat) : Int) from rfl] at HB HU
        rw [show errV (j + 1) = errI ((j + 1 : Nat) : Int) from rfl] at HE
        rw [show errV (i + 1) = errI ((i + 1 : Nat) : Int) from rfl] at HM
        generalize ((k + 1 : Nat) : Int) = E at *
        generalize ((j + 1 : Nat) : Int) = E2 at *
        generalize ((i + 1 : Nat) : Int) = E3 at *
        clear ga gb Ga Gb hk hj hi
        obtain ⟨L0, s0, A0, n0, c0, F0, m0, k0, rfl⟩ := h0.form
        obtain ⟨L1, s1, A1, n1, c1, F1, m1, k1, rfl⟩ := h1.form
        obtain ⟨u0, hu0, hb0, VA0, VB0⟩ := vars_two w h0 h1
        have VA := Lib.hid VA0
        have VB := Lib.hid VB0
        have B := Lib.hid hb0
        have W0 := Lib.hid hu0
        clear VA0 VB0 hb0 hu0 h0 h1
        go_enter Try.func4, Try.ntmps4
        go_wp2_with fail
        rw [← W0.out]
        refine (known_any _).mono ?_
        rintro e u1 ⟨rfl, hb⟩
        have VA := Lib.hid (VA.out.on hb)
        have VB := Lib.hid (VB.out.on hb)
        have B := Lib.hid (B.out.trans (hb.mono B.out.size))
        clear hb W0
        obtain ⟨p0, p1, p2, p3, p4⟩ := VA.out.box
        go_wp2_with fail
        refine (HNa.out _ _ VA.out.at_).mono ?_
        rintro e u2 ⟨L12, s12, A12, n12, c12, F12, m12, k12, rfl, hd, hb⟩
        have VA := Lib.hid (VA.out.on hb)
        have VB := Lib.hid (VB.out.on hb)
        have B := Lib.hid (B.out.trans (hb.mono B.out.size))
        clear hb  p0 p1 p2 p3 p4 HNa
        obtain ⟨p0, p1, p2, p3, p4⟩ := VB.out.box
        obtain ⟨x2, hx2, hb, Vn⟩ := var_new u2 hd.out
        have HX := Lib.hid hx2
        have Vn := Lib.hid Vn
        have VA := Lib.hid (VA.out.on hb)
        have VB := Lib.hid (VB.out.on hb)
        have B := Lib.hid (B.out.trans (hb.mono B.out.size))
        clear hb hd hx2
        go_wp2_with fail
        rw [← HX.out]
        clear HX
        have VN := Vn
        clear Vn
        refine (HNb.out _ _ VB.out.at_).mono ?_
        rintro e u3 ⟨L13, s13, A13, n13, c13, F13, m13, k13, rfl, hd, hb⟩
        have VA := Lib.hid (VA.out.on hb)
        have VB := Lib.hid (VB.out.on hb)
        have VN := Lib.hid (VN.out.on hb)
        have B := Lib.hid (B.out.trans (hb.mono B.out.size))
        clear hb  p0 p1 p2 p3 p4 HNb
        obtain ⟨p0, p1, p2, p3, p4⟩ := VA.out.box
        obtain ⟨q0, q1, q2, q3, q4⟩ := VB.out.box
        obtain ⟨x3, hx3, hb, Vn⟩ := var_new u3 hd.out
        have HX := Lib.hid hx3
        have Vn := Lib.hid Vn
        have VA := Lib.hid (VA.out.on hb)
        have VB := Lib.hid (VB.out.on hb)
        have VN := Lib.hid (VN.out.on hb)
        have B := Lib.hid (B.out.trans (hb.mono B.out.size))
        clear hb hd hx3
        go_wp2_with fail
        rw [← HX.out]
        clear HX
        have VM := Vn
        clear Vn
        refine (HB.out _ _ _ VA.out.at_ VB.out.at_).mono ?_
        rintro e u4 ⟨L14, s14, A14, n14, c14, F14, m14, k14, rfl, hd, hb⟩
        have VA := Lib.hid (VA.out.on hb)
        have VB := Lib.hid (VB.out.on hb)
        have VN := Lib.hid (VN.out.on hb)
        have VM := Lib.hid (VM.out.on hb)
        have B := Lib.hid (B.out.trans (hb.mono B.out.size))
        clear hb  p0 p1 p2 p3 p4 q0 q1 q2 q3 q4 HB
        obtain ⟨p0, p1, p2, p3, p4⟩ := VN.out.box
        obtain ⟨x4, hx4, hb, Vn⟩ := var_new u4 hd.out
        have HX := Lib.hid hx4
        have Vn := Lib.hid Vn
        have VA := Lib.hid (VA.out.on hb)
        have VB := Lib.hid (VB.out.on hb)
        have VN := Lib.hid (VN.out.on hb)
        have VM := Lib.hid (VM.out.on hb)
        have B := Lib.hid (B.out.trans (hb.mono B.out.size))
        clear hb hd hx4
        go_wp2_with fail
        rw [← HX.out]
        clear HX
        have VP := Vn
        clear Vn
        refine (HNn.out _ _ VN.out.at_).mono ?_
        rintro e u5 ⟨L15, s15, A15, n15, c15, F15, m15, k15, rfl, hd, hb⟩
        have VA := Lib.hid (VA.out.on hb)
        have VB := Lib.hid (VB.out.on hb)
        have VN := Lib.hid (VN.out.on hb)
        have VM := Lib.hid (VM.out.on hb)
        have VP := Lib.hid (VP.out.on hb)
        have B := Lib.hid (B.out.trans (hb.mono B.out.size))
        clear hb  p0 p1 p2 p3 p4 HNn
        obtain ⟨q0, q1, q2, q3, q4⟩ := VA.out.box
        obtain ⟨x5, hx5, hb, Vn⟩ := var_new u5 hd.out
        have HX := Lib.hid hx5
        have Vn := Lib.hid Vn
        have VA := Lib.hid (VA.out.on hb)
        have VB := Lib.hid (VB.out.on hb)
        have VN := Lib.hid (VN.out.on hb)
        have VM := Lib.hid (VM.out.on hb)
        have VP := Lib.hid (VP.out.on hb)
        have B := Lib.hid (B.out.trans (hb.mono B.out.size))
        clear hb hd hx5
        go_wp2_with fail
        rw [← HX.out]
        clear HX
        have VK := Vn
        clear Vn
        refine (HS.out _ _ _ VK.out.at_ VA.out.at_).mono ?_
        rintro e u6 ⟨rfl, hb⟩
        have VA := Lib.hid (VA.out.on hb)
        have VB := Lib.hid (VB.out.on hb)
        have VN := Lib.hid (VN.out.on hb)
        have VM := Lib.hid (VM.out.on hb)
        have VP := Lib.hid (VP.out.on hb)
        have VK := Lib.hid (VK.out.on hb)
        have B := Lib.hid (B.out.trans (hb.mono B.out.size))
        clear hb  q0 q1 q2 q3 q4 HS
        clear VK
        obtain ⟨p0, p1, p2, p3, p4⟩ := VN.out.box
        obtain ⟨q0, q1, q2, q3, q4⟩ := VM.out.box
        go_wp2_with fail
        refine (HE.out _ _ _ VN.out.at_ VM.out.at_).mono ?_
        rintro e u7 ⟨L17, s17, A17, n17, c17, F17, m17, k17, rfl, hd, hb⟩
        have VA := Lib.hid (VA.out.on hb)
        have VB := Lib.hid (VB.out.on hb)
        have VN := Lib.hid (VN.out.on hb)
        have VM := Lib.hid (VM.out.on hb)
        have VP := Lib.hid (VP.out.on hb)
        have B := Lib.hid (B.out.trans (hb.mono B.out.size))
        clear hb  p0 p1 p2 p3 p4 q0 q1 q2 q3 q4 HE
        clear VN
        obtain ⟨p0, p1, p2, p3, p4⟩ := VA.out.box
        obtain ⟨q0, q1, q2, q3, q4⟩ := VB.out.box
        obtain ⟨x7, hx7, hb, Vn⟩ := var_new u7 hd.out
        have HX := Lib.hid hx7
        have Vn := Lib.hid Vn
        have VA := Lib.hid (VA.out.on hb)
        have VB := Lib.hid (VB.out.on hb)
        have VM := Lib.hid (VM.out.on hb)
        have VP := Lib.hid (VP.out.on hb)
        have B := Lib.hid (B.out.trans (hb.mono B.out.size))
        clear hb hd hx7
        go_wp2_with fail
        rw [← HX.out]
        clear HX
        have VE := Vn
        clear Vn
        refine (HU.out _ _ _ VA.out.at_ VB.out.at_).mono ?_
        rintro e u8 ⟨L18, s18, A18, n18, c18, F18, m18, k18, rfl, hd, hb⟩
        have VA := Lib.hid (VA.out.on hb)
        have VB := Lib.hid (VB.out.on hb)
        have VM := Lib.hid (VM.out.on hb)
        have VP := Lib.hid (VP.out.on hb)
        have VE := Lib.hid (VE.out.on hb)
        have B := Lib.hid (B.out.trans (hb.mono B.out.size))
        clear hb  p0 p1 p2 p3 p4 q0 q1 q2 q3 q4 HU
        obtain ⟨p0, p1, p2, p3, p4⟩ := VA.out.box
        obtain ⟨q0, q1, q2, q3, q4⟩ := VM.out.box
        obtain ⟨x8, hx8, hb, Vn⟩ := var_new u8 hd.out
        have HX := Lib.hid hx8
        have Vn := Lib.hid Vn
        have VA := Lib.hid (VA.out.on hb)
        have VB := Lib.hid (VB.out.on hb)
        have VM := Lib.hid (VM.out.on hb)
        have VP := Lib.hid (VP.out.on hb)
        have VE := Lib.hid (VE.out.on hb)
        have B := Lib.hid (B.out.trans (hb.mono B.out.size))
        clear hb hd hx8
        go_wp2_with fail
        rw [← HX.out]
        clear HX
        have VU := Vn
        clear Vn
        refine (HM.out _ _ _ VA.out.at_ VM.out.at_).mono ?_
        rintro e u9 ⟨L19, s19, A19, n19, c19, F19, m19, k19, rfl, hd, hb⟩
        have VA := Lib.hid (VA.out.on hb)
        have VB := Lib.hid (VB.out.on hb)
        have VM := Lib.hid (VM.out.on hb)
        have VP := Lib.hid (VP.out.on hb)
        have VE := Lib.hid (VE.out.on hb)
        have VU := Lib.hid (VU.out.on hb)
        have B := Lib.hid (B.out.trans (hb.mono B.out.size))
        clear hb  p0 p1 p2 p3 p4 q0 q1 q2 q3 q4 HM
        have HY := Lib.hid (B.out.trans ((below_alloc _ (.cells #[.int .i64 L19, .int .i64 s19, .slice A19 n19 c19, .slice F19 m19 k19] 25)).mono B.out.size))
        clear hd B
        go_wp2
        go_ret
        exact ⟨rfl, HY.out⟩
      · have HB := Lib.hid (fun W v u (h : DfaAt W W.heap.size v d0) (h2 : DfaAt W W.heap.size u d1) => both_gives (E := .nilIface) h h2 (prod_ok g2 hl (fun x y => x && y)) rfl)
        have HU := Lib.hid (fun W v u (h : DfaAt W W.heap.size v d0) (h2 : DfaAt W W.heap.size u d1) => but_gives (E := .nilIface) h h2 (prod_ok g2 hl (fun x y => x && !y)) rfl)
        have HE := Lib.hid (fun W v u (h : DfaAt W W.heap.size v (notA d0)) (h2 : DfaAt W W.heap.size u (notA d1)) => either_gives (E := .nilIface) h h2 (morgan_either g2 hl) rfl)
        have HM := Lib.hid (fun W v u (h : DfaAt W W.heap.size v d0) (h2 : DfaAt W W.heap.size u (notA d1)) => both_gives (E := .nilIface) h h2 (morgan_with g2 hl) rfl)
        have gp := prod_good g2 hl (fun p => (fun x y => x && y) (finA d0 p.1) (finA d1 p.2))
        have gq := prod_good g2 hl (fun p => (fun x y => x && !y) (finA d0 p.1) (finA d1 p.2))
        simp only at HB HU gp gq
        have HT := Lib.hid (fun W v (h : DfaAt W W.heap.size v (autOf d0.L (S2 d0 d1) l (fun p => finA d0 p.1 && finA d1 p.2))) => not_gives (E := .nilIface) h (notOut_ok gp) rfl)
        have HS2 := Lib.hid (fun W v u (h : DfaAt W W.heap.size v (notA (autOf d0.L (S2 d0 d1) l (fun p => finA d0 p.1 && finA d1 p.2)))) (h2 : DfaAt W W.heap.size u (notA (autOf d0.L (S2 d0 d1) l (fun p => finA d0 p.1 && finA d1 p.2)))) => same_gives h h2 (notA_good gp).lite rfl)
        have HS3 := Lib.hid (fun W v u (h : DfaAt W W.heap.size v (autOf d0.L (S2 d0 d1) l (fun p => finA d0 p.1 && !finA d1 p.2))) (h2 : DfaAt W W.heap.size u (autOf d0.L (S2 d0 d1) l (fun p => finA d0 p.1 && !finA d1 p.2))) => same_gives h h2 gq.lite rfl)
        clear ga gb Ga Gb hl g2 gp gq
        generalize notA (autOf d0.L (S2 d0 d1) l (fun p => finA d0 p.1 && finA d1 p.2)) = PN at *
        generalize autOf d0.L (S2 d0 d1) l (fun p => finA d0 p.1 && finA d1 p.2) = P at *
        generalize autOf d0.L (S2 d0 d1) l (fun p => finA d0 p.1 && !finA d1 p.2) = Q at *
        obtain ⟨L0, s0, A0, n0, c0, F0, m0, k0, rfl⟩ := h0.form
        obtain ⟨L1, s1, A1, n1, c1, F1, m1, k1, rfl⟩ := h1.form
        obtain ⟨u0, hu0, hb0, VA0, VB0⟩ := vars_two w h0 h1
        have VA := Lib.hid VA0
        have VB := Lib.hid VB0
        have B := Lib.hid hb0
        have W0 := Lib.hid hu0
        clear VA0 VB0 hb0 hu0 h0 h1
        go_enter Try.func4, Try.ntmps4
        go_wp2_with fail
        rw [← W0.out]
        refine (known_any _).mono ?_
        rintro e u1 ⟨rfl, hb⟩
        have VA := Lib.hid (VA.out.on hb)
        have VB := Lib.hid (VB.out.on hb)
        have B := Lib.hid (B.out.trans (hb.mono B.out.size))
        clear hb W0
        obtain ⟨p0, p1, p2, p3, p4⟩ := VA.out.box
        go_wp2_with fail
        refine (HNa.out _ _ VA.out.at_).mono ?_
        rintro e u2 ⟨L12, s12, A12, n12, c12, F12, m12, k12, rfl, hd, hb⟩
        have VA := Lib.hid (VA.out.on hb)
        have VB := Lib.hid (VB.out.on hb)
        have B := Lib.hid (B.out.trans (hb.mono B.out.size))
        clear hb  p0 p1 p2 p3 p4 HNa
        obtain ⟨p0, p1, p2, p3, p4⟩ := VB.out.box
        obtain ⟨x2, hx2, hb, Vn⟩ := var_new u2 hd.out
        have HX := Lib.hid hx2
        have Vn := Lib.hid Vn
        have VA := Lib.hid (VA.out.on hb)
        have VB := Lib.hid (VB.out.on hb)
        have B := Lib.hid (B.out.trans (hb.mono B.out.size))
        clear hb hd hx2
        go_wp2_with fail
        rw [← HX.out]
        clear HX
        have VN := Vn
        clear Vn
        refine (HNb.out _ _ VB.out.at_).mono ?_
        rintro e u3 ⟨L13, s13, A13, n13, c13, F13, m13, k13, rfl, hd, hb⟩
        have VA := Lib.hid (VA.out.on hb)
        have VB := Lib.hid (VB.out.on hb)
        have VN := Lib.hid (VN.out.on hb)
        have B := Lib.hid (B.out.trans (hb.mono B.out.size))
        clear hb  p0 p1 p2 p3 p4 HNb
        obtain ⟨p0, p1, p2, p3, p4⟩ := VA.out.box
        obtain ⟨q0, q1, q2, q3, q4⟩ := VB.out.box
        obtain ⟨x3, hx3, hb, Vn⟩ := var_new u3 hd.out
        have HX := Lib.hid hx3
        have Vn := Lib.hid Vn
        have VA := Lib.hid (VA.out.on hb)
        have VB := Lib.hid (VB.out.on hb)
        have VN := Lib.hid (VN.out.on hb)
        have B := Lib.hid (B.out.trans (hb.mono B.out.size))
        clear hb hd hx3
        go_wp2_with fail
        rw [← HX.out]
        clear HX
        have VM := Vn
        clear Vn
        refine (HB.out _ _ _ VA.out.at_ VB.out.at_).mono ?_
        rintro e u4 ⟨L14, s14, A14, n14, c14, F14, m14, k14, rfl, hd, hb⟩
        have VA := Lib.hid (VA.out.on hb)
        have VB := Lib.hid (VB.out.on hb)
        have VN := Lib.hid (VN.out.on hb)
        have VM := Lib.hid (VM.out.on hb)
        have B := Lib.hid (B.out.trans (hb.mono B.out.size))
        clear hb  p0 p1 p2 p3 p4 q0 q1 q2 q3 q4 HB
        obtain ⟨p0, p1, p2, p3, p4⟩ := VN.out.box
        obtain ⟨x4, hx4, hb, Vn⟩ := var_new u4 hd.out
        have HX := Lib.hid hx4
        have Vn := Lib.hid Vn
        have VA := Lib.hid (VA.out.on hb)
        have VB := Lib.hid (VB.out.on hb)
        have VN := Lib.hid (VN.out.on hb)
        have VM := Lib.hid (VM.out.on hb)
        have B := Lib.hid (B.out.trans (hb.mono B.out.size))
        clear hb hd hx4
        go_wp2_with fail
        rw [← HX.out]
        clear HX
        have VP := Vn
        clear Vn
        refine (HNn.out _ _ VN.out.at_).mono ?_
        rintro e u5 ⟨L15, s15, A15, n15, c15, F15, m15, k15, rfl, hd, hb⟩
        have VA := Lib.hid (VA.out.on hb)
        have VB := Lib.hid (VB.out.on hb)
        have VN := Lib.hid (VN.out.on hb)
        have VM := Lib.hid (VM.out.on hb)
        have VP := Lib.hid (VP.out.on hb)
        have B := Lib.hid (B.out.trans (hb.mono B.out.size))
        clear hb  p0 p1 p2 p3 p4 HNn
        obtain ⟨q0, q1, q2, q3, q4⟩ := VA.out.box
        obtain ⟨x5, hx5, hb, Vn⟩ := var_new u5 hd.out
        have HX := Lib.hid hx5
        have Vn := Lib.hid Vn
        have VA := Lib.hid (VA.out.on hb)
        have VB := Lib.hid (VB.out.on hb)
        have VN := Lib.hid (VN.out.on hb)
        have VM := Lib.hid (VM.out.on hb)
        have VP := Lib.hid (VP.out.on hb)
        have B := Lib.hid (B.out.trans (hb.mono B.out.size))
        clear hb hd hx5
        go_wp2_with fail
        rw [← HX.out]
        clear HX
        have VK := Vn
        clear Vn
        refine (HS.out _ _ _ VK.out.at_ VA.out.at_).mono ?_
        rintro e u6 ⟨rfl, hb⟩
        have VA := Lib.hid (VA.out.on hb)
        have VB := Lib.hid (VB.out.on hb)
        have VN := Lib.hid (VN.out.on hb)
        have VM := Lib.hid (VM.out.on hb)
        have VP := Lib.hid (VP.out.on hb)
        have VK := Lib.hid (VK.out.on hb)
        have B := Lib.hid (B.out.trans (hb.mono B.out.size))
        clear hb  q0 q1 q2 q3 q4 HS
        clear VK
        obtain ⟨p0, p1, p2, p3, p4⟩ := VN.out.box
        obtain ⟨q0, q1, q2, q3, q4⟩ := VM.out.box
        go_wp2_with fail
        refine (HE.out _ _ _ VN.out.at_ VM.out.at_).mono ?_
        rintro e u7 ⟨L17, s17, A17, n17, c17, F17, m17, k17, rfl, hd, hb⟩
        have VA := Lib.hid (VA.out.on hb)
        have VB := Lib.hid (VB.out.on hb)
        have VN := Lib.hid (VN.out.on hb)
        have VM := Lib.hid (VM.out.on hb)
        have VP := Lib.hid (VP.out.on hb)
        have B := Lib.hid (B.out.trans (hb.mono B.out.size))
        clear hb  p0 p1 p2 p3 p4 q0 q1 q2 q3 q4 HE
        clear VN
        obtain ⟨p0, p1, p2, p3, p4⟩ := VA.out.box
        obtain ⟨q0, q1, q2, q3, q4⟩ := VB.out.box
        obtain ⟨x7, hx7, hb, Vn⟩ := var_new u7 hd.out
        have HX := Lib.hid hx7
        have Vn := Lib.hid Vn
        have VA := Lib.hid (VA.out.on hb)
        have VB := Lib.hid (VB.out.on hb)
        have VM := Lib.hid (VM.out.on hb)
        have VP := Lib.hid (VP.out.on hb)
        have B := Lib.hid (B.out.trans (hb.mono B.out.size))
        clear hb hd hx7
        go_wp2_with fail
        rw [← HX.out]
        clear HX
        have VE := Vn
        clear Vn
        refine (HU.out _ _ _ VA.out.at_ VB.out.at_).mono ?_
        rintro e u8 ⟨L18, s18, A18, n18, c18, F18, m18, k18, rfl, hd, hb⟩
        have VA := Lib.hid (VA.out.on hb)
        have VB := Lib.hid (VB.out.on hb)
        have VM := Lib.hid (VM.out.on hb)
        have VP := Lib.hid (VP.out.on hb)
        have VE := Lib.hid (VE.out.on hb)
        have B := Lib.hid (B.out.trans (hb.mono B.out.size))
        clear hb  p0 p1 p2 p3 p4 q0 q1 q2 q3 q4 HU
        obtain ⟨p0, p1, p2, p3, p4⟩ := VA.out.box
        obtain ⟨q0, q1, q2, q3, q4⟩ := VM.out.box
        obtain ⟨x8, hx8, hb, Vn⟩ := var_new u8 hd.out
        have HX := Lib.hid hx8
        have Vn := Lib.hid Vn
        have VA := Lib.hid (VA.out.on hb)
        have VB := Lib.hid (VB.out.on hb)
        have VM := Lib.hid (VM.out.on hb)
        have VP := Lib.hid (VP.out.on hb)
        have VE := Lib.hid (VE.out.on hb)
        have B := Lib.hid (B.out.trans (hb.mono B.out.size))
        clear hb hd hx8
        go_wp2_with fail
        rw [← HX.out]
        clear HX
        have VU := Vn
        clear Vn
        refine (HM.out _ _ _ VA.out.at_ VM.out.at_).mono ?_
        rintro e u9 ⟨L19, s19, A19, n19, c19, F19, m19, k19, rfl, hd, hb⟩
        have VA := Lib.hid (VA.out.on hb)
        have VB := Lib.hid (VB.out.on hb)
        have VM := Lib.hid (VM.out.on hb)
        have VP := Lib.hid (VP.out.on hb)
        have VE := Lib.hid (VE.out.on hb)
        have VU := Lib.hid (VU.out.on hb)
        have B := Lib.hid (B.out.trans (hb.mono B.out.size))
        clear hb  p0 p1 p2 p3 p4 q0 q1 q2 q3 q4 HM
        obtain ⟨p0, p1, p2, p3, p4⟩ := VP.out.box
        obtain ⟨x9, hx9, hb, Vn⟩ := var_new u9 hd.out
        have HX := Lib.hid hx9
        have Vn := Lib.hid Vn
        have VA := Lib.hid (VA.out.on hb)
        have VB := Lib.hid (VB.out.on hb)
        have VM := Lib.hid (VM.out.on hb)
        have VP := Lib.hid (VP.out.on hb)
        have VE := Lib.hid (VE.out.on hb)
        have VU := Lib.hid (VU.out.on hb)
        have B := Lib.hid (B.out.trans (hb.mono B.out.size))
        clear hb hd hx9
        go_wp2_with fail
        rw [← HX.out]
        clear HX
        have VW := Vn
        clear Vn
        refine (HT.out _ _ VP.out.at_).mono ?_
        rintro e u10 ⟨L20, s20, A20, n20, c20, F20, m20, k20, rfl, hd, hb⟩
        have VA := Lib.hid (VA.out.on hb)
        have VB := Lib.hid (VB.out.on hb)
        have VM := Lib.hid (VM.out.on hb)
        have VP := Lib.hid (VP.out.on hb)
        have VE := Lib.hid (VE.out.on hb)
        have VU := Lib.hid (VU.out.on hb)
        have VW := Lib.hid (VW.out.on hb)
        have B := Lib.hid (B.out.trans (hb.mono B.out.size))
        clear hb  p0 p1 p2 p3 p4 HT
        obtain ⟨q0, q1, q2, q3, q4⟩ := VE.out.box
        obtain ⟨x10, hx10, hb, Vn⟩ := var_new u10 hd.out
        have HX := Lib.hid hx10
        have Vn := Lib.hid Vn
        have VA := Lib.hid (VA.out.on hb)
        have VB := Lib.hid (VB.out.on hb)
        have VM := Lib.hid (VM.out.on hb)
        have VP := Lib.hid (VP.out.on hb)
        have VE := Lib.hid (VE.out.on hb)
        have VU := Lib.hid (VU.out.on hb)
        have VW := Lib.hid (VW.out.on hb)
        have B := Lib.hid (B.out.trans (hb.mono B.out.size))
        clear hb hd hx10
        go_wp2_with fail
        rw [← HX.out]
        clear HX
        have VT := Vn
        clear Vn
        refine (HS2.out _ _ _ VT.out.at_ VE.out.at_).mono ?_
        rintro e u11 ⟨rfl, hb⟩
        have VA := Lib.hid (VA.out.on hb)
        have VB := Lib.hid (VB.out.on hb)
        have VM := Lib.hid (VM.out.on hb)
        have VP := Lib.hid (VP.out.on hb)
        have VE := Lib.hid (VE.out.on hb)
        have VU := Lib.hid (VU.out.on hb)
        have VW := Lib.hid (VW.out.on hb)
        have VT := Lib.hid (VT.out.on hb)
        have B := Lib.hid (B.out.trans (hb.mono B.out.size))
        clear hb  q0 q1 q2 q3 q4 HS2
        obtain ⟨p0, p1, p2, p3, p4⟩ := VU.out.box
        obtain ⟨q0, q1, q2, q3, q4⟩ := VW.out.box
        go_wp2_with fail
        refine (HS3.out _ _ _ VU.out.at_ VW.out.at_).mono ?_
        rintro e u12 ⟨rfl, hb⟩
        have VA := Lib.hid (VA.out.on hb)
        have VB := Lib.hid (VB.out.on hb)
        have VM := Lib.hid (VM.out.on hb)
        have VP := Lib.hid (VP.out.on hb)
        have VE := Lib.hid (VE.out.on hb)
        have VU := Lib.hid (VU.out.on hb)
        have VW := Lib.hid (VW.out.on hb)
        have VT := Lib.hid (VT.out.on hb)
        have B := Lib.hid (B.out.trans (hb.mono B.out.size))
        clear hb  p0 p1 p2 p3 p4 q0 q1 q2 q3 q4 HS3
        go_wp2
        go_ret
        exact ⟨rfl, B.out⟩
    · have hne : dchk d1 ≠ 0 := gb
      obtain ⟨x, hx⟩ := errV_bad hne
      obtain ⟨k, hk⟩ := prod_err (a := d0) (chkD2_bad_b hne)
      have Ga := dchk_iff.1 ga
      have HNa := Lib.hid (fun W v (h : DfaAt W W.heap.size v d0) => not_gives (E := .nilIface) h (notOut_ok Ga) rfl)
      have HNb := Lib.hid (fun W v (h : DfaAt W W.heap.size v d1) => not_gives h (notOut_bad hne) hx)
      have HB := Lib.hid (fun W v u (h : DfaAt W W.heap.size v d0) (h2 : DfaAt W W.heap.size u d1) => both_gives h h2 (hk _) rfl)
      rw [show errV (k + 1) = errI ((k + 1 : Nat) : Int) from rfl] at HB
      generalize ((k + 1 : Nat) : Int) = E at *
      clear ga gb hne hx hk Ga
      obtain ⟨L0, s0, A0, n0, c0, F0, m0, k0, rfl⟩ := h0.form
      obtain ⟨L1, s1, A1, n1, c1, F1, m1, k1, rfl⟩ := h1.form
      obtain ⟨u0, hu0, hb0, VA0, VB0⟩ := vars_two w h0 h1
      have VA := Lib.hid VA0
      have VB := Lib.hid VB0
      have B := Lib.hid hb0
      have W0 := Lib.hid hu0
      clear VA0 VB0 hb0 hu0 h0 h1
      go_enter Try.func4, Try.ntmps4
      go_wp2_with fail
      rw [← W0.out]
      refine (known_any _).mono ?_
      rintro e u1 ⟨rfl, hb⟩
      have VA := Lib.hid (VA.out.on hb)
      have VB := Lib.hid (VB.out.on hb)
      have B := Lib.hid (B.out.trans (hb.mono B.out.size))
      clear hb W0
      obtain ⟨p0, p1, p2, p3, p4⟩ := VA.out.box
      go_wp2_with fail
      refine (HNa.out _ _ VA.out.at_).mono ?_
      rintro e u2 ⟨L12, s12, A12, n12, c12, F12, m12, k12, rfl, hd, hb⟩
      have VA := Lib.hid (VA.out.on hb)
      have VB := Lib.hid (VB.out.on hb)
      have B := Lib.hid (B.out.trans (hb.mono B.out.size))
      clear hb  p0 p1 p2 p3 p4 HNa
      obtain ⟨p0, p1, p2, p3, p4⟩ := VB.out.box
      obtain ⟨x2, hx2, hb, Vn⟩ := var_new u2 hd.out
      have HX := Lib.hid hx2
      have Vn := Lib.hid Vn
      have VA := Lib.hid (VA.out.on hb)
      have VB := Lib.hid (VB.out.on hb)
      have B := Lib.hid (B.out.trans (hb.mono B.out.size))
      clear hb hd hx2
      go_wp2_with fail
      rw [← HX.out]
      clear HX
      have VN := Vn
      clear Vn
      refine (HNb.out _ _ VB.out.at_).mono ?_
      rintro e u3 ⟨L13, s13, A13, n13, c13, F13, m13, k13, rfl, hd, hb⟩
      have VA := Lib.hid (VA.out.on hb)
      have VB := Lib.hid (VB.out.on hb)
      have VN := Lib.hid (VN.out.on hb)
      have B := Lib.hid (B.out.trans (hb.mono B.out.size))
      clear hb  p0 p1 p2 p3 p4 HNb
      obtain ⟨p0, p1, p2, p3, p4⟩ := VA.out.box
      obtain ⟨q0, q1, q2, q3, q4⟩ := VB.out.box
      obtain ⟨x3, hx3, hb, Vn⟩ := var_new u3 hd.out
      have HX := Lib.hid hx3
      have Vn := Lib.hid Vn
      have VA := Lib.hid (VA.out.on hb)
      have VB := Lib.hid (VB.out.on hb)
      have VN := Lib.hid (VN.out.on hb)
      have B := Lib.hid (B.out.trans (hb.mono B.out.size))
      clear hb hd hx3
      go_wp2_with fail
      rw [← HX.out]
      clear HX
      have VM := Vn
      clear Vn
      refine (HB.out _ _ _ VA.out.at_ VB.out.at_).mono ?_
      rintro e u4 ⟨L14, s14, A14, n14, c14, F14, m14, k14, rfl, hd, hb⟩
      have VA := Lib.hid (VA.out.on hb)
      have VB := Lib.hid (VB.out.on hb)
      have VN := Lib.hid (VN.out.on hb)
      have VM := Lib.hid (VM.out.on hb)
      have B := Lib.hid (B.out.trans (hb.mono B.out.size))
      clear hb  p0 p1 p2 p3 p4 q0 q1 q2 q3 q4 HB
      have HY := Lib.hid (B.out.trans ((below_alloc _ (.cells #[.int .i64 L14, .int .i64 s14, .slice A14 n14 c14, .slice F14 m14 k14] 25)).mono B.out.size))
      clear hd B
      go_wp2
      go_ret
      exact ⟨rfl, HY.out⟩
  · have hne : dchk d0 ≠ 0 := ga
    obtain ⟨x, hx⟩ := errV_bad hne
    obtain ⟨k, hk⟩ := prod_err (b := d1) (chkD2_bad_a hne)
    have HNa := Lib.hid (fun W v (h : DfaAt W W.heap.size v d0) => not_gives h (notOut_bad hne) hx)
    have HNb := Lib.hid (fun W v (h : DfaAt W W.heap.size v d1) => not_gives h (r := (notOut d1).1) (k := (notOut d1).2) rfl rfl)
    have HB := Lib.hid (fun W v u (h : DfaAt W W.heap.size v d0) (h2 : DfaAt W W.heap.size u d1) => both_gives h h2 (hk _) rfl)
    rw [show errV (k + 1) = errI ((k + 1 : Nat) : Int) from rfl] at HB
    generalize ((k + 1 : Nat) : Int) = E at *
    generalize errV (notOut d1).2 = E1 at *
    generalize (notOut d1).1 = N at *
    clear ga hne hx hk
    obtain ⟨L0, s0, A0, n0, c0, F0, m0, k0, rfl⟩ := h0.form
    obtain ⟨L1, s1, A1, n1, c1, F1, m1, k1, rfl⟩ := h1.form
    obtain ⟨u0, hu0, hb0, VA0, VB0⟩ := vars_two w h0 h1
    have VA := Lib.hid VA0
    have VB := Lib.hid VB0
    have B := Lib.hid hb0
    have W0 := Lib.hid hu0
    clear VA0 VB0 hb0 hu0 h0 h1
    go_enter Try.func4, Try.ntmps4
    go_wp2_with fail
    rw [← W0.out]
    refine (known_any _).mono ?_
    rintro e u1 ⟨rfl, hb⟩
    have VA := Lib.hid (VA.out.on hb)
    have VB := Lib.hid (VB.out.on hb)
    have B := Lib.hid (B.out.trans (hb.mono B.out.size))
    clear hb W0
    obtain ⟨p0, p1, p2, p3, p4⟩ := VA.out.box
    go_wp2_with fail
    refine (HNa.out _ _ VA.out.at_).mono ?_
    rintro e u2 ⟨L12, s12, A12, n12, c12, F12, m12, k12, rfl, hd, hb⟩
    have VA := Lib.hid (VA.out.on hb)
    have VB := Lib.hid (VB.out.on hb)
    have B := Lib.hid (B.out.trans (hb.mono B.out.size))
    clear hb  p0 p1 p2 p3 p4 HNa
    obtain ⟨p0, p1, p2, p3, p4⟩ := VB.out.box
    obtain ⟨x2, hx2, hb, Vn⟩ := var_new u2 hd.out
    have HX := Lib.hid hx2
    have Vn := Lib.hid Vn
    have VA := Lib.hid (VA.out.on hb)
    have VB := Lib.hid (VB.out.on hb)
    have B := Lib.hid (B.out.trans (hb.mono B.out.size))
    clear hb hd hx2
    go_wp2_with fail
    rw [← HX.out]
    clear HX
    have VN := Vn
    clear Vn
    refine (HNb.out _ _ VB.out.at_).mono ?_
    rintro e u3 ⟨L13, s13, A13, n13, c13, F13, m13, k13, rfl, hd, hb⟩
    have VA := Lib.hid (VA.out.on hb)
    have VB := Lib.hid (VB.out.on hb)
    have VN := Lib.hid (VN.out.on hb)
    have B := Lib.hid (B.out.trans (hb.mono B.out.size))
    clear hb  p0 p1 p2 p3 p4 HNb
    obtain ⟨p0, p1, p2, p3, p4⟩ := VA.out.box
    obtain ⟨q0, q1, q2, q3, q4⟩ := VB.out.box
    obtain ⟨x3, hx3, hb, Vn⟩ := var_new u3 hd.out
    have HX := Lib.hid hx3
    have Vn := Lib.hid Vn
    have VA := Lib.hid (VA.out.on hb)
    have VB := Lib.hid (VB.out.on hb)
    have VN := Lib.hid (VN.out.on hb)
    have B := Lib.hid (B.out.trans (hb.mono B.out.size))
    clear hb hd hx3
    go_wp2_with fail
    rw [← HX.out]
    clear HX
    have VM := Vn
    clear Vn
    refine (HB.out _ _ _ VA.out.at_ VB.out.at_).mono ?_
    rintro e u4 ⟨L14, s14, A14, n14, c14, F14, m14, k14, rfl, hd, hb⟩
    have VA := Lib.hid (VA.out.on hb)
    have VB := Lib.hid (VB.out.on hb)
    have VN := Lib.hid (VN.out.on hb)
    have VM := Lib.hid (VM.out.on hb)
    have B := Lib.hid (B.out.trans (hb.mono B.out.size))
    clear hb  p0 p1 p2 p3 p4 q0 q1 q2 q3 q4 HB
    have HY := Lib.hid (B.out.trans ((below_alloc _ (.cells #[.int .i64 L14, .int .i64 s14, .slice A14 n14 c14, .slice F14 m14 k14] 25)).mono B.out.size))
    clear hd B
    go_wp2
    go_ret
    exact ⟨rfl, HY.out⟩


set_option maxRecDepth 100000 in
theorem lifted (os : Os) (started : os.Started) (H : Type) (enc : TypeId × Value → H) :
    ReturnsInHanded {} Try.checked os 4 .any (Rows.dfaMorganSpec.pre6 enc Try.prog Try.f4 Rows.dfaMorganRow.domain false) (Rows.dfaMorganSpec.post enc Try.prog Try.f4 false true false false) := by
  refine returnsInHanded_of_change_sized (C := Try.checked) own started (by kernel_rfl) Try.func4
    (ChangeSpec.witness6 (enc := enc) (C := Try.checked) false ⟨#[], #[.agg #[.int .i64 0, .int .i64 0, .slice none 0 0, .slice none 0 0], .agg #[.int .i64 0, .int .i64 0, .slice none 0 0, .slice none 0 0]], []⟩ 8 (by kernel_rfl) (by kernel_rfl) (by kernel_rfl) (by kernel_rfl)) ?_
  intro W base args ds gs before hval0 hW hcnd hsz0 _
  have hval : ∀ (j : Nat) t v, Try.f4.params[j]? = some t → args[j]? = some v → Value.okWide Try.prog W .any base t v := hval0
  have hsz : (DataW.weightsEach Try.prog (Try.f4.params.toList ++ Rows.dfaMorganSpec.plain.varTypes Try.prog) (ds ++ gs)).all (· ≤ reachBytes) = true := hsz0
  have hW' := hW
  obtain ⟨p, q, hA0, hV0, rfl, hfz, hnd⟩ := hW
  have hV : DataW.TrodVars enc Try.prog W (fun _ => true) [] gs q := hV0
  have hA : DataW.TrodAll enc Try.prog W 0 (fun _ => true) true Try.f4.params.toList args.toList ds p := hA0
  rw [Try.params4] at hA hval hsz
  obtain ⟨v0, vs0, d0, ds0, p0, q0, hargs, rfl, rfl, h0, rr0⟩ := trodAll_cons hA
  obtain ⟨v1, vs1, d1, ds1, p1, q1, rfl, rfl, rfl, h1, rr1⟩ := trodAll_cons rr0
  obtain ⟨rfl, rfl, rfl⟩ := trodAll_nil rr1
  obtain rfl : args = #[v0, v1] := by cases args; simp_all
  obtain ⟨rfl, rfl⟩ := trodVars_none hV
  have k0 := h0
  have lt0 : ∀ x ∈ p0, x.block < W.heap.size := by obtain ⟨m, hm⟩ := k0; exact DataW.trod_lt m _ _ _ hm
  have k1 := h1
  have lt1 : ∀ x ∈ p1, x.block < W.heap.size := by obtain ⟨m, hm⟩ := k1; exact DataW.trod_lt m _ _ _ hm
  obtain ⟨D0, x0⟩ : ∃ d : Df.Aut, Df.DfaAt W W.heap.size v0 d := Df.dfa_open (hval 0 25 v0 rfl rfl) h0
  obtain ⟨D1, x1⟩ : ∃ d : Df.Aut, Df.DfaAt W W.heap.size v1 d := Df.dfa_open (hval 1 25 v1 rfl rfl) h1
  clear hA0 hval0
  refine (walk v0 D0 v1 D1 W x0 x1).mono fun e W' ⟨he, bel⟩ => ?_
  subst he
  exact ⟨_, rfl, _, _, _, [], _, [], hW', trodAll_mk1 (shut_bool Try.underlying4 _), (trodAll_cons_mk (Below.trod laidOut (by kernel_rfl) (of_decide_eq_true (by kernel_rfl)) k0 bel lt0) (trodAll_cons_mk (Below.trod laidOut (by kernel_rfl) (of_decide_eq_true (by kernel_rfl)) k1 bel lt1) trodAll_mk0)), rfl, bel.frame _, fun h => by cases h⟩

theorem over : Rows.dfaMorganRow.holds Try.pinned (OpenSpec.ofChange Rows.dfaMorganSpec) :=
  OpenClaim.holds_of_wide 4 Try.f4 rfl rfl rfl rfl rfl rfl rfl ⟨rfl, rfl, rfl, rfl, rfl⟩ rfl rfl rfl rfl rfl (by kernel_rfl) Try.func4 (by kernel_rfl)
    (of_decide_eq_true (by kernel_rfl)) (by unfold Func.isWrapper; rw [if_neg (of_decide_eq_false (by kernel_rfl))]; exact ⟨rfl, rfl⟩)
    (fun os started H enc _ => lifted os started H enc)
theorem proved : Rows.DfaMorganSaid := over
#print axioms proved
end Go.Proofs.Ytloihkoamccacaa.dfaMorgan
