/-
  The statement DfaMeansSaid of this seat, proved: for every input the law returns true and its arguments read behind the call as before. Conditions: none but the row's own (each argument within the reach).
-/
import Derived.Test.YtloihkoamccacaaRows
import Derived.Test.YtloihkoamccacaaWords
import Derived.WalkKit
import Derived.ProofKit
import Derived.OpenShut
import Derived.ShutString
import Derived.ChangeOld
import Derived.Below
import Derived.SizedLaws
import Derived.Lib.Hide
import Derived.Test.YtloihkoamccacaaDfaV
import Derived.Test.YtloihkoamccacaaDfaK
import Derived.Deep.QuietTactic
import Derived.BigQuiet
namespace Go.Proofs.Ytloihkoamccacaa.dfaMeans
open Go.ChangeShapes Go.WideShapes Go.ChangeAt Go.RowKit Go.IntWalk Go.Proofs.Ytloihkoamccacaa.Wd
open Go.ChangeMaps (open_string shut_string)
set_option linter.unusedVariables false

theorem own : ownKnob Try.prog.godebug = none := by kernel_rfl
theorem laidOut : laidOutB Try.prog = true := by kernel_rfl
open Go.Proofs.Ytloihkoamccacaa.Wo Go.Proofs.Ytloihkoamccacaa.Df

set_option maxRecDepth 100000 in
set_option maxHeartbeats 4000000 in
theorem walk (v0 : Value) (d0 : Df.Aut) (v1 : Value) (d1 : Df.Aut) (A2 : Option Addr) (c2 : Nat) (z2 : List Int) (w : World) (h0 : Df.DfaAt w w.heap.size v0 d0) (h1 : Df.DfaAt w w.heap.size v1 d1) (v2 : IntsAt w w.heap.size A2 z2) (r2 : z2.length ≤ 17592186043904) (m2 : z2.length ≤ c2) :
    Calls Try.prog 3 #[v0, v1, .slice A2 z2.length c2] w fun e w' => e = .returned (.bool true) ∧ Below w.heap.size w w' := by
  have hr : z2.length ≤ 17592186044416 := by omega
  have Z2 := v2
  clear v2 m2 r2
  have HAb := Lib.hid (fun W v (h : DfaAt W W.heap.size v d1) (hZ : IntsAt W W.heap.size A2 z2) => acc_gives (cz := c2) h hZ hr rfl rfl)
  have HNa := Lib.hid (fun W v (h : DfaAt W W.heap.size v d0) => not_gives h (r := (notOut d0).1) (k := (notOut d0).2) rfl rfl)
  by_cases ga : accErr d0 z2 = 0
  · by_cases gb : accErr d1 z2 = 0
    · obtain ⟨Ga, fa⟩ := accErr_good ga
      obtain ⟨Gb, fb⟩ := accErr_good gb
      have HAa := Lib.hid (fun W v (h : DfaAt W W.heap.size v d0) (hZ : IntsAt W W.heap.size A2 z2) => acc_gives (cz := c2) (E := .nilIface) h hZ hr (accOut_ok Ga fa) (by rw [ga]; rfl))
      have HAb := Lib.hid (fun W v (h : DfaAt W W.heap.size v d1) (hZ : IntsAt W W.heap.size A2 z2) => acc_gives (cz := c2) (E := .nilIface) h hZ hr (accOut_ok Gb fb) (by rw [gb]; rfl))
      have HNa := Lib.hid (fun W v (h : DfaAt W W.heap.size v d0) => not_gives (E := .nilIface) h (notOut_ok Ga) rfl)
      have HAn := Lib.hid (fun W v (h : DfaAt W W.heap.size v (notA d0)) (hZ : IntsAt W W.heap.size A2 z2) => acc_gives (cz := c2) (E := .nilIface) h hZ hr ((accOut_ok (notA_good Ga) fa).trans (notA_acc Ga (fine_word fa))) (by rw [accErr_ok (notA_good Ga) fa]; rfl))
      have hxn : ∀ b : Bool, ((!b) == b) = false := by decide
      rcases prod_two d0 d1 with ⟨k, hk⟩ | ⟨g2, l, hl⟩
      · have HB := Lib.hid (fun W v u (h : DfaAt W W.heap.size v d0) (h2 : DfaAt W W.heap.size u d1) => both_gives h h2 (hk _) rfl)
        have HE := Lib.hid (fun W v u (h : DfaAt W W.heap.size v d0) (h2 : DfaAt W W.heap.size u d1) => either_gives h h2 (hk _) rfl)
        have HU := Lib.hid (fun W v u (h : DfaAt W W.heap.size v d0) (h2 : DfaAt W W.heap.size u d1) => but_gives h h2 (hk _) rfl)
        rw [show errV (k + 1) = errI ((k + 1 : Nat) : Int) from rfl] at HB HE HU
        generalize ((k + 1 : Nat) : Int) = E at *
        have HC : Hid (d0.L ≠ d1.L ∨ (d0.L = d1.L ∧ 40 < d0.next.length * d1.next.length)) := by
          by_cases hL : d0.L = d1.L
          · refine .inr ⟨hL, ?_⟩
            rcases hf : found (S2 d0 d1) (start2 d0 d1) with _ | l
            · exact found_none_mul ⟨Ga, Gb, hL⟩ hf
            · have := prod_ok ⟨Ga, Gb, hL⟩ hf (fun x y => x && y)
              rw [hk] at this
              have := congrArg Prod.snd this
              simp at this
          · exact .inl hL
        have HG : Hid (d0.next.length ≤ 40 ∧ d1.next.length ≤ 40) := ⟨Ga.n40, Gb.n40⟩
        clear  ga gb Ga Gb fa fb hk
        generalize accA d0 z2 = x at *
        generalize accA d1 z2 = y at *
        have hx := hxn x
        obtain ⟨L0, s0, A0, n0, c0, F0, m0, k0, rfl⟩ := h0.form
        obtain ⟨L1, s1, A1, n1, c1, F1, m1, k1, rfl⟩ := h1.form
        obtain ⟨u0, hu0, hb0, VA0, VB0⟩ := vars_two w h0 h1
        have VA := Lib.hid VA0
        have VB := Lib.hid VB0
        have B := Lib.hid hb0
        have W0 := Lib.hid hu0
        have Z := Lib.hid (Z2.on hb0)
        clear VA0 VB0 hb0 hu0 h0 h1 Z2
        go_enter Try.func3, Try.ntmps3
        go_wp2_with fail
        rw [← W0.out]
        refine (known_any _).mono ?_
        rintro e u1 ⟨rfl, hb⟩
        have VA := Lib.hid (VA.out.on hb)
        have VB := Lib.hid (VB.out.on hb)
        have Z := Lib.hid (Z.out.on hb)
        have B := Lib.hid (B.out.trans (hb.mono B.out.size))
        clear hb W0
        obtain ⟨p0, p1, p2, p3, p4⟩ := VA.out.box
        go_wp2_with fail
        refine (HAa.out _ _ VA.out.at_ Z.out).mono ?_
        rintro e u2 ⟨rfl, hb⟩
        have VA := Lib.hid (VA.out.on hb)
        have VB := Lib.hid (VB.out.on hb)
        have Z := Lib.hid (Z.out.on hb)
        have B := Lib.hid (B.out.trans (hb.mono B.out.size))
        clear hb  p0 p1 p2 p3 p4 HAa
        obtain ⟨p0, p1, p2, p3, p4⟩ := VB.out.box
        go_wp2_with fail
        refine (HAb.out _ _ VB.out.at_ Z.out).mono ?_
        rintro e u3 ⟨rfl, hb⟩
        have VA := Lib.hid (VA.out.on hb)
        have VB := Lib.hid (VB.out.on hb)
        have Z := Lib.hid (Z.out.on hb)
        have B := Lib.hid (B.out.trans (hb.mono B.out.size))
        clear hb  p0 p1 p2 p3 p4 HAb
        obtain ⟨p0, p1, p2, p3, p4⟩ := VA.out.box
        go_wp2_with fail
        refine (HNa.out _ _ VA.out.at_).mono ?_
        rintro e u4 ⟨L14, s14, A14, n14, c14, F14, m14, k14, rfl, hd, hb⟩
        have VA := Lib.hid (VA.out.on hb)
        have VB := Lib.hid (VB.out.on hb)
        have Z := Lib.hid (Z.out.on hb)
        have B := Lib.hid (B.out.trans (hb.mono B.out.size))
        clear hb  p0 p1 p2 p3 p4 HNa
        obtain ⟨x4, hx4, hb, Vn⟩ := var_new u4 hd.out
        have HX := Lib.hid hx4
        have Vn := Lib.hid Vn
        have VA := Lib.hid (VA.out.on hb)
        have VB := Lib.hid (VB.out.on hb)
        have Z := Lib.hid (Z.out.on hb)
        have B := Lib.hid (B.out.trans (hb.mono B.out.size))
        clear hb hd hx4
        go_wp2_with fail
        rw [← HX.out]
        clear HX
        have VN := Vn
        clear Vn
        refine (HAn.out _ _ VN.out.at_ Z.out).mono ?_
        rintro e u5 ⟨rfl, hb⟩
        have VA := Lib.hid (VA.out.on hb)
        have VB := Lib.hid (VB.out.on hb)
        have VN := Lib.hid (VN.out.on hb)
        have Z := Lib.hid (Z.out.on hb)
        have B := Lib.hid (B.out.trans (hb.mono B.out.size))
        clear hb  HAn
        clear VN
        obtain ⟨p0, p1, p2, p3, p4⟩ := VA.out.box
        obtain ⟨q0, q1, q2, q3, q4⟩ := VB.out.box
        go_wp2_with fail
        refine (HB.out _ _ _ VA.out.at_ VB.out.at_).mono ?_
        rintro e u6 ⟨L16, s16, A16, n16, c16, F16, m16, k16, rfl, hd, hb⟩
        have VA := Lib.hid (VA.out.on hb)
        have VB := Lib.hid (VB.out.on hb)
        have Z := Lib.hid (Z.out.on hb)
        have B := Lib.hid (B.out.trans (hb.mono B.out.size))
        clear hb  p0 p1 p2 p3 p4 q0 q1 q2 q3 q4 HB
        obtain ⟨p0, p1, p2, p3, p4⟩ := VA.out.box
        obtain ⟨q0, q1, q2, q3, q4⟩ := VB.out.box
        obtain ⟨x6, hx6, hb, Vn⟩ := var_new u6 hd.out
        have HX := Lib.hid hx6
        have Vn := Lib.hid Vn
        have VA := Lib.hid (VA.out.on hb)
        have VB := Lib.hid (VB.out.on hb)
        have Z := Lib.hid (Z.out.on hb)
        have B := Lib.hid (B.out.trans (hb.mono B.out.size))
        clear hb hd hx6
        go_wp2_with fail
        rw [← HX.out]
        clear HX
        have VP := Vn
        clear Vn
        refine (HE.out _ _ _ VA.out.at_ VB.out.at_).mono ?_
        rintro e u7 ⟨L17, s17, A17, n17, c17, F17, m17, k17, rfl, hd, hb⟩
        have VA := Lib.hid (VA.out.on hb)
        have VB := Lib.hid (VB.out.on hb)
        have VP := Lib.hid (VP.out.on hb)
        have Z := Lib.hid (Z.out.on hb)
        have B := Lib.hid (B.out.trans (hb.mono B.out.size))
        clear hb  p0 p1 p2 p3 p4 q0 q1 q2 q3 q4 HE
        obtain ⟨p0, p1, p2, p3, p4⟩ := VA.out.box
        obtain ⟨q0, q1, q2, q3, q4⟩ := VB.out.box
        obtain ⟨x7, hx7, hb, Vn⟩ := var_new u7 hd.out
        have HX := Lib.hid hx7
        have Vn := Lib.hid Vn
        have VA := Lib.hid (VA.out.on hb)
        have VB := Lib.hid (VB.out.on hb)
        have VP := Lib.hid (VP.out.on hb)
        have Z := Lib.hid (Z.out.on hb)
        have B := Lib.hid (B.out.trans (hb.mono B.out.size))
        clear hb hd hx7
        go_wp2_with fail
        rw [← HX.out]
        clear HX
        have VQ := Vn
        clear Vn
        refine (HU.out _ _ _ VA.out.at_ VB.out.at_).mono ?_
        rintro e u8 ⟨L18, s18, A18, n18, c18, F18, m18, k18, rfl, hd, hb⟩
        have VA := Lib.hid (VA.out.on hb)
        have VB := Lib.hid (VB.out.on hb)
        have VP := Lib.hid (VP.out.on hb)
        have VQ := Lib.hid (VQ.out.on hb)
        have Z := Lib.hid (Z.out.on hb)
        have B := Lib.hid (B.out.trans (hb.mono B.out.size))
        clear hb  p0 p1 p2 p3 p4 q0 q1 q2 q3 q4 HU
        obtain ⟨hL0, _, hN0, _⟩ := VA.out.at_.eqs
        obtain ⟨hL1, _, hN1, _⟩ := VB.out.at_.eqs
        rw [hL0, hN0, hL1, hN1] at HC
        rw [hN0, hN1] at HG
        clear hL0 hN0 hL1 hN1
        obtain ⟨p0, p1, p2, p3, p4⟩ := VA.out.box
        obtain ⟨q0, q1, q2, q3, q4⟩ := VB.out.box
        have HY := Lib.hid (B.out.trans ((below_alloc _ (.cells #[.int .i64 L18, .int .i64 s18, .slice A18 n18 c18, .slice F18 m18 k18] 25)).mono B.out.size))
        clear hd B VA VB
        rcases HC.out with hL | ⟨hL, hm⟩
        · have hL1 := int_ne' hL
          go_wp2
          go_ret
          exact ⟨rfl, HY.out⟩
        · have hL1 := int_eq' hL
          obtain ⟨g0, g1⟩ := HG.out
          have hm1 : n0 * n1 ≤ 1600 := Nat.mul_le_mul g0 g1
          have hm2 : (n0 : Int) * (n1 : Int) = ((n0 * n1 : Nat) : Int) := (Int.natCast_mul _ _).symm
          have hm3 : IntKind.i64.wrap ((n0 : Int) * (n1 : Int)) = ((n0 * n1 : Nat) : Int) := by rw [hm2]; exact IntWalk.i64_in _ ⟨by omega, by omega⟩
          generalize n0 * n1 = nm at *
          have hm4 : (40 : Int) < (nm : Int) := by omega
          go_wp2
          go_ret
          exact ⟨rfl, HY.out⟩
      · have hL := g2.eL
        have HB := Lib.hid (fun W v u (h : DfaAt W W.heap.size v d0) (h2 : DfaAt W W.heap.size u d1) => both_gives (E := .nilIface) h h2 (prod_ok g2 hl _) rfl)
        have HE := Lib.hid (fun W v u (h : DfaAt W W.heap.size v d0) (h2 : DfaAt W W.heap.size u d1) => either_gives (E := .nilIface) h h2 (prod_ok g2 hl _) rfl)
        have HU := Lib.hid (fun W v u (h : DfaAt W W.heap.size v d0) (h2 : DfaAt W W.heap.size u d1) => but_gives (E := .nilIface) h h2 (prod_ok g2 hl _) rfl)
        have HP := Lib.hid (fun W v (h : DfaAt W W.heap.size v (autOf d0.L (S2 d0 d1) l (fun p => (fun x y => x && y) (finA d0 p.1) (finA d1 p.2)))) (hZ : IntsAt W W.heap.size A2 z2) => acc_gives (cz := c2) (E := .nilIface) h hZ hr ((accOut_ok (prod_good g2 hl _) fa).trans (prod_acc g2 hl (fun x y => x && y) (fine_word fa))) (by rw [accErr_ok (prod_good g2 hl _) fa]; rfl))
        have HQ := Lib.hid (fun W v (h : DfaAt W W.heap.size v (autOf d0.L (S2 d0 d1) l (fun p => (fun x y => x || y) (finA d0 p.1) (finA d1 p.2)))) (hZ : IntsAt W W.heap.size A2 z2) => acc_gives (cz := c2) (E := .nilIface) h hZ hr ((accOut_ok (prod_good g2 hl _) fa).trans (prod_acc g2 hl (fun x y => x || y) (fine_word fa))) (by rw [accErr_ok (prod_good g2 hl _) fa]; rfl))
        have HR := Lib.hid (fun W v (h : DfaAt W W.heap.size v (autOf d0.L (S2 d0 d1) l (fun p => (fun x y => x && !y) (finA d0 p.1) (finA d1 p.2)))) (hZ : IntsAt W W.heap.size A2 z2) => acc_gives (cz := c2) (E := .nilIface) h hZ hr ((accOut_ok (prod_good g2 hl _) fa).trans (prod_acc g2 hl (fun x y => x && !y) (fine_word fa))) (by rw [accErr_ok (prod_good g2 hl _) fa]; rfl))
        clear  ga gb Ga Gb fa fb hl g2 hL
        generalize accA d0 z2 = x at *
        generalize accA d1 z2 = y at *
        generalize autOf d0.L (S2 d0 d1) l (fun p => (fun x y => x && y) (finA d0 p.1) (finA d1 p.2)) = P at *
        generalize autOf d0.L (S2 d0 d1) l (fun p => (fun x y => x || y) (finA d0 p.1) (finA d1 p.2)) = Q at *
        generalize autOf d0.L (S2 d0 d1) l (fun p => (fun x y => x && !y) (finA d0 p.1) (finA d1 p.2)) = R at *
        rcases x with _ | _ <;> rcases y with _ | _
        all_goals
          obtain ⟨L0, s0, A0, n0, c0, F0, m0, k0, rfl⟩ := h0.form
          obtain ⟨L1, s1, A1, n1, c1, F1, m1, k1, rfl⟩ := h1.form
          obtain ⟨u0, hu0, hb0, VA0, VB0⟩ := vars_two w h0 h1
          have VA := Lib.hid VA0
          have VB := Lib.hid VB0
          have B := Lib.hid hb0
          have W0 := Lib.hid hu0
          have Z := Lib.hid (Z2.on hb0)
          clear VA0 VB0 hb0 hu0 h0 h1 Z2
          go_enter Try.func3, Try.ntmps3
          go_wp2_with fail
          rw [← W0.out]
          refine (known_any _).mono ?_
          rintro e u1 ⟨rfl, hb⟩
          have VA := Lib.hid (VA.out.on hb)
          have VB := Lib.hid (VB.out.on hb)
          have Z := Lib.hid (Z.out.on hb)
          have B := Lib.hid (B.out.trans (hb.mono B.out.size))
          clear hb W0
          obtain ⟨p0, p1, p2, p3, p4⟩ := VA.out.box
          go_wp2_with fail
          refine (HAa.out _ _ VA.out.at_ Z.out).mono ?_
          rintro e u2 ⟨rfl, hb⟩
          have VA := Lib.hid (VA.out.on hb)
          have VB := Lib.hid (VB.out.on hb)
          have Z := Lib.hid (Z.out.on hb)
          have B := Lib.hid (B.out.trans (hb.mono B.out.size))
          clear hb  p0 p1 p2 p3 p4 HAa
          obtain ⟨p0, p1, p2, p3, p4⟩ := VB.out.box
          go_wp2_with fail
          refine (HAb.out _ _ VB.out.at_ Z.out).mono ?_
          rintro e u3 ⟨rfl, hb⟩
          have VA := Lib.hid (VA.out.on hb)
          have VB := Lib.hid (VB.out.on hb)
          have Z := Lib.hid (Z.out.on hb)
          have B := Lib.hid (B.out.trans (hb.mono B.out.size))
          clear hb  p0 p1 p2 p3 p4 HAb
          obtain ⟨p0, p1, p2, p3, p4⟩ := VA.out.box
          go_wp2_with fail
          refine (HNa.out _ _ VA.out.at_).mono ?_
          rintro e u4 ⟨L14, s14, A14, n14, c14, F14, m14, k14, rfl, hd, hb⟩
          have VA := Lib.hid (VA.out.on hb)
          have VB := Lib.hid (VB.out.on hb)
          have Z := Lib.hid (Z.out.on hb)
          have B := Lib.hid (B.out.trans (hb.mono B.out.size))
          clear hb  p0 p1 p2 p3 p4 HNa
          obtain ⟨x4, hx4, hb, Vn⟩ := var_new u4 hd.out
          have HX := Lib.hid hx4
          have Vn := Lib.hid Vn
          have VA := Lib.hid (VA.out.on hb)
          have VB := Lib.hid (VB.out.on hb)
          have Z := Lib.hid (Z.out.on hb)
          have B := Lib.hid (B.out.trans (hb.mono B.out.size))
          clear hb hd hx4
          go_wp2_with fail
          rw [← HX.out]
          clear HX
          have VN := Vn
          clear Vn
          refine (HAn.out _ _ VN.out.at_ Z.out).mono ?_
          rintro e u5 ⟨rfl, hb⟩
          have VA := Lib.hid (VA.out.on hb)
          have VB := Lib.hid (VB.out.on hb)
          have VN := Lib.hid (VN.out.on hb)
          have Z := Lib.hid (Z.out.on hb)
          have B := Lib.hid (B.out.trans (hb.mono B.out.size))
          clear hb  HAn
          clear VN
          obtain ⟨p0, p1, p2, p3, p4⟩ := VA.out.box
          obtain ⟨q0, q1, q2, q3, q4⟩ := VB.out.box
          go_wp2_with fail
          refine (HB.out _ _ _ VA.out.at_ VB.out.at_).mono ?_
          rintro e u6 ⟨L16, s16, A16, n16, c16, F16, m16, k16, rfl, hd, hb⟩
          have VA := Lib.hid (VA.out.on hb)
          have VB := Lib.hid (VB.out.on hb)
          have Z := Lib.hid (Z.out.on hb)
          have B := Lib.hid (B.out.trans (hb.mono B.out.size))
          clear hb  p0 p1 p2 p3 p4 q0 q1 q2 q3 q4 HB
          obtain ⟨p0, p1, p2, p3, p4⟩ := VA.out.box
          obtain ⟨q0, q1, q2, q3, q4⟩ := VB.out.box
          obtain ⟨x6, hx6, hb, Vn⟩ := var_new u6 hd.out
          have HX := Lib.hid hx6
          have Vn := Lib.hid Vn
          have VA := Lib.hid (VA.out.on hb)
          have VB := Lib.hid (VB.out.on hb)
          have Z := Lib.hid (Z.out.on hb)
          have B := Lib.hid (B.out.trans (hb.mono B.out.size))
          clear hb hd hx6
          go_wp2_with fail
          rw [← HX.out]
          clear HX
          have VP := Vn
          clear Vn
          refine (HE.out _ _ _ VA.out.at_ VB.out.at_).mono ?_
          rintro e u7 ⟨L17, s17, A17, n17, c17, F17, m17, k17, rfl, hd, hb⟩
          have VA := Lib.hid (VA.out.on hb)
          have VB := Lib.hid (VB.out.on hb)
          have VP := Lib.hid (VP.out.on hb)
          have Z := Lib.hid (Z.out.on hb)
          have B := Lib.hid (B.out.trans (hb.mono B.out.size))
          clear hb  p0 p1 p2 p3 p4 q0 q1 q2 q3 q4 HE
          obtain ⟨p0, p1, p2, p3, p4⟩ := VA.out.box
          obtain ⟨q0, q1, q2, q3, q4⟩ := VB.out.box
          obtain ⟨x7, hx7, hb, Vn⟩ := var_new u7 hd.out
          have HX := Lib.hid hx7
          have Vn := Lib.hid Vn
          have VA := Lib.hid (VA.out.on hb)
          have VB := Lib.hid (VB.out.on hb)
          have VP := Lib.hid (VP.out.on hb)
          have Z := Lib.hid (Z.out.on hb)
          have B := Lib.hid (B.out.trans (hb.mono B.out.size))
          clear hb hd hx7
          go_wp2_with fail
          rw [← HX.out]
          clear HX
          have VQ := Vn
          clear Vn
          refine (HU.out _ _ _ VA.out.at_ VB.out.at_).mono ?_
          rintro e u8 ⟨L18, s18, A18, n18, c18, F18, m18, k18, rfl, hd, hb⟩
          have VA := Lib.hid (VA.out.on hb)
          have VB := Lib.hid (VB.out.on hb)
          have VP := Lib.hid (VP.out.on hb)
          have VQ := Lib.hid (VQ.out.on hb)
          have Z := Lib.hid (Z.out.on hb)
          have B := Lib.hid (B.out.trans (hb.mono B.out.size))
          clear hb  p0 p1 p2 p3 p4 q0 q1 q2 q3 q4 HU
          obtain ⟨p0, p1, p2, p3, p4⟩ := VP.out.box
          obtain ⟨x8, hx8, hb, Vn⟩ := var_new u8 hd.out
          have HX := Lib.hid hx8
          have Vn := Lib.hid Vn
          have VA := Lib.hid (VA.out.on hb)
          have VB := Lib.hid (VB.out.on hb)
          have VP := Lib.hid (VP.out.on hb)
          have VQ := Lib.hid (VQ.out.on hb)
          have Z := Lib.hid (Z.out.on hb)
          have B := Lib.hid (B.out.trans (hb.mono B.out.size))
          clear hb hd hx8
          go_wp2_with fail
          rw [← HX.out]
          clear HX
          have VR := Vn
          clear Vn
          refine (HP.out _ _ VP.out.at_ Z.out).mono ?_
          rintro e u9 ⟨rfl, hb⟩
          have VA := Lib.hid (VA.out.on hb)
          have VB := Lib.hid (VB.out.on hb)
          have VP := Lib.hid (VP.out.on hb)
          have VQ := Lib.hid (VQ.out.on hb)
          have VR := Lib.hid (VR.out.on hb)
          have Z := Lib.hid (Z.out.on hb)
          have B := Lib.hid (B.out.trans (hb.mono B.out.size))
          clear hb  p0 p1 p2 p3 p4 HP
          obtain ⟨p0, p1, p2, p3, p4⟩ := VQ.out.box
          go_wp2_with fail
          refine (HQ.out _ _ VQ.out.at_ Z.out).mono ?_
          rintro e u10 ⟨rfl, hb⟩
          have VA := Lib.hid (VA.out.on hb)
          have VB := Lib.hid (VB.out.on hb)
          have VP := Lib.hid (VP.out.on hb)
          have VQ := Lib.hid (VQ.out.on hb)
          have VR := Lib.hid (VR.out.on hb)
          have Z := Lib.hid (Z.out.on hb)
          have B := Lib.hid (B.out.trans (hb.mono B.out.size))
          clear hb  p0 p1 p2 p3 p4 HQ
          obtain ⟨p0, p1, p2, p3, p4⟩ := VR.out.box
          go_wp2_with fail
          refine (HR.out _ _ VR.out.at_ Z.out).mono ?_
          rintro e u11 ⟨rfl, hb⟩
          have VA := Lib.hid (VA.out.on hb)
          have VB := Lib.hid (VB.out.on hb)
          have VP := Lib.hid (VP.out.on hb)
          have VQ := Lib.hid (VQ.out.on hb)
          have VR := Lib.hid (VR.out.on hb)
          have Z := Lib.hid (Z.out.on hb)
          have B := Lib.hid (B.out.trans (hb.mono B.out.size))
          clear hb  p0 p1 p2 p3 p4 HR
          go_wp2
          go_ret
          exact ⟨rfl, B.out⟩
    · obtain ⟨x, hx⟩ := errV_bad gb
      obtain ⟨Ga, fa⟩ := accErr_good ga
      have HAa := Lib.hid (fun W v (h : DfaAt W W.heap.size v d0) (hZ : IntsAt W W.heap.size A2 z2) => acc_gives (cz := c2) (E := .nilIface) h hZ hr (accOut_ok Ga fa) (by rw [ga]; rfl))
      have HAb := Lib.hid (fun W v (h : DfaAt W W.heap.size v d1) (hZ : IntsAt W W.heap.size A2 z2) => acc_gives (cz := c2) h hZ hr rfl hx)
      clear ga gb hx Ga fa
      generalize errV (notOut d0).2 = E at *
      generalize (notOut d0).1 = N at *
      generalize accA d0 z2 = bx at *
      generalize accOut d1 z2 = by' at *
      obtain ⟨L0, s0, A0, n0, c0, F0, m0, k0, rfl⟩ := h0.form
      obtain ⟨L1, s1, A1, n1, c1, F1, m1, k1, rfl⟩ := h1.form
      obtain ⟨u0, hu0, hb0, VA0, VB0⟩ := vars_two w h0 h1
      have VA := Lib.hid VA0
      have VB := Lib.hid VB0
      have B := Lib.hid hb0
      have W0 := Lib.hid hu0
      have Z := Lib.hid (Z2.on hb0)
      clear VA0 VB0 hb0 hu0 h0 h1 Z2
      go_enter Try.func3, Try.ntmps3
      go_wp2_with fail
      rw [← W0.out]
      refine (known_any _).mono ?_
      rintro e u1 ⟨rfl, hb⟩
      have VA := Lib.hid (VA.out.on hb)
      have VB := Lib.hid (VB.out.on hb)
      have Z := Lib.hid (Z.out.on hb)
      have B := Lib.hid (B.out.trans (hb.mono B.out.size))
      clear hb W0
      obtain ⟨p0, p1, p2, p3, p4⟩ := VA.out.box
      go_wp2_with fail
      refine (HAa.out _ _ VA.out.at_ Z.out).mono ?_
      rintro e u2 ⟨rfl, hb⟩
      have VA := Lib.hid (VA.out.on hb)
      have VB := Lib.hid (VB.out.on hb)
      have Z := Lib.hid (Z.out.on hb)
      have B := Lib.hid (B.out.trans (hb.mono B.out.size))
      clear hb  p0 p1 p2 p3 p4 HAa
      obtain ⟨p0, p1, p2, p3, p4⟩ := VB.out.box
      go_wp2_with fail
      refine (HAb.out _ _ VB.out.at_ Z.out).mono ?_
      rintro e u3 ⟨rfl, hb⟩
      have VA := Lib.hid (VA.out.on hb)
      have VB := Lib.hid (VB.out.on hb)
      have Z := Lib.hid (Z.out.on hb)
      have B := Lib.hid (B.out.trans (hb.mono B.out.size))
      clear hb  p0 p1 p2 p3 p4 HAb
      obtain ⟨p0, p1, p2, p3, p4⟩ := VA.out.box
      go_wp2_with fail
      refine (HNa.out _ _ VA.out.at_).mono ?_
      rintro e u4 ⟨L14, s14, A14, n14, c14, F14, m14, k14, rfl, hd, hb⟩
      have VA := Lib.hid (VA.out.on hb)
      have VB := Lib.hid (VB.out.on hb)
      have Z := Lib.hid (Z.out.on hb)
      have B := Lib.hid (B.out.trans (hb.mono B.out.size))
      clear hb  p0 p1 p2 p3 p4 HNa
      have HY := Lib.hid (B.out.trans ((below_alloc _ (.cells #[.int .i64 L14, .int .i64 s14, .slice A14 n14 c14, .slice F14 m14 k14] 25)).mono B.out.size))
      clear hd B
      go_wp2
      go_ret
      exact ⟨rfl, HY.out⟩
  · obtain ⟨x, hx⟩ := errV_bad ga
    have HAa := Lib.hid (fun W v (h : DfaAt W W.heap.size v d0) (hZ : IntsAt W W.heap.size A2 z2) => acc_gives (cz := c2) h hZ hr rfl hx)
    clear ga hx
    generalize errV (notOut d0).2 = E at *
    generalize (notOut d0).1 = N at *
    generalize errV (accErr d1 z2) = E1 at *
    generalize accOut d0 z2 = bx at *
    generalize accOut d1 z2 = by' at *
    obtain ⟨L0, s0, A0, n0, c0, F0, m0, k0, rfl⟩ := h0.form
    obtain ⟨L1, s1, A1, n1, c1, F1, m1, k1, rfl⟩ := h1.form
    obtain ⟨u0, hu0, hb0, VA0, VB0⟩ := vars_two w h0 h1
    have VA := Lib.hid VA0
    have VB := Lib.hid VB0
    have B := Lib.hid hb0
    have W0 := Lib.hid hu0
    have Z := Lib.hid (Z2.on hb0)
    clear VA0 VB0 hb0 hu0 h0 h1 Z2
    go_enter Try.func3, Try.ntmps3
    go_wp2_with fail
    rw [← W0.out]
    refine (known_any _).mono ?_
    rintro e u1 ⟨rfl, hb⟩
    have VA := Lib.hid (VA.out.on hb)
    have VB := Lib.hid (VB.out.on hb)
    have Z := Lib.hid (Z.out.on hb)
    have B := Lib.hid (B.out.trans (hb.mono B.out.size))
    clear hb W0
    obtain ⟨p0, p1, p2, p3, p4⟩ := VA.out.box
    go_wp2_with fail
    refine (HAa.out _ _ VA.out.at_ Z.out).mono ?_
    rintro e u2 ⟨rfl, hb⟩
    have VA := Lib.hid (VA.out.on hb)
    have VB := Lib.hid (VB.out.on hb)
    have Z := Lib.hid (Z.out.on hb)
    have B := Lib.hid (B.out.trans (hb.mono B.out.size))
    clear hb  p0 p1 p2 p3 p4 HAa
    obtain ⟨p0, p1, p2, p3, p4⟩ := VB.out.box
    go_wp2_with fail
    refine (HAb.out _ _ VB.out.at_ Z.out).mono ?_
    rintro e u3 ⟨rfl, hb⟩
    have VA := Lib.hid (VA.out.on hb)
    have VB := Lib.hid (VB.out.on hb)
    have Z := Lib.hid (Z.out.on hb)
    have B := Lib.hid (B.out.trans (hb.mono B.out.size))
    clear hb  p0 p1 p2 p3 p4 HAb
    obtain ⟨p0, p1, p2, p3, p4⟩ := VA.out.box
    go_wp2_with fail
    refine (HNa.out _ _ VA.out.at_).mono ?_
    rintro e u4 ⟨L14, s14, A14, n14, c14, F14, m14, k14, rfl, hd, hb⟩
    have VA := Lib.hid (VA.out.on hb)
    have VB := Lib.hid (VB.out.on hb)
    have Z := Lib.hid (Z.out.on hb)
    have B := Lib.hid (B.out.trans (hb.mono B.out.size))
    clear hb  p0 p1 p2 p3 p4 HNa
    have HY := Lib.hid (B.out.trans ((below_alloc _ (.cells #[.int .i64 L14, .int .i64 s14, .slice A14 n14 c14, .slice F14 m14 k14] 25)).mono B.out.size))
    clear hd B
    go_wp2
    go_ret
    exact ⟨rfl, HY.out⟩


set_option maxRecDepth 100000 in
theorem lifted (os : Os) (started : os.Started) (H : Type) (enc : TypeId × Value → H) :
    ReturnsInHanded {} Try.checked os 3 .any (Rows.dfaMeansSpec.pre6 enc Try.prog Try.f3 Rows.dfaMeansRow.domain false) (Rows.dfaMeansSpec.post enc Try.prog Try.f3 false true false false) := by
  refine returnsInHanded_of_change_sized (C := Try.checked) own started (by kernel_rfl) Try.func3
    (ChangeSpec.witness6 (enc := enc) (C := Try.checked) false ⟨#[], #[.agg #[.int .i64 0, .int .i64 0, .slice none 0 0, .slice none 0 0], .agg #[.int .i64 0, .int .i64 0, .slice none 0 0, .slice none 0 0], .slice none 0 0], []⟩ 8 (by kernel_rfl) (by kernel_rfl) (by kernel_rfl) (by kernel_rfl)) ?_
  intro W base args ds gs before hval0 hW hcnd hsz0 _
  have hval : ∀ (j : Nat) t v, Try.f3.params[j]? = some t → args[j]? = some v → Value.okWide Try.prog W .any base t v := hval0
  have hsz : (DataW.weightsEach Try.prog (Try.f3.params.toList ++ Rows.dfaMeansSpec.plain.varTypes Try.prog) (ds ++ gs)).all (· ≤ reachBytes) = true := hsz0
  have hW' := hW
  obtain ⟨p, q, hA0, hV0, rfl, hfz, hnd⟩ := hW
  have hV : DataW.TrodVars enc Try.prog W (fun _ => true) [] gs q := hV0
  have hA : DataW.TrodAll enc Try.prog W 0 (fun _ => true) true Try.f3.params.toList args.toList ds p := hA0
  rw [Try.params3] at hA hval hsz
  obtain ⟨v0, vs0, d0, ds0, p0, q0, hargs, rfl, rfl, h0, rr0⟩ := trodAll_cons hA
  obtain ⟨v1, vs1, d1, ds1, p1, q1, rfl, rfl, rfl, h1, rr1⟩ := trodAll_cons rr0
  obtain ⟨v2, vs2, d2, ds2, p2, q2, rfl, rfl, rfl, h2, rr2⟩ := trodAll_cons rr1
  obtain ⟨rfl, rfl, rfl⟩ := trodAll_nil rr2
  obtain rfl : args = #[v0, v1, v2] := by cases args; simp_all
  obtain ⟨rfl, rfl⟩ := trodVars_none hV
  have k0 := h0
  have lt0 : ∀ x ∈ p0, x.block < W.heap.size := by obtain ⟨m, hm⟩ := k0; exact DataW.trod_lt m _ _ _ hm
  have k1 := h1
  have lt1 : ∀ x ∈ p1, x.block < W.heap.size := by obtain ⟨m, hm⟩ := k1; exact DataW.trod_lt m _ _ _ hm
  have k2 := h2
  have lt2 : ∀ x ∈ p2, x.block < W.heap.size := by obtain ⟨m, hm⟩ := k2; exact DataW.trod_lt m _ _ _ hm
  obtain ⟨D0, x0⟩ : ∃ d : Df.Aut, Df.DfaAt W W.heap.size v0 d := Df.dfa_open (hval 0 25 v0 rfl rfl) h0
  obtain ⟨D1, x1⟩ : ∃ d : Df.Aut, Df.DfaAt W W.heap.size v1 d := Df.dfa_open (hval 1 25 v1 rfl rfl) h1
  obtain ⟨A2, len2, c2, rfl⟩ := okWide_slice Try.underlying26 (hval 2 26 v2 rfl rfl)
  obtain ⟨z2, rfl, x2, r2, m2⟩ : ∃ zs : List Int, len2 = zs.length ∧ IntsAt W W.heap.size A2 zs ∧ zs.length ≤ 17592186043904 ∧ zs.length ≤ c2 := by
    obtain ⟨fuel, hf⟩ := h2
    rcases open_ints Try.underlying26 Try.underlying3 (by kernel_rfl) hf with ⟨hcs, _⟩ | ⟨x, l, c, zs, hcs, _, hl, hm, hz, hx, hcell, hwz⟩
    · simp [Value.cells] at hcs
      obtain ⟨rfl, rfl, rfl⟩ := hcs
      exact ⟨[], rfl, IntsAt.nil _ _ _, by simp, by simp⟩
    · simp [Value.cells] at hcs
      obtain ⟨rfl, rfl, rfl⟩ := hcs
      have hd := congrArg Prod.fst hx
      simp only at hd
      have := sized_slice hsz (j := 2) (t := 26) (e := 3) rfl (by rw [hd]; rfl) Try.underlying26
      rw [(show Try.prog.bytesOf 3 = 8 by kernel_rfl)] at this
      simp only [reachBytes, lits, List.length_map, List.length_take, List.length_drop] at this
      have hz' : zs.length = c2 := by simpa using hz
      exact ⟨zs.take len2, by rw [List.length_take]; omega, intsAt_of_open hcell hwz len2, by rw [List.length_take]; omega, by rw [List.length_take]; omega⟩
  clear hA0 hval0
  refine (walk v0 D0 v1 D1 A2 c2 z2 W x0 x1 x2 r2 m2).mono fun e W' ⟨he, bel⟩ => ?_
  subst he
  exact ⟨_, rfl, _, _, _, [], _, [], hW', trodAll_mk1 (shut_bool Try.underlying4 _), (trodAll_cons_mk (Below.trod laidOut (by kernel_rfl) (of_decide_eq_true (by kernel_rfl)) k0 bel lt0) (trodAll_cons_mk (Below.trod laidOut (by kernel_rfl) (of_decide_eq_true (by kernel_rfl)) k1 bel lt1) (trodAll_cons_mk (Below.trod laidOut (by kernel_rfl) (of_decide_eq_true (by kernel_rfl)) k2 bel lt2) trodAll_mk0))), rfl, bel.frame _, fun h => by cases h⟩

theorem over : Rows.dfaMeansRow.holds Try.pinned (OpenSpec.ofChange Rows.dfaMeansSpec) :=
  OpenClaim.holds_of_wide 3 Try.f3 rfl rfl rfl rfl rfl rfl rfl ⟨rfl, rfl, rfl, rfl, rfl⟩ rfl rfl rfl rfl rfl (by kernel_rfl) Try.func3 (by kernel_rfl)
    (of_decide_eq_true (by kernel_rfl)) (by unfold Func.isWrapper; rw [if_neg (of_decide_eq_false (by kernel_rfl))]; exact ⟨rfl, rfl⟩)
    (fun os started H enc _ => lifted os started H enc)
theorem proved : Rows.DfaMeansSaid := over
#print axioms proved
end Go.Proofs.Ytloihkoamccacaa.dfaMeans
