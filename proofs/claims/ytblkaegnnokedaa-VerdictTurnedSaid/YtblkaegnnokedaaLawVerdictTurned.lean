/-
  The statement VerdictTurnedSaid of this seat, proved: for every input the law returns true and its arguments read behind the call as before. Conditions: none but the row's own (each argument within the reach).
-/
import Derived.Test.YtblkaegnnokedaaRows
import Derived.Test.YtblkaegnnokedaaWords
import Derived.WalkKit
import Derived.ProofKit
import Derived.OpenShut
import Derived.ShutString
import Derived.ChangeOld
import Derived.Below
import Derived.SizedLaws
import Derived.Lib.Hide
import Derived.Test.YtblkaegnnokedaaVerW
import Derived.Test.YtblkaegnnokedaaFew
import Derived.Test.YtblkaegnnokedaaDfaV
import Derived.Test.YtblkaegnnokedaaDfaK
namespace Go.Proofs.Ytblkaegnnokedaa.verdictTurned
open Go.ChangeShapes Go.WideShapes Go.ChangeAt Go.RowKit Go.IntWalk Go.Proofs.Ytblkaegnnokedaa.Wd
open Go.ChangeMaps (open_string shut_string)
set_option linter.unusedVariables false

theorem own : ownKnob Try.prog.godebug = none := by kernel_rfl
theorem laidOut : laidOutB Try.prog = true := by kernel_rfl
open Go.Proofs.Ytblkaegnnokedaa.Wo Go.Proofs.Ytblkaegnnokedaa.Df Go.Proofs.Ytblkaegnnokedaa.Rc Go.Proofs.Ytblkaegnnokedaa.Sm Go.Proofs.Ytblkaegnnokedaa.Mp Go.Proofs.Ytblkaegnnokedaa.Sa Go.Proofs.Ytblkaegnnokedaa.Ve
set_option maxRecDepth 100000 in
theorem few_of : ofOut fewA [1] = (2, 0) := by decide +kernel
theorem fact_gives (W : World) (v : Value) (h : DfaAt W W.heap.size v fewA) : Calls Try.prog 5 #[v, .slice (some ⟨W.heap.size, 0, none⟩) 1 1] (W.alloc (.cells #[.int .i64 1] 3)) fun e w' => e = .returned (.tuple #[.int .i64 2, .nilIface]) ∧ Below W.heap.size W w' :=
  (of_gives (cz := 1) (h.on (below_alloc _ _)) (lit_one W 1 ⟨by decide, by decide⟩) (by simp) few_of rfl).mono fun e w' ⟨h1, h2⟩ => ⟨h1, (below_alloc _ _).trans (h2.mono (below_alloc W (.cells #[.int .i64 1] 3)).size)⟩

set_option maxRecDepth 100000 in
set_option maxHeartbeats 4000000 in
theorem walk (v0 : Value) (d0 : Df.Aut) (v1 : Value) (d1 : Df.Aut) (A2 : Option Addr) (c2 : Nat) (z2 : List Int) (w : World) (h0 : Df.DfaAt w w.heap.size v0 d0) (h1 : Df.DfaAt w w.heap.size v1 d1) (v2 : IntsAt w w.heap.size A2 z2) (r2 : z2.length ≤ 17592186043904) (m2 : z2.length ≤ c2) :
    Calls Try.prog 4 #[v0, v1, .slice A2 z2.length c2] w fun e w' => e = .returned (.bool true) ∧ Below w.heap.size w w' := by
  have hr : z2.length ≤ 17592186044416 := by omega
  obtain ⟨L0, s0, A0, n0, c0, F0, m0, k0, rfl⟩ := h0.form
  have hN0 := h0.eqs.2.2.1
  obtain ⟨L1, s1, A1, n1, c1, F1, m1, k1, rfl⟩ := h1.form
  have hN1 := h1.eqs.2.2.1
  obtain ⟨u0, hu0, hb0, VA0, VB0⟩ := vars_two w h0 h1
  have VA := Lib.hid VA0
  have VB := Lib.hid VB0
  have B := Lib.hid hb0
  have W0 := Lib.hid hu0
  have HN0 := Lib.hid hN0
  have HN1 := Lib.hid hN1
  have Z := Lib.hid (v2.on hb0)
  clear VA0 hb0 hu0 h0 hN0 VB0 h1 hN1 v2
  clear m2 r2 HN0 HN1
  have HFew := Lib.hid few_any
  have HFact := Lib.hid fact_gives
  by_cases ga : accErr d0 z2 = 0
  · obtain ⟨Ga, fa⟩ := accErr_good ga
    have fw := fine_word fa
    have gn := notA_good Ga
    have fn : Wo.Fine (notA d0).L z2 := fa
    have hl := Ga.run_lt fw Ga.s_lt
    have hy : ofOut (notA d0) z2 = (((3 - verd d0 (runA d0 d0.s.toNat z2) : Nat) : Int), 0) := by
      rw [ofOut_ok (accErr_ok gn fn)]
      show (((verd (notA d0) (runA d0 d0.s.toNat z2) : Nat) : Int), 0) = _
      rw [verd_not Ga hl]
    have HX := Lib.hid (fun W v (h : DfaAt W W.heap.size v d0) (hZ : IntsAt W W.heap.size A2 z2) => of_gives (cz := c2) (E := .nilIface) h hZ hr (ofOut_ok ga) rfl)
    have HN := Lib.hid (fun W v (h : DfaAt W W.heap.size v d0) => not_gives (E := .nilIface) h (notOut_ok Ga) rfl)
    have HY := Lib.hid (fun W v (h : DfaAt W W.heap.size v (notA d0)) (hZ : IntsAt W W.heap.size A2 z2) => of_gives (cz := c2) (E := .nilIface) h hZ hr hy rfl)
    have hx3 := verd_le d0 (runA d0 d0.s.toNat z2)
    by_cases gb : accErr d1 z2 = 0
    · obtain ⟨Gb, fb⟩ := accErr_good gb
      rcases prod_two d0 d1 with ⟨k, hp⟩ | ⟨gg, l, hf⟩
      · have HP := Lib.hid (fun W v (h : DfaAt W W.heap.size v d1) (hZ : IntsAt W W.heap.size A2 z2) => of_gives (cz := c2) (E := .nilIface) h hZ hr (ofOut_ok gb) rfl)
        have HBo := Lib.hid (fun W v z (h : DfaAt W W.heap.size v d0) (h2 : DfaAt W W.heap.size z d1) => both_gives (E := errI ((k + 1 : Nat) : Int)) h h2 (hp _) rfl)
        obtain ⟨x, hx⟩ : ∃ x : Int, ((verd d0 (runA d0 d0.s.toNat z2) : Nat) : Int) = x := ⟨_, rfl⟩
        have hy3 : ((3 - verd d0 (runA d0 d0.s.toNat z2) : Nat) : Int) = 3 - x := by omega
        rw [hx] at HX
        rw [hy3] at HY
        have hx0 : 0 ≤ x := by omega
        have hx1 : x ≤ 3 := by omega
        have hne : (3 - x != 3 - x) = false := bne_self_eq_false _
        clear ga gb Ga Gb fa fb fw gn fn hl hy hp hx hy3 hx3 hr
        generalize ((verd d1 (runA d1 d1.s.toNat z2) : Nat) : Int) = p at *
        generalize notA d0 = N at *
        generalize ((k + 1 : Nat) : Int) = e at *
        go_enter Try.func4, Try.ntmps4
        go_wp2_with fail
        rw [← W0.out]
        clear W0
        refine (HFew.out _).mono ?_
        rintro e u1 he
        obtain ⟨xf, rfl, hof⟩ := he.out
        have hb := hof.below
        have hat := hof.at_
        obtain ⟨Lf, sf, Af, nf, cf, Ff, mf, kf, rfl⟩ := hat.form
        have Z := Lib.hid (Z.out.on hb)
        have VA := Lib.hid (VA.out.on hb)
        have VB := Lib.hid (VB.out.on hb)
        have B := Lib.hid (B.out.trans (hb.mono B.out.size))
        have HAt := Lib.hid hat
        clear he hof hb hat HFew
        go_wp2_with fail
        refine (HFact.out _ _ HAt.out).mono ?_
        rintro e u2 ⟨rfl, hb⟩
        have Z := Lib.hid (Z.out.on hb)
        have VA := Lib.hid (VA.out.on hb)
        have VB := Lib.hid (VB.out.on hb)
        have B := Lib.hid (B.out.trans (hb.mono B.out.size))
        clear hb  HFact HAt
        obtain ⟨p0, p1, p2, p3, p4⟩ := VA.out.box
        go_wp2_with fail
        refine (HX.out _ _ VA.out.at_ Z.out).mono ?_
        rintro e u3 ⟨rfl, hb⟩
        have Z := Lib.hid (Z.out.on hb)
        have VA := Lib.hid (VA.out.on hb)
        have VB := Lib.hid (VB.out.on hb)
        have B := Lib.hid (B.out.trans (hb.mono B.out.size))
        clear hb p0 p1 p2 p3 p4 HX
        obtain ⟨p0, p1, p2, p3, p4⟩ := VA.out.box
        go_wp2_with fail
        refine (HN.out _ _ VA.out.at_).mono ?_
        rintro e u4 ⟨L14, s14, A14, n14, c14, F14, m14, k14, rfl, hd, hb⟩
        have Z := Lib.hid (Z.out.on hb)
        have VA := Lib.hid (VA.out.on hb)
        have VB := Lib.hid (VB.out.on hb)
        have B := Lib.hid (B.out.trans (hb.mono B.out.size))
        clear hb p0 p1 p2 p3 p4 HN
        obtain ⟨x4, hx4, hbn, Vn⟩ := var_new u4 hd.out
        have VN := Lib.hid Vn
        have Z := Lib.hid (Z.out.on hbn)
        have VA := Lib.hid (VA.out.on hbn)
        have VB := Lib.hid (VB.out.on hbn)
        have B := Lib.hid (B.out.trans (hbn.mono B.out.size))
        clear hbn Vn hd
        obtain ⟨p0, p1, p2, p3, p4⟩ := VN.out.box
        rw [hx4] at p1 p2 p3 p4
        have HX := Lib.hid hx4
        clear hx4
        go_wp2_with fail
        rw [← HX.out]
        clear HX
        refine (HY.out _ _ VN.out.at_ Z.out).mono ?_
        rintro e u5 ⟨rfl, hb⟩
        have Z := Lib.hid (Z.out.on hb)
        have VA := Lib.hid (VA.out.on hb)
        have VB := Lib.hid (VB.out.on hb)
        have VN := Lib.hid (VN.out.on hb)
        have B := Lib.hid (B.out.trans (hb.mono B.out.size))
        clear hb p0 p1 p2 p3 p4 HY
        obtain ⟨p0, p1, p2, p3, p4⟩ := VB.out.box
        go_wp2_with fail
        refine (HP.out _ _ VB.out.at_ Z.out).mono ?_
        rintro e u6 ⟨rfl, hb⟩
        have Z := Lib.hid (Z.out.on hb)
        have VA := Lib.hid (VA.out.on hb)
        have VB := Lib.hid (VB.out.on hb)
        have VN := Lib.hid (VN.out.on hb)
        have B := Lib.hid (B.out.trans (hb.mono B.out.size))
        clear hb p0 p1 p2 p3 p4 HP
        obtain ⟨p0, p1, p2, p3, p4⟩ := VA.out.box
        obtain ⟨q0, q1, q2, q3, q4⟩ := VB.out.box
        go_wp2_with fail
        refine (HBo.out _ _ _ VA.out.at_ VB.out.at_).mono ?_
        rintro e u7 ⟨L17, s17, A17, n17, c17, F17, m17, k17, rfl, hd, hb⟩
        have Z := Lib.hid (Z.out.on hb)
        have VA := Lib.hid (VA.out.on hb)
        have VB := Lib.hid (VB.out.on hb)
        have VN := Lib.hid (VN.out.on hb)
        have B := Lib.hid (B.out.trans (hb.mono B.out.size))
        clear hb p0 p1 p2 p3 p4 q0 q1 q2 q3 q4 HBo
        obtain ⟨x7, hx7, hbn, Vn⟩ := var_new u7 hd.out
        have VO := Lib.hid Vn
        have Z := Lib.hid (Z.out.on hbn)
        have VA := Lib.hid (VA.out.on hbn)
        have VB := Lib.hid (VB.out.on hbn)
        have VN := Lib.hid (VN.out.on hbn)
        have B := Lib.hid (B.out.trans (hbn.mono B.out.size))
        clear hbn Vn hd
        rw [hx7] at B
        clear hx7
        go_wp2
        go_ret
        exact ⟨rfl, B.out⟩
      · have HP := Lib.hid (fun W v (h : DfaAt W W.heap.size v d1) (hZ : IntsAt W W.heap.size A2 z2) => of_gives (cz := c2) (E := .nilIface) h hZ hr (ofOut_ok gb) rfl)
        have HBo := Lib.hid (fun W v z (h : DfaAt W W.heap.size v d0) (h2 : DfaAt W W.heap.size z d1) => both_gives (E := .nilIface) h h2 (prod_ok gg hf _) rfl)
        have gO := prod_good gg hf (fun p => finA d0 p.1 && finA d1 p.2)
        have hacc := fun (u : List Int) (hu : Word d0.L u) => prod_acc gg hf (fun p q => p && q) hu
        have eL : (autOf d0.L (S2 d0 d1) l (fun p => finA d0 p.1 && finA d1 p.2)).L = d0.L := rfl
        generalize autOf d0.L (S2 d0 d1) l (fun p => finA d0 p.1 && finA d1 p.2) = O at *
        have fo : Wo.Fine O.L z2 := by rw [eL]; exact fa
        obtain ⟨b1, b2, b3⟩ := both_le Ga Gb gO eL.symm (gg.eL.symm.trans eL.symm) (fun w hw => hacc w (by rw [← eL]; exact hw)) (w := z2) (by rw [eL]; exact fw)
        have HQ := Lib.hid (fun W v (h : DfaAt W W.heap.size v O) (hZ : IntsAt W W.heap.size A2 z2) => of_gives (cz := c2) (E := .nilIface) h hZ hr (ofOut_ok (accErr_ok gO fo)) rfl)
        obtain ⟨x, hx⟩ : ∃ x : Int, ((verd d0 (runA d0 d0.s.toNat z2) : Nat) : Int) = x := ⟨_, rfl⟩
        have hy3 : ((3 - verd d0 (runA d0 d0.s.toNat z2) : Nat) : Int) = 3 - x := by omega
        rw [hx] at HX
        rw [hy3] at HY
        have hx0 : 0 ≤ x := by omega
        have hx1 : x ≤ 3 := by omega
        have hne : (3 - x != 3 - x) = false := bne_self_eq_false _
        obtain ⟨p, hp⟩ : ∃ p : Int, ((verd d1 (runA d1 d1.s.toNat z2) : Nat) : Int) = p := ⟨_, rfl⟩
        obtain ⟨q, hq⟩ : ∃ q : Int, ((verd O (runA O O.s.toNat z2) : Nat) : Int) = q := ⟨_, rfl⟩
        rw [hp] at HP
        rw [hq] at HQ
        have c1 : q ≤ x := by omega
        have c2 : q ≤ p := by omega
        have c3 : q = 3 ↔ x = 3 ∧ p = 3 := by omega
        have hq0 : 0 ≤ q := by omega
        have hp1 : p ≤ 3 := by have := verd_le d1 (runA d1 d1.s.toNat z2); omega
        clear ga gb Ga Gb fa fb fw gn fn hl hy hp hx hy3 hx3 hr gg hf gO hacc eL fo b1 b2 b3 hq
        generalize notA d0 = N at *
        have e1 : (q == 3) = decide (q = 3) := rfl
        by_cases hx3 : x = 3
        · subst hx3
          by_cases hp3 : p = 3
          · obtain rfl : q = 3 := c3.2 ⟨rfl, hp3⟩
            subst hp3
            clear c3 e1
            go_enter Try.func4, Try.ntmps4
            go_wp2_with fail
            rw [← W0.out]
            clear W0
            refine (HFew.out _).mono ?_
            rintro e u1 he
            obtain ⟨xf, rfl, hof⟩ := he.out
            have hb := hof.below
            have hat := hof.at_
            obtain ⟨Lf, sf, Af, nf, cf, Ff, mf, kf, rfl⟩ := hat.form
            have Z := Lib.hid (Z.out.on hb)
            have VA := Lib.hid (VA.out.on hb)
            have VB := Lib.hid (VB.out.on hb)
            have B := Lib.hid (B.out.trans (hb.mono B.out.size))
            have HAt := Lib.hid hat
            clear he hof hb hat HFew
            go_wp2_with fail
            refine (HFact.out _ _ HAt.out).mono ?_
            rintro e u2 ⟨rfl, hb⟩
            have Z := Lib.hid (Z.out.on hb)
            have VA := Lib.hid (VA.out.on hb)
            have VB := Lib.hid (VB.out.on hb)
            have B := Lib.hid (B.out.trans (hb.mono B.out.size))
            clear hb  HFact HAt
            obtain ⟨p0, p1, p2, p3, p4⟩ := VA.out.box
            go_wp2_with fail
            refine (HX.out _ _ VA.out.at_ Z.out).mono ?_
            rintro e u3 ⟨rfl, hb⟩
            have Z := Lib.hid (Z.out.on hb)
            have VA := Lib.hid (VA.out.on hb)
            have VB := Lib.hid (VB.out.on hb)
            have B := Lib.hid (B.out.trans (hb.mono B.out.size))
            clear hb p0 p1 p2 p3 p4 HX
            obtain ⟨p0, p1, p2, p3, p4⟩ := VA.out.box
            go_wp2_with fail
            refine (HN.out _ _ VA.out.at_).mono ?_
            rintro e u4 ⟨L14, s14, A14, n14, c14, F14, m14, k14, rfl, hd, hb⟩
            have Z := Lib.hid (Z.out.on hb)
            have VA := Lib.hid (VA.out.on hb)
            have VB := Lib.hid (VB.out.on hb)
            have B := Lib.hid (B.out.trans (hb.mono B.out.size))
            clear hb p0 p1 p2 p3 p4 HN
            obtain ⟨x4, hx4, hbn, Vn⟩ := var_new u4 hd.out
            have VN := Lib.hid Vn
            have Z := Lib.hid (Z.out.on hbn)
            have VA := Lib.hid (VA.out.on hbn)
            have VB := Lib.hid (VB.out.on hbn)
            have B := Lib.hid (B.out.trans (hbn.mono B.out.size))
            clear hbn Vn hd
            obtain ⟨p0, p1, p2, p3, p4⟩ := VN.out.box
            rw [hx4] at p1 p2 p3 p4
            have HX := Lib.hid hx4
            clear hx4
            go_wp2_with fail
            rw [← HX.out]
            clear HX
            refine (HY.out _ _ VN.out.at_ Z.out).mono ?_
            rintro e u5 ⟨rfl, hb⟩
            have Z := Lib.hid (Z.out.on hb)
            have VA := Lib.hid (VA.out.on hb)
            have VB := Lib.hid (VB.out.on hb)
            have VN := Lib.hid (VN.out.on hb)
            have B := Lib.hid (B.out.trans (hb.mono B.out.size))
            clear hb p0 p1 p2 p3 p4 HY
            obtain ⟨p0, p1, p2, p3, p4⟩ := VB.out.box
            go_wp2_with fail
            refine (HP.out _ _ VB.out.at_ Z.out).mono ?_
            rintro e u6 ⟨rfl, hb⟩
            have Z := Lib.hid (Z.out.on hb)
            have VA := Lib.hid (VA.out.on hb)
            have VB := Lib.hid (VB.out.on hb)
            have VN := Lib.hid (VN.out.on hb)
            have B := Lib.hid (B.out.trans (hb.mono B.out.size))
            clear hb p0 p1 p2 p3 p4 HP
            obtain ⟨p0, p1, p2, p3, p4⟩ := VA.out.box
            obtain ⟨q0, q1, q2, q3, q4⟩ := VB.out.box
            go_wp2_with fail
            refine (HBo.out _ _ _ VA.out.at_ VB.out.at_).mono ?_
            rintro e u7 ⟨L17, s17, A17, n17, c17, F17, m17, k17, rfl, hd, hb⟩
            have Z := Lib.hid (Z.out.on hb)
            have VA := Lib.hid (VA.out.on hb)
            have VB := Lib.hid (VB.out.on hb)
            have VN := Lib.hid (VN.out.on hb)
            have B := Lib.hid (B.out.trans (hb.mono B.out.size))
            clear hb p0 p1 p2 p3 p4 q0 q1 q2 q3 q4 HBo
            obtain ⟨x7, hx7, hbn, Vn⟩ := var_new u7 hd.out
            have VO := Lib.hid Vn
            have Z := Lib.hid (Z.out.on hbn)
            have VA := Lib.hid (VA.out.on hbn)
            have VB := Lib.hid (VB.out.on hbn)
            have VN := Lib.hid (VN.out.on hbn)
            have B := Lib.hid (B.out.trans (hbn.mono B.out.size))
            clear hbn Vn hd
            obtain ⟨p0, p1, p2, p3, p4⟩ := VO.out.box
            rw [hx7] at p1 p2 p3 p4
            have HX := Lib.hid hx7
            clear hx7
            go_wp2_with fail
            rw [← HX.out]
            clear HX
            refine (HQ.out _ _ VO.out.at_ Z.out).mono ?_
            rintro e u8 ⟨rfl, hb⟩
            have Z := Lib.hid (Z.out.on hb)
            have VA := Lib.hid (VA.out.on hb)
            have VB := Lib.hid (VB.out.on hb)
            have VN := Lib.hid (VN.out.on hb)
            have VO := Lib.hid (VO.out.on hb)
            have B := Lib.hid (B.out.trans (hb.mono B.out.size))
            clear hb p0 p1 p2 p3 p4 HQ
            go_wp2
            go_ret
            exact ⟨rfl, B.out⟩
          · have q1 : (q == 3) = false := int_ne (fun e => hp3 (c3.1 e).2)
            have q2 : (p == 3) = false := int_ne hp3
            clear c3 e1 hp3
            go_enter Try.func4, Try.ntmps4
            go_wp2_with fail
            rw [← W0.out]
            clear W0
            refine (HFew.out _).mono ?_
            rintro e u1 he
            obtain ⟨xf, rfl, hof⟩ := he.out
            have hb := hof.below
            have hat := hof.at_
            obtain ⟨Lf, sf, Af, nf, cf, Ff, mf, kf, rfl⟩ := hat.form
            have Z := Lib.hid (Z.out.on hb)
            have VA := Lib.hid (VA.out.on hb)
            have VB := Lib.hid (VB.out.on hb)
            have B := Lib.hid (B.out.trans (hb.mono B.out.size))
            have HAt := Lib.hid hat
            clear he hof hb hat HFew
            go_wp2_with fail
            refine (HFact.out _ _ HAt.out).mono ?_
            rintro e u2 ⟨rfl, hb⟩
            have Z := Lib.hid (Z.out.on hb)
            have VA := Lib.hid (VA.out.on hb)
            have VB := Lib.hid (VB.out.on hb)
            have B := Lib.hid (B.out.trans (hb.mono B.out.size))
            clear hb  HFact HAt
            obtain ⟨p0, p1, p2, p3, p4⟩ := VA.out.box
            go_wp2_with fail
            refine (HX.out _ _ VA.out.at_ Z.out).mono ?_
            rintro e u3 ⟨rfl, hb⟩
            have Z := Lib.hid (Z.out.on hb)
            have VA := Lib.hid (VA.out.on hb)
            have VB := Lib.hid (VB.out.on hb)
            have B := Lib.hid (B.out.trans (hb.mono B.out.size))
            clear hb p0 p1 p2 p3 p4 HX
            obtain ⟨p0, p1, p2, p3, p4⟩ := VA.out.box
            go_wp2_with fail
            refine (HN.out _ _ VA.out.at_).mono ?_
            rintro e u4 ⟨L14, s14, A14, n14, c14, F14, m14, k14, rfl, hd, hb⟩
            have Z := Lib.hid (Z.out.on hb)
            have VA := Lib.hid (VA.out.on hb)
            have VB := Lib.hid (VB.out.on hb)
            have B := Lib.hid (B.out.trans (hb.mono B.out.size))
            clear hb p0 p1 p2 p3 p4 HN
            obtain ⟨x4, hx4, hbn, Vn⟩ := var_new u4 hd.out
            have VN := Lib.hid Vn
            have Z := Lib.hid (Z.out.on hbn)
            have VA := Lib.hid (VA.out.on hbn)
            have VB := Lib.hid (VB.out.on hbn)
            have B := Lib.hid (B.out.trans (hbn.mono B.out.size))
            clear hbn Vn hd
            obtain ⟨p0, p1, p2, p3, p4⟩ := VN.out.box
            rw [hx4] at p1 p2 p3 p4
            have HX := Lib.hid hx4
            clear hx4
            go_wp2_with fail
            rw [← HX.out]
            clear HX
            refine (HY.out _ _ VN.out.at_ Z.out).mono ?_
            rintro e u5 ⟨rfl, hb⟩
            have Z := Lib.hid (Z.out.on hb)
            have VA := Lib.hid (VA.out.on hb)
            have VB := Lib.hid (VB.out.on hb)
            have VN := Lib.hid (VN.out.on hb)
            have B := Lib.hid (B.out.trans (hb.mono B.out.size))
            clear hb p0 p1 p2 p3 p4 HY
            obtain ⟨p0, p1, p2, p3, p4⟩ := VB.out.box
            go_wp2_with fail
            refine (HP.out _ _ VB.out.at_ Z.out).mono ?_
            rintro e u6 ⟨rfl, hb⟩
            have Z := Lib.hid (Z.out.on hb)
            have VA := Lib.hid (VA.out.on hb)
            have VB := Lib.hid (VB.out.on hb)
            have VN := Lib.hid (VN.out.on hb)
            have B := Lib.hid (B.out.trans (hb.mono B.out.size))
            clear hb p0 p1 p2 p3 p4 HP
            obtain ⟨p0, p1, p2, p3, p4⟩ := VA.out.box
            obtain ⟨q0, q1, q2, q3, q4⟩ := VB.out.box
            go_wp2_with fail
            refine (HBo.out _ _ _ VA.out.at_ VB.out.at_).mono ?_
            rintro e u7 ⟨L17, s17, A17, n17, c17, F17, m17, k17, rfl, hd, hb⟩
            have Z := Lib.hid (Z.out.on hb)
            have VA := Lib.hid (VA.out.on hb)
            have VB := Lib.hid (VB.out.on hb)
            have VN := Lib.hid (VN.out.on hb)
            have B := Lib.hid (B.out.trans (hb.mono B.out.size))
            clear hb p0 p1 p2 p3 p4 q0 q1 q2 q3 q4 HBo
            obtain ⟨x7, hx7, hbn, Vn⟩ := var_new u7 hd.out
            have VO := Lib.hid Vn
            have Z := Lib.hid (Z.out.on hbn)
            have VA := Lib.hid (VA.out.on hbn)
            have VB := Lib.hid (VB.out.on hbn)
            have VN := Lib.hid (VN.out.on hbn)
            have B := Lib.hid (B.out.trans (hbn.mono B.out.size))
            clear hbn Vn hd
            obtain ⟨p0, p1, p2, p3, p4⟩ := VO.out.box
            rw [hx7] at p1 p2 p3 p4
            have HX := Lib.hid hx7
            clear hx7
            go_wp2_with fail
            rw [← HX.out]
            clear HX
            refine (HQ.out _ _ VO.out.at_ Z.out).mono ?_
            rintro e u8 ⟨rfl, hb⟩
            have Z := Lib.hid (Z.out.on hb)
            have VA := Lib.hid (VA.out.on hb)
            have VB := Lib.hid (VB.out.on hb)
            have VN := Lib.hid (VN.out.on hb)
            have VO := Lib.hid (VO.out.on hb)
            have B := Lib.hid (B.out.trans (hb.mono B.out.size))
            clear hb p0 p1 p2 p3 p4 HQ
            go_wp2
            go_ret
            exact ⟨rfl, B.out⟩
        · have q1 : (q == 3) = false := int_ne (fun e => hx3 (c3.1 e).1)
          have q2 : (x == 3) = false := int_ne hx3
          clear c3 e1 hx3
          go_enter Try.func4, Try.ntmps4
          go_wp2_with fail
          rw [← W0.out]
          clear W0
          refine (HFew.out _).mono ?_
          rintro e u1 he
          obtain ⟨xf, rfl, hof⟩ := he.out
          have hb := hof.below
          have hat := hof.at_
          obtain ⟨Lf, sf, Af, nf, cf, Ff, mf, kf, rfl⟩ := hat.form
          have Z := Lib.hid (Z.out.on hb)
          have VA := Lib.hid (VA.out.on hb)
          have VB := Lib.hid (VB.out.on hb)
          have B := Lib.hid (B.out.trans (hb.mono B.out.size))
          have HAt := Lib.hid hat
          clear he hof hb hat HFew
          go_wp2_with fail
          refine (HFact.out _ _ HAt.out).mono ?_
          rintro e u2 ⟨rfl, hb⟩
          have Z := Lib.hid (Z.out.on hb)
          have VA := Lib.hid (VA.out.on hb)
          have VB := Lib.hid (VB.out.on hb)
          have B := Lib.hid (B.out.trans (hb.mono B.out.size))
          clear hb  HFact HAt
          obtain ⟨p0, p1, p2, p3, p4⟩ := VA.out.box
          go_wp2_with fail
          refine (HX.out _ _ VA.out.at_ Z.out).mono ?_
          rintro e u3 ⟨rfl, hb⟩
          have Z := Lib.hid (Z.out.on hb)
          have VA := Lib.hid (VA.out.on hb)
          have VB := Lib.hid (VB.out.on hb)
          have B := Lib.hid (B.out.trans (hb.mono B.out.size))
          clear hb p0 p1 p2 p3 p4 HX
          obtain ⟨p0, p1, p2, p3, p4⟩ := VA.out.box
          go_wp2_with fail
          refine (HN.out _ _ VA.out.at_).mono ?_
          rintro e u4 ⟨L14, s14, A14, n14, c14, F14, m14, k14, rfl, hd, hb⟩
          have Z := Lib.hid (Z.out.on hb)
          have VA := Lib.hid (VA.out.on hb)
          have VB := Lib.hid (VB.out.on hb)
          have B := Lib.hid (B.out.trans (hb.mono B.out.size))
          clear hb p0 p1 p2 p3 p4 HN
          obtain ⟨x4, hx4, hbn, Vn⟩ := var_new u4 hd.out
          have VN := Lib.hid Vn
          have Z := Lib.hid (Z.out.on hbn)
          have VA := Lib.hid (VA.out.on hbn)
          have VB := Lib.hid (VB.out.on hbn)
          have B := Lib.hid (B.out.trans (hbn.mono B.out.size))
          clear hbn Vn hd
          obtain ⟨p0, p1, p2, p3, p4⟩ := VN.out.box
          rw [hx4] at p1 p2 p3 p4
          have HX := Lib.hid hx4
          clear hx4
          go_wp2_with fail
          rw [← HX.out]
          clear HX
          refine (HY.out _ _ VN.out.at_ Z.out).mono ?_
          rintro e u5 ⟨rfl, hb⟩
          have Z := Lib.hid (Z.out.on hb)
          have VA := Lib.hid (VA.out.on hb)
          have VB := Lib.hid (VB.out.on hb)
          have VN := Lib.hid (VN.out.on hb)
          have B := Lib.hid (B.out.trans (hb.mono B.out.size))
          clear hb p0 p1 p2 p3 p4 HY
          obtain ⟨p0, p1, p2, p3, p4⟩ := VB.out.box
          go_wp2_with fail
          refine (HP.out _ _ VB.out.at_ Z.out).mono ?_
          rintro e u6 ⟨rfl, hb⟩
          have Z := Lib.hid (Z.out.on hb)
          have VA := Lib.hid (VA.out.on hb)
          have VB := Lib.hid (VB.out.on hb)
          have VN := Lib.hid (VN.out.on hb)
          have B := Lib.hid (B.out.trans (hb.mono B.out.size))
          clear hb p0 p1 p2 p3 p4 HP
          obtain ⟨p0, p1, p2, p3, p4⟩ := VA.out.box
          obtain ⟨q0, q1, q2, q3, q4⟩ := VB.out.box
          go_wp2_with fail
          refine (HBo.out _ _ _ VA.out.at_ VB.out.at_).mono ?_
          rintro e u7 ⟨L17, s17, A17, n17, c17, F17, m17, k17, rfl, hd, hb⟩
          have Z := Lib.hid (Z.out.on hb)
          have VA := Lib.hid (VA.out.on hb)
          have VB := Lib.hid (VB.out.on hb)
          have VN := Lib.hid (VN.out.on hb)
          have B := Lib.hid (B.out.trans (hb.mono B.out.size))
          clear hb p0 p1 p2 p3 p4 q0 q1 q2 q3 q4 HBo
          obtain ⟨x7, hx7, hbn, Vn⟩ := var_new u7 hd.out
          have VO := Lib.hid Vn
          have Z := Lib.hid (Z.out.on hbn)
          have VA := Lib.hid (VA.out.on hbn)
          have VB := Lib.hid (VB.out.on hbn)
          have VN := Lib.hid (VN.out.on hbn)
          have B := Lib.hid (B.out.trans (hbn.mono B.out.size))
          clear hbn Vn hd
          obtain ⟨p0, p1, p2, p3, p4⟩ := VO.out.box
          rw [hx7] at p1 p2 p3 p4
          have HX := Lib.hid hx7
          clear hx7
          go_wp2_with fail
          rw [← HX.out]
          clear HX
          refine (HQ.out _ _ VO.out.at_ Z.out).mono ?_
          rintro e u8 ⟨rfl, hb⟩
          have Z := Lib.hid (Z.out.on hb)
          have VA := Lib.hid (VA.out.on hb)
          have VB := Lib.hid (VB.out.on hb)
          have VN := Lib.hid (VN.out.on hb)
          have VO := Lib.hid (VO.out.on hb)
          have B := Lib.hid (B.out.trans (hb.mono B.out.size))
          clear hb p0 p1 p2 p3 p4 HQ
          go_wp2
          go_ret
          exact ⟨rfl, B.out⟩
    · obtain ⟨E, hE⟩ := errV_bad gb
      have HP := Lib.hid (fun W v (h : DfaAt W W.heap.size v d1) (hZ : IntsAt W W.heap.size A2 z2) => of_gives (cz := c2) h hZ hr (ofOut_bad gb) hE)
      obtain ⟨⟨r, k⟩, hrp⟩ : ∃ p, p = prodOut (fun a b => a && b) d0 d1 := ⟨_, rfl⟩
      have HBo := Lib.hid (fun W v z (h : DfaAt W W.heap.size v d0) (h2 : DfaAt W W.heap.size z d1) => both_gives h h2 hrp.symm rfl)
      obtain ⟨x, hx⟩ : ∃ x : Int, ((verd d0 (runA d0 d0.s.toNat z2) : Nat) : Int) = x := ⟨_, rfl⟩
      have hy3 : ((3 - verd d0 (runA d0 d0.s.toNat z2) : Nat) : Int) = 3 - x := by omega
      rw [hx] at HX
      rw [hy3] at HY
      have hx0 : 0 ≤ x := by omega
      have hx1 : x ≤ 3 := by omega
      have hne : (3 - x != 3 - x) = false := bne_self_eq_false _
      clear ga gb Ga fa fw gn fn hl hy hE hrp hx hy3 hx3 hr
      generalize notA d0 = N at *
      generalize errV k = E5 at *
      go_enter Try.func4, Try.ntmps4
      go_wp2_with fail
      rw [← W0.out]
      clear W0
      refine (HFew.out _).mono ?_
      rintro e u1 he
      obtain ⟨xf, rfl, hof⟩ := he.out
      have hb := hof.below
      have hat := hof.at_
      obtain ⟨Lf, sf, Af, nf, cf, Ff, mf, kf, rfl⟩ := hat.form
      have Z := Lib.hid (Z.out.on hb)
      have VA := Lib.hid (VA.out.on hb)
      have VB := Lib.hid (VB.out.on hb)
      have B := Lib.hid (B.out.trans (hb.mono B.out.size))
      have HAt := Lib.hid hat
      clear he hof hb hat HFew
      go_wp2_with fail
      refine (HFact.out _ _ HAt.out).mono ?_
      rintro e u2 ⟨rfl, hb⟩
      have Z := Lib.hid (Z.out.on hb)
      have VA := Lib.hid (VA.out.on hb)
      have VB := Lib.hid (VB.out.on hb)
      have B := Lib.hid (B.out.trans (hb.mono B.out.size))
      clear hb  HFact HAt
      obtain ⟨p0, p1, p2, p3, p4⟩ := VA.out.box
      go_wp2_with fail
      refine (HX.out _ _ VA.out.at_ Z.out).mono ?_
      rintro e u3 ⟨rfl, hb⟩
      have Z := Lib.hid (Z.out.on hb)
      have VA := Lib.hid (VA.out.on hb)
      have VB := Lib.hid (VB.out.on hb)
      have B := Lib.hid (B.out.trans (hb.mono B.out.size))
      clear hb p0 p1 p2 p3 p4 HX
      obtain ⟨p0, p1, p2, p3, p4⟩ := VA.out.box
      go_wp2_with fail
      refine (HN.out _ _ VA.out.at_).mono ?_
      rintro e u4 ⟨L14, s14, A14, n14, c14, F14, m14, k14, rfl, hd, hb⟩
      have Z := Lib.hid (Z.out.on hb)
      have VA := Lib.hid (VA.out.on hb)
      have VB := Lib.hid (VB.out.on hb)
      have B := Lib.hid (B.out.trans (hb.mono B.out.size))
      clear hb p0 p1 p2 p3 p4 HN
      obtain ⟨x4, hx4, hbn, Vn⟩ := var_new u4 hd.out
      have VN := Lib.hid Vn
      have Z := Lib.hid (Z.out.on hbn)
      have VA := Lib.hid (VA.out.on hbn)
      have VB := Lib.hid (VB.out.on hbn)
      have B := Lib.hid (B.out.trans (hbn.mono B.out.size))
      clear hbn Vn hd
      obtain ⟨p0, p1, p2, p3, p4⟩ := VN.out.box
      rw [hx4] at p1 p2 p3 p4
      have HX := Lib.hid hx4
      clear hx4
      go_wp2_with fail
      rw [← HX.out]
      clear HX
      refine (HY.out _ _ VN.out.at_ Z.out).mono ?_
      rintro e u5 ⟨rfl, hb⟩
      have Z := Lib.hid (Z.out.on hb)
      have VA := Lib.hid (VA.out.on hb)
      have VB := Lib.hid (VB.out.on hb)
      have VN := Lib.hid (VN.out.on hb)
      have B := Lib.hid (B.out.trans (hb.mono B.out.size))
      clear hb p0 p1 p2 p3 p4 HY
      obtain ⟨p0, p1, p2, p3, p4⟩ := VB.out.box
      go_wp2_with fail
      refine (HP.out _ _ VB.out.at_ Z.out).mono ?_
      rintro e u6 ⟨rfl, hb⟩
      have Z := Lib.hid (Z.out.on hb)
      have VA := Lib.hid (VA.out.on hb)
      have VB := Lib.hid (VB.out.on hb)
      have VN := Lib.hid (VN.out.on hb)
      have B := Lib.hid (B.out.trans (hb.mono B.out.size))
      clear hb p0 p1 p2 p3 p4 HP
      obtain ⟨p0, p1, p2, p3, p4⟩ := VA.out.box
      obtain ⟨q0, q1, q2, q3, q4⟩ := VB.out.box
      go_wp2_with fail
      refine (HBo.out _ _ _ VA.out.at_ VB.out.at_).mono ?_
      rintro e u7 ⟨L17, s17, A17, n17, c17, F17, m17, k17, rfl, hd, hb⟩
      have Z := Lib.hid (Z.out.on hb)
      have VA := Lib.hid (VA.out.on hb)
      have VB := Lib.hid (VB.out.on hb)
      have VN := Lib.hid (VN.out.on hb)
      have B := Lib.hid (B.out.trans (hb.mono B.out.size))
      clear hb p0 p1 p2 p3 p4 q0 q1 q2 q3 q4 HBo
      obtain ⟨x7, hx7, hbn, Vn⟩ := var_new u7 hd.out
      have VO := Lib.hid Vn
      have Z := Lib.hid (Z.out.on hbn)
      have VA := Lib.hid (VA.out.on hbn)
      have VB := Lib.hid (VB.out.on hbn)
      have VN := Lib.hid (VN.out.on hbn)
      have B := Lib.hid (B.out.trans (hbn.mono B.out.size))
      clear hbn Vn hd
      rw [hx7] at B
      clear hx7
      go_wp2
      go_ret
      exact ⟨rfl, B.out⟩
  · obtain ⟨E, hE⟩ := errV_bad ga
    have HX := Lib.hid (fun W v (h : DfaAt W W.heap.size v d0) (hZ : IntsAt W W.heap.size A2 z2) => of_gives (cz := c2) h hZ hr (ofOut_bad ga) hE)
    obtain ⟨⟨r, k⟩, hrp⟩ : ∃ p, p = notOut d0 := ⟨_, rfl⟩
    have HN := Lib.hid (fun W v (h : DfaAt W W.heap.size v d0) => not_gives h hrp.symm rfl)
    clear ga hE hrp hr
    generalize errV k = E5 at *
    go_enter Try.func4, Try.ntmps4
    go_wp2_with fail
    rw [← W0.out]
    clear W0
    refine (HFew.out _).mono ?_
    rintro e u1 he
    obtain ⟨xf, rfl, hof⟩ := he.out
    have hb := hof.below
    have hat := hof.at_
    obtain ⟨Lf, sf, Af, nf, cf, Ff, mf, kf, rfl⟩ := hat.form
    have Z := Lib.hid (Z.out.on hb)
    have VA := Lib.hid (VA.out.on hb)
    have VB := Lib.hid (VB.out.on hb)
    have B := Lib.hid (B.out.trans (hb.mono B.out.size))
    have HAt := Lib.hid hat
    clear he hof hb hat HFew
    go_wp2_with fail
    refine (HFact.out _ _ HAt.out).mono ?_
    rintro e u2 ⟨rfl, hb⟩
    have Z := Lib.hid (Z.out.on hb)
    have VA := Lib.hid (VA.out.on hb)
    have VB := Lib.hid (VB.out.on hb)
    have B := Lib.hid (B.out.trans (hb.mono B.out.size))
    clear hb  HFact HAt
    obtain ⟨p0, p1, p2, p3, p4⟩ := VA.out.box
    go_wp2_with fail
    refine (HX.out _ _ VA.out.at_ Z.out).mono ?_
    rintro e u3 ⟨rfl, hb⟩
    have Z := Lib.hid (Z.out.on hb)
    have VA := Lib.hid (VA.out.on hb)
    have VB := Lib.hid (VB.out.on hb)
    have B := Lib.hid (B.out.trans (hb.mono B.out.size))
    clear hb p0 p1 p2 p3 p4 HX
    obtain ⟨p0, p1, p2, p3, p4⟩ := VA.out.box
    go_wp2_with fail
    refine (HN.out _ _ VA.out.at_).mono ?_
    rintro e u4 ⟨L14, s14, A14, n14, c14, F14, m14, k14, rfl, hd, hb⟩
    have Z := Lib.hid (Z.out.on hb)
    have VA := Lib.hid (VA.out.on hb)
    have VB := Lib.hid (VB.out.on hb)
    have B := Lib.hid (B.out.trans (hb.mono B.out.size))
    clear hb p0 p1 p2 p3 p4 HN
    obtain ⟨x4, hx4, hbn, Vn⟩ := var_new u4 hd.out
    have VN := Lib.hid Vn
    have Z := Lib.hid (Z.out.on hbn)
    have VA := Lib.hid (VA.out.on hbn)
    have VB := Lib.hid (VB.out.on hbn)
    have B := Lib.hid (B.out.trans (hbn.mono B.out.size))
    clear hbn Vn hd
    rw [hx4] at B
    clear hx4
    go_wp2
    go_ret
    exact ⟨rfl, B.out⟩


set_option maxRecDepth 100000 in
theorem lifted (os : Os) (started : os.Started) (H : Type) (enc : TypeId × Value → H) :
    ReturnsInHanded {} Try.checked os 4 .any (Rows.verdictTurnedSpec.pre6 enc Try.prog Try.f4 Rows.verdictTurnedRow.domain false) (Rows.verdictTurnedSpec.post enc Try.prog Try.f4 false true false false) := by
  refine returnsInHanded_of_change_sized (C := Try.checked) own started (by kernel_rfl) Try.func4
    (ChangeSpec.witness6 (enc := enc) (C := Try.checked) false ⟨#[], #[.agg #[.int .i64 0, .int .i64 0, .slice none 0 0, .slice none 0 0], .agg #[.int .i64 0, .int .i64 0, .slice none 0 0, .slice none 0 0], .slice none 0 0], []⟩ 8 (by kernel_rfl) (by kernel_rfl) (by kernel_rfl) (by kernel_rfl)) ?_
  intro W base args ds gs before hval0 hW hcnd hsz0 _
  have hval : ∀ (j : Nat) t v, Try.f4.params[j]? = some t → args[j]? = some v → Value.okWide Try.prog W .any base t v := hval0
  have hsz : (DataW.weightsEach Try.prog (Try.f4.params.toList ++ Rows.verdictTurnedSpec.plain.varTypes Try.prog) (ds ++ gs)).all (· ≤ reachBytes) = true := hsz0
  have hW' := hW
  obtain ⟨p, q, hA0, hV0, rfl, hfz, hnd⟩ := hW
  have hV : DataW.TrodVars enc Try.prog W (fun _ => true) [] gs q := hV0
  have hA : DataW.TrodAll enc Try.prog W 0 (fun _ => true) true Try.f4.params.toList args.toList ds p := hA0
  rw [Try.params4] at hA hval hsz
  obtain ⟨v0, vs0, d0, ds0, p0, q0, hargs, rfl, rfl, h0, rr0⟩ := trodAll_cons hA
  obtain ⟨v1, vs1, d1, ds1, p1, q1, rfl, rfl, rfl, h1, rr1⟩ := trodAll_cons rr0
  obtain ⟨v2, vs2, d2, ds2, p2, q2, rfl, rfl, rfl, h2, rr2⟩ := trodAll_cons rr1
  obtain ⟨rfl, rfl, rfl⟩ := trodAll_nil rr2
  obtain rfl : args = #[v0, v1, v2] := by cases args; simp_all
  obtain ⟨rfl, rfl⟩ := trodVars_none hV
  have k0 := h0
  have lt0 : ∀ x ∈ p0, x.block < W.heap.size := by obtain ⟨m, hm⟩ := k0; exact DataW.trod_lt m _ _ _ hm
  have k1 := h1
  have lt1 : ∀ x ∈ p1, x.block < W.heap.size := by obtain ⟨m, hm⟩ := k1; exact DataW.trod_lt m _ _ _ hm
  have k2 := h2
  have lt2 : ∀ x ∈ p2, x.block < W.heap.size := by obtain ⟨m, hm⟩ := k2; exact DataW.trod_lt m _ _ _ hm
  obtain ⟨D0, x0⟩ : ∃ d : Df.Aut, Df.DfaAt W W.heap.size v0 d := Df.dfa_open (hval 0 25 v0 rfl rfl) h0
  obtain ⟨D1, x1⟩ : ∃ d : Df.Aut, Df.DfaAt W W.heap.size v1 d := Df.dfa_open (hval 1 25 v1 rfl rfl) h1
  obtain ⟨A2, len2, c2, rfl⟩ := okWide_slice Try.underlying26 (hval 2 26 v2 rfl rfl)
  obtain ⟨z2, rfl, x2, r2, m2⟩ : ∃ zs : List Int, len2 = zs.length ∧ IntsAt W W.heap.size A2 zs ∧ zs.length ≤ 17592186043904 ∧ zs.length ≤ c2 := by
    obtain ⟨fuel, hf⟩ := h2
    rcases open_ints Try.underlying26 Try.underlying3 (by kernel_rfl) hf with ⟨hcs, _⟩ | ⟨x, l, c, zs, hcs, _, hl, hm, hz, hx, hcell, hwz⟩
    · simp [Value.cells] at hcs
      obtain ⟨rfl, rfl, rfl⟩ := hcs
      exact ⟨[], rfl, IntsAt.nil _ _ _, by simp, by simp⟩
    · simp [Value.cells] at hcs
      obtain ⟨rfl, rfl, rfl⟩ := hcs
      have hd := congrArg Prod.fst hx
      simp only at hd
      have := sized_slice hsz (j := 2) (t := 26) (e := 3) rfl (by rw [hd]; rfl) Try.underlying26
      rw [(show Try.prog.bytesOf 3 = 8 by kernel_rfl)] at this
      simp only [reachBytes, lits, List.length_map, List.length_take, List.length_drop] at this
      have hz' : zs.length = c2 := by simpa using hz
      exact ⟨zs.take len2, by rw [List.length_take]; omega, intsAt_of_open hcell hwz len2, by rw [List.length_take]; omega, by rw [List.length_take]; omega⟩
  clear hA0 hval0
  refine (walk v0 D0 v1 D1 A2 c2 z2 W x0 x1 x2 r2 m2).mono fun e W' ⟨he, bel⟩ => ?_
  subst he
  exact ⟨_, rfl, _, _, _, [], _, [], hW', trodAll_mk1 (shut_bool Try.underlying4 _), (trodAll_cons_mk (Below.trod laidOut (by kernel_rfl) (of_decide_eq_true (by kernel_rfl)) k0 bel lt0) (trodAll_cons_mk (Below.trod laidOut (by kernel_rfl) (of_decide_eq_true (by kernel_rfl)) k1 bel lt1) (trodAll_cons_mk (Below.trod laidOut (by kernel_rfl) (of_decide_eq_true (by kernel_rfl)) k2 bel lt2) trodAll_mk0))), rfl, bel.frame _, fun h => by cases h⟩

theorem over : Rows.verdictTurnedRow.holds Try.pinned (OpenSpec.ofChange Rows.verdictTurnedSpec) :=
  OpenClaim.holds_of_wide 4 Try.f4 rfl rfl rfl rfl rfl rfl rfl ⟨rfl, rfl, rfl, rfl, rfl⟩ rfl rfl rfl rfl rfl (by kernel_rfl) Try.func4 (by kernel_rfl)
    (of_decide_eq_true (by kernel_rfl)) (by unfold Func.isWrapper; rw [if_neg (of_decide_eq_false (by kernel_rfl))]; exact ⟨rfl, rfl⟩)
    (fun os started H enc _ => lifted os started H enc)
theorem proved : Rows.VerdictTurnedSaid := over
#print axioms proved
end Go.Proofs.Ytblkaegnnokedaa.verdictTurned
