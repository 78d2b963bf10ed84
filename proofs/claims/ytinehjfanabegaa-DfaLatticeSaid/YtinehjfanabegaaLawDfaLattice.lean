/-
  The statement DfaLatticeSaid of this seat, proved: for every input the law returns true and its arguments read behind the call as before. Conditions: none but the row's own (each argument within the reach).
-/
import Derived.Test.YtinehjfanabegaaRows
import Derived.Test.YtinehjfanabegaaWords
import Derived.WalkKit
import Derived.ProofKit
import Derived.OpenShut
import Derived.ShutString
import Derived.ChangeOld
import Derived.Below
import Derived.SizedLaws
import Derived.Lib.Hide
import Derived.Test.YtinehjfanabegaaDfaV
import Derived.Test.YtinehjfanabegaaDfaK
import Derived.Deep.QuietTactic
import Derived.BigQuiet
namespace Go.Proofs.Ytinehjfanabegaa.dfaLattice
open Go.ChangeShapes Go.WideShapes Go.ChangeAt Go.RowKit Go.IntWalk Go.Proofs.Ytinehjfanabegaa.Wd
open Go.ChangeMaps (open_string shut_string)
set_option linter.unusedVariables false

theorem own : ownKnob Try.prog.godebug = none := by kernel_rfl
theorem laidOut : laidOutB Try.prog = true := by kernel_rfl
open Go.Proofs.Ytinehjfanabegaa.Wo Go.Proofs.Ytinehjfanabegaa.Df

set_option maxRecDepth 100000 in
set_option maxHeartbeats 4000000 in
theorem walk (v0 : Value) (d0 : Df.Aut) (v1 : Value) (d1 : Df.Aut) (A2 : Option Addr) (c2 : Nat) (z2 : List Int) (w : World) (h0 : Df.DfaAt w w.heap.size v0 d0) (h1 : Df.DfaAt w w.heap.size v1 d1) (v2 : IntsAt w w.heap.size A2 z2) (r2 : z2.length ≤ 17592186043904) (m2 : z2.length ≤ c2) :
    Calls Try.prog 6 #[v0, v1, .slice A2 z2.length c2] w fun e w' => e = .returned (.bool true) ∧ Below w.heap.size w w' := by
  have hr : z2.length ≤ 17592186044416 := by omega
  have Z2 := v2
  clear v2 m2 r2
  by_cases ga : accErr d0 z2 = 0
  · obtain ⟨Ga, fa⟩ := accErr_good ga
    obtain ⟨ls, hls⟩ := found_self Ga
    have HAa := Lib.hid (fun W v (h : DfaAt W W.heap.size v d0) (hZ : IntsAt W W.heap.size A2 z2) => acc_gives (cz := c2) (E := .nilIface) h hZ hr (accOut_ok Ga fa) (by rw [ga]; rfl))
    have HSe := Lib.hid (fun W v u (h : DfaAt W W.heap.size v d0) (h2 : DfaAt W W.heap.size u d0) => both_gives (E := .nilIface) h h2 (prod_ok (good2_self Ga) hls (fun x y => x && y)) rfl)
    have HAs := Lib.hid (fun W v (h : DfaAt W W.heap.size v (autOf d0.L (S2 d0 d0) ls (fun p => (fun x y => x && y) (finA d0 p.1) (finA d0 p.2)))) (hZ : IntsAt W W.heap.size A2 z2) => acc_gives (cz := c2) (E := .nilIface) h hZ hr ((accOut_ok (prod_good (good2_self Ga) hls _) fa).trans ((prod_acc (good2_self Ga) hls (fun x y => x && y) (fine_word fa)).trans (Bool.and_self _))) (by rw [accErr_ok (prod_good (good2_self Ga) hls _) fa]; rfl))
    rcases prod_two d0 d1 with ⟨k, hk⟩ | ⟨g2, l, hl⟩
    · obtain ⟨j, hj⟩ := prod_swap hk
      have HB := Lib.hid (fun W v u (h : DfaAt W W.heap.size v d0) (h2 : DfaAt W W.heap.size u d1) => both_gives h h2 (hk _) rfl)
      have HC := Lib.hid (fun W v u (h : DfaAt W W.heap.size v d1) (h2 : DfaAt W W.heap.size u d0) => both_gives h h2 (hj _) rfl)
      rw [show errV (k + 1) = errI ((k + 1 : Nat) : Int) from rfl] at HB
      rw [show errV (j + 1) = errI ((j + 1 : Nat) : Int) from rfl] at HC
      generalize ((k + 1 : Nat) : Int) = E at *
      generalize ((j + 1 : Nat) : Int) = E2 at *
      generalize accA d0 z2 = x at *
      generalize autOf d0.L (S2 d0 d0) ls (fun p => (fun x y => x && y) (finA d0 p.1) (finA d0 p.2)) = PS at *
      have hx1 : (x != x) = false := bne_self_eq_false _
      clear ga Ga fa hls hk hj
      obtain ⟨L0, s0, A0, n0, c0, F0, m0, k0, rfl⟩ := h0.form
      obtain ⟨L1, s1, A1, n1, c1, F1, m1, k1, rfl⟩ := h1.form
      obtain ⟨u0, hu0, hb0, VA0, VB0⟩ := vars_two w h0 h1
      have VA := Lib.hid VA0
      have VB := Lib.hid VB0
      have B := Lib.hid hb0
      have W0 := Lib.hid hu0
      have Z := Lib.hid (Z2.on hb0)
      clear VA0 VB0 hb0 hu0 h0 h1 Z2
      go_enter Try.func6, Try.ntmps6
      go_wp2_with fail
      rw [← W0.out]
      refine (known_any _).mono ?_
      rintro e u1 ⟨rfl, hb⟩
      have VA := Lib.hid (VA.out.on hb)
      have VB := Lib.hid (VB.out.on hb)
      have Z := Lib.hid (Z.out.on hb)
      have B := Lib.hid (B.out.trans (hb.mono B.out.size))
      clear hb W0
      obtain ⟨p0, p1, p2, p3, p4⟩ := VA.out.box
      go_wp2_with fail
      refine (HAa.out _ _ VA.out.at_ Z.out).mono ?_
      rintro e u2 ⟨rfl, hb⟩
      have VA := Lib.hid (VA.out.on hb)
      have VB := Lib.hid (VB.out.on hb)
      have Z := Lib.hid (Z.out.on hb)
      have B := Lib.hid (B.out.trans (hb.mono B.out.size))
      clear hb  p0 p1 p2 p3 p4 HAa
      obtain ⟨p0, p1, p2, p3, p4⟩ := VA.out.box
      go_wp2_with fail
      refine (HSe.out _ _ _ VA.out.at_ VA.out.at_).mono ?_
      rintro e u3 ⟨L13, s13, A13, n13, c13, F13, m13, k13, rfl, hd, hb⟩
      have VA := Lib.hid (VA.out.on hb)
      have VB := Lib.hid (VB.out.on hb)
      have Z := Lib.hid (Z.out.on hb)
      have B := Lib.hid (B.out.trans (hb.mono B.out.size))
      clear hb  p0 p1 p2 p3 p4 HSe
      obtain ⟨x3, hx3, hb, Vn⟩ := var_new u3 hd.out
      have HX := Lib.hid hx3
      have Vn := Lib.hid Vn
      have VA := Lib.hid (VA.out.on hb)
      have VB := Lib.hid (VB.out.on hb)
      have Z := Lib.hid (Z.out.on hb)
      have B := Lib.hid (B.out.trans (hb.mono B.out.size))
      clear hb hd hx3
      go_wp2_with fail
      rw [← HX.out]
      clear HX
      have VS := Vn
      clear Vn
      refine (HAs.out _ _ VS.out.at_ Z.out).mono ?_
      rintro e u4 ⟨rfl, hb⟩
      have VA := Lib.hid (VA.out.on hb)
      have VB := Lib.hid (VB.out.on hb)
      have VS := Lib.hid (VS.out.on hb)
      have Z := Lib.hid (Z.out.on hb)
      have B := Lib.hid (B.out.trans (hb.mono B.out.size))
      clear hb  HAs
      clear VS
      obtain ⟨p0, p1, p2, p3, p4⟩ := VA.out.box
      obtain ⟨q0, q1, q2, q3, q4⟩ := VB.out.box
      go_wp2_with fail
      refine (HB.out _ _ _ VA.out.at_ VB.out.at_).mono ?_
      rintro e u5 ⟨L15, s15, A15, n15, c15, F15, m15, k15, rfl, hd, hb⟩
      have VA := Lib.hid (VA.out.on hb)
      have VB := Lib.hid (VB.out.on hb)
      have Z := Lib.hid (Z.out.on hb)
      have B := Lib.hid (B.out.trans (hb.mono B.out.size))
      clear hb  p0 p1 p2 p3 p4 q0 q1 q2 q3 q4 HB
      obtain ⟨p0, p1, p2, p3, p4⟩ := VB.out.box
      obtain ⟨q0, q1, q2, q3, q4⟩ := VA.out.box
      obtain ⟨x5, hx5, hb, Vn⟩ := var_new u5 hd.out
      have HX := Lib.hid hx5
      have Vn := Lib.hid Vn
      have VA := Lib.hid (VA.out.on hb)
      have VB := Lib.hid (VB.out.on hb)
      have Z := Lib.hid (Z.out.on hb)
      have B := Lib.hid (B.out.trans (hb.mono B.out.size))
      clear hb hd hx5
      go_wp2_with fail
      rw [← HX.out]
      clear HX
      have VP := Vn
      clear Vn
      refine (HC.out _ _ _ VB.out.at_ VA.out.at_).mono ?_
      rintro e u6 ⟨L16, s16, A16, n16, c16, F16, m16, k16, rfl, hd, hb⟩
      have VA := Lib.hid (VA.out.on hb)
      have VB := Lib.hid (VB.out.on hb)
      have VP := Lib.hid (VP.out.on hb)
      have Z := Lib.hid (Z.out.on hb)
      have B := Lib.hid (B.out.trans (hb.mono B.out.size))
      clear hb  p0 p1 p2 p3 p4 q0 q1 q2 q3 q4 HC
      have HY := Lib.hid (B.out.trans ((below_alloc _ (.cells #[.int .i64 L16, .int .i64 s16, .slice A16 n16 c16, .slice F16 m16 k16] 25)).mono B.out.size))
      clear hd B
      go_wp2
      go_ret
      exact ⟨rfl, HY.out⟩
    · have gs : Good2 d1 d0 := ⟨g2.gb, g2.ga, g2.eL.symm⟩
      obtain ⟨l2, hl2⟩ : ∃ l2, found (S2 d1 d0) (start2 d1 d0) = some l2 := by
        rcases hf : found (S2 d1 d0) (start2 d1 d0) with _ | l2
        · have := found_swap gs.eL hf
          rw [hl] at this; cases this
        · exact ⟨l2, rfl⟩
      have hlen := found_swap_len g2.eL hl hl2
      have fb : Fine d1.L z2 := by rw [← g2.eL]; exact fa
      have gp := prod_good g2 hl (fun p => (fun x y => x && y) (finA d0 p.1) (finA d1 p.2))
      have gq := prod_good gs hl2 (fun p => (fun x y => x && y) (finA d1 p.1) (finA d0 p.2))
      have hap := prod_acc g2 hl (fun x y => x && y) (fine_word fa)
      have haq := prod_acc gs hl2 (fun x y => x && y) (fine_word fb)
      have HB := Lib.hid (fun W v u (h : DfaAt W W.heap.size v d0) (h2 : DfaAt W W.heap.size u d1) => both_gives (E := .nilIface) h h2 (prod_ok g2 hl (fun x y => x && y)) rfl)
      have HC := Lib.hid (fun W v u (h : DfaAt W W.heap.size v d1) (h2 : DfaAt W W.heap.size u d0) => both_gives (E := .nilIface) h h2 (prod_ok gs hl2 (fun x y => x && y)) rfl)
      have gw := good2_with g2 hl (fun p => (fun x y => x && y) (finA d0 p.1) (finA d1 p.2))
      obtain ⟨m, hm⟩ := found_with g2 hl (fun p => (fun x y => x && y) (finA d0 p.1) (finA d1 p.2))
      have hpn : (autOf d0.L (S2 d0 d1) l (fun p => (fun x y => x && y) (finA d0 p.1) (finA d1 p.2))).next.length = l.length := by simp [autOf]
      have hqn : (autOf d1.L (S2 d1 d0) l2 (fun p => (fun x y => x && y) (finA d1 p.1) (finA d0 p.2))).next.length = l.length := by simp [autOf, hlen]
      have hpL : (autOf d0.L (S2 d0 d1) l (fun p => (fun x y => x && y) (finA d0 p.1) (finA d1 p.2))).L = d0.L := rfl
      have hqL : (autOf d1.L (S2 d1 d0) l2 (fun p => (fun x y => x && y) (finA d1 p.1) (finA d0 p.2))).L = d1.L := rfl
      simp only at HB HC hap haq gp gq gw hm hpn hqn hpL hqL
      clear hl hl2 hlen
      generalize autOf d0.L (S2 d0 d1) l (fun p => finA d0 p.1 && finA d1 p.2) = P at *
      generalize autOf d1.L (S2 d1 d0) l2 (fun p => finA d1 p.1 && finA d0 p.2) = Q at *
      have HP := Lib.hid (fun W v (h : DfaAt W W.heap.size v P) (hZ : IntsAt W W.heap.size A2 z2) => acc_gives (cz := c2) (E := .nilIface) h hZ hr ((accOut_ok gp (by rw [hpL]; exact fa)).trans hap) (by rw [accErr_ok gp (by rw [hpL]; exact fa)]; rfl))
      have HQ := Lib.hid (fun W v (h : DfaAt W W.heap.size v Q) (hZ : IntsAt W W.heap.size A2 z2) => acc_gives (cz := c2) (E := .nilIface) h hZ hr ((accOut_ok gq (by rw [hqL]; exact fb)).trans (haq.trans (Bool.and_comm _ _))) (by rw [accErr_ok gq (by rw [hqL]; exact fb)]; rfl))
      have HE := Lib.hid (fun W v u (h : DfaAt W W.heap.size v d0) (h2 : DfaAt W W.heap.size u P) => either_gives (E := .nilIface) h h2 (prod_ok gw hm (fun x y => x || y)) rfl)
      have gr := prod_good gw hm (fun p => (fun x y => x || y) (finA d0 p.1) (finA P p.2))
      have har := prod_acc gw hm (fun x y => x || y) (fine_word fa)
      rw [hap] at har
      have hor : ∀ x y : Bool, (x || (x && y)) = x := by decide
      simp only [hor] at HE gr har
      have hrL : (autOf d0.L (S2 d0 P) m (fun p => finA d0 p.1 || finA P p.2)).L = d0.L := rfl
      generalize autOf d0.L (S2 d0 P) m (fun p => finA d0 p.1 || finA P p.2) = R at *
      have HR := Lib.hid (fun W v (h : DfaAt W W.heap.size v R) (hZ : IntsAt W W.heap.size A2 z2) => acc_gives (cz := c2) (E := .nilIface) h hZ hr ((accOut_ok gr (by rw [hrL]; exact fa)).trans har) (by rw [accErr_ok gr (by rw [hrL]; exact fa)]; rfl))
      have HN : Hid (P.next.length = l.length ∧ Q.next.length = l.length) := ⟨hpn, hqn⟩
      clear hap haq har gp gq gr gw hm hpn hqn hpL hqL hrL fa fb Ga ga hls g2 gs hor
      generalize (accA d0 z2 && accA d1 z2) = y at *
      generalize accA d0 z2 = x at *
      generalize autOf d0.L (S2 d0 d0) ls (fun p => (fun x y => x && y) (finA d0 p.1) (finA d0 p.2)) = PS at *
      generalize l.length = len at *
      have hx1 : (x != x) = false := bne_self_eq_false _
      have hx2 : (x == x) = true := beq_self_eq_true _
      have hy1 : (y != y) = false := bne_self_eq_false _
      obtain ⟨L0, s0, A0, n0, c0, F0, m0, k0, rfl⟩ := h0.form
      obtain ⟨L1, s1, A1, n1, c1, F1, m1, k1, rfl⟩ := h1.form
      obtain ⟨u0, hu0, hb0, VA0, VB0⟩ := vars_two w h0 h1
      have VA := Lib.hid VA0
      have VB := Lib.hid VB0
      have B := Lib.hid hb0
      have W0 := Lib.hid hu0
      have Z := Lib.hid (Z2.on hb0)
      clear VA0 VB0 hb0 hu0 h0 h1 Z2
      go_enter Try.func6, Try.ntmps6
      go_wp2_with fail
      rw [← W0.out]
      refine (known_any _).mono ?_
      rintro e u1 ⟨rfl, hb⟩
      have VA := Lib.hid (VA.out.on hb)
      have VB := Lib.hid (VB.out.on hb)
      have Z := Lib.hid (Z.out.on hb)
      have B := Lib.hid (B.out.trans (hb.mono B.out.size))
      clear hb W0
      obtain ⟨p0, p1, p2, p3, p4⟩ := VA.out.box
      go_wp2_with fail
      refine (HAa.out _ _ VA.out.at_ Z.out).mono ?_
      rintro e u2 ⟨rfl, hb⟩
      have VA := Lib.hid (VA.out.on hb)
      have VB := Lib.hid (VB.out.on hb)
      have Z := Lib.hid (Z.out.on hb)
      have B := Lib.hid (B.out.trans (hb.mono B.out.size))
      clear hb  p0 p1 p2 p3 p4 HAa
      obtain ⟨p0, p1, p2, p3, p4⟩ := VA.out.box
      go_wp2_with fail
      refine (HSe.out _ _ _ VA.out.at_ VA.out.at_).mono ?_
      rintro e u3 ⟨L13, s13, A13, n13, c13, F13, m13, k13, rfl, hd, hb⟩
      have VA := Lib.hid (VA.out.on hb)
      have VB := Lib.hid (VB.out.on hb)
      have Z := Lib.hid (Z.out.on hb)
      have B := Lib.hid (B.out.trans (hb.mono B.out.size))
      clear hb  p0 p1 p2 p3 p4 HSe
      obtain ⟨x3, hx3, hb, Vn⟩ := var_new u3 hd.out
      have HX := Lib.hid hx3
      have Vn := Lib.hid Vn
      have VA := Lib.hid (VA.out.on hb)
      have VB := Lib.hid (VB.out.on hb)
      have Z := Lib.hid (Z.out.on hb)
      have B := Lib.hid (B.out.trans (hb.mono B.out.size))
      clear hb hd hx3
      go_wp2_with fail
      rw [← HX.out]
      clear HX
      have VS := Vn
      clear Vn
      refine (HAs.out _ _ VS.out.at_ Z.out).mono ?_
      rintro e u4 ⟨rfl, hb⟩
      have VA := Lib.hid (VA.out.on hb)
      have VB := Lib.hid (VB.out.on hb)
      have VS := Lib.hid (VS.out.on hb)
      have Z := Lib.hid (Z.out.on hb)
      have B := Lib.hid (B.out.trans (hb.mono B.out.size))
      clear hb  HAs
      clear VS
      obtain ⟨p0, p1, p2, p3, p4⟩ := VA.out.box
      obtain ⟨q0, q1, q2, q3, q4⟩ := VB.out.box
      go_wp2_with fail
      refine (HB.out _ _ _ VA.out.at_ VB.out.at_).mono ?_
      rintro e u5 ⟨L15, s15, A15, n15, c15, F15, m15, k15, rfl, hd, hb⟩
      have VA := Lib.hid (VA.out.on hb)
      have VB := Lib.hid (VB.out.on hb)
      have Z := Lib.hid (Z.out.on hb)
      have B := Lib.hid (B.out.trans (hb.mono B.out.size))
      clear hb  p0 p1 p2 p3 p4 q0 q1 q2 q3 q4 HB
      obtain ⟨p0, p1, p2, p3, p4⟩ := VB.out.box
      obtain ⟨q0, q1, q2, q3, q4⟩ := VA.out.box
      obtain ⟨x5, hx5, hb, Vn⟩ := var_new u5 hd.out
      have HX := Lib.hid hx5
      have Vn := Lib.hid Vn
      have VA := Lib.hid (VA.out.on hb)
      have VB := Lib.hid (VB.out.on hb)
      have Z := Lib.hid (Z.out.on hb)
      have B := Lib.hid (B.out.trans (hb.mono B.out.size))
      clear hb hd hx5
      go_wp2_with fail
      rw [← HX.out]
      clear HX
      have VP := Vn
      clear Vn
      refine (HC.out _ _ _ VB.out.at_ VA.out.at_).mono ?_
      rintro e u6 ⟨L16, s16, A16, n16, c16, F16, m16, k16, rfl, hd, hb⟩
      have VA := Lib.hid (VA.out.on hb)
      have VB := Lib.hid (VB.out.on hb)
      have VP := Lib.hid (VP.out.on hb)
      have Z := Lib.hid (Z.out.on hb)
      have B := Lib.hid (B.out.trans (hb.mono B.out.size))
      clear hb  p0 p1 p2 p3 p4 q0 q1 q2 q3 q4 HC
      obtain ⟨p0, p1, p2, p3, p4⟩ := VP.out.box
      obtain ⟨x6, hx6, hb, Vn⟩ := var_new u6 hd.out
      have HX := Lib.hid hx6
      have Vn := Lib.hid Vn
      have VA := Lib.hid (VA.out.on hb)
      have VB := Lib.hid (VB.out.on hb)
      have VP := Lib.hid (VP.out.on hb)
      have Z := Lib.hid (Z.out.on hb)
      have B := Lib.hid (B.out.trans (hb.mono B.out.size))
      clear hb hd hx6
      go_wp2_with fail
      rw [← HX.out]
      clear HX
      have VQ := Vn
      clear Vn
      refine (HP.out _ _ VP.out.at_ Z.out).mono ?_
      rintro e u7 ⟨rfl, hb⟩
      have VA := Lib.hid (VA.out.on hb)
      have VB := Lib.hid (VB.out.on hb)
      have VP := Lib.hid (VP.out.on hb)
      have VQ := Lib.hid (VQ.out.on hb)
      have Z := Lib.hid (Z.out.on hb)
      have B := Lib.hid (B.out.trans (hb.mono B.out.size))
      clear hb  p0 p1 p2 p3 p4 HP
      obtain ⟨p0, p1, p2, p3, p4⟩ := VQ.out.box
      go_wp2_with fail
      refine (HQ.out _ _ VQ.out.at_ Z.out).mono ?_
      rintro e u8 ⟨rfl, hb⟩
      have VA := Lib.hid (VA.out.on hb)
      have VB := Lib.hid (VB.out.on hb)
      have VP := Lib.hid (VP.out.on hb)
      have VQ := Lib.hid (VQ.out.on hb)
      have Z := Lib.hid (Z.out.on hb)
      have B := Lib.hid (B.out.trans (hb.mono B.out.size))
      clear hb  p0 p1 p2 p3 p4 HQ
      obtain ⟨_, _, hN0, _⟩ := VP.out.at_.eqs
      obtain ⟨_, _, hN1, _⟩ := VQ.out.at_.eqs
      rw [HN.out.1] at hN0
      rw [HN.out.2] at hN1
      subst hN0
      have hy2 := int_eq' (show ((len : Nat) : Int) = ((len : Nat) : Int) from rfl)
      obtain ⟨t0, t1, t2, t3, t4⟩ := VQ.out.box
      try subst hN1
      obtain ⟨p0, p1, p2, p3, p4⟩ := VA.out.box
      obtain ⟨q0, q1, q2, q3, q4⟩ := VP.out.box
      go_wp2_with fail
      refine (HE.out _ _ _ VA.out.at_ VP.out.at_).mono ?_
      rintro e u9 ⟨L19, s19, A19, n19, c19, F19, m19, k19, rfl, hd, hb⟩
      have VA := Lib.hid (VA.out.on hb)
      have VB := Lib.hid (VB.out.on hb)
      have VP := Lib.hid (VP.out.on hb)
      have VQ := Lib.hid (VQ.out.on hb)
      have Z := Lib.hid (Z.out.on hb)
      have B := Lib.hid (B.out.trans (hb.mono B.out.size))
      clear hb  p0 p1 p2 p3 p4 q0 q1 q2 q3 q4 HE
      obtain ⟨x9, hx9, hb, Vn⟩ := var_new u9 hd.out
      have HX := Lib.hid hx9
      have Vn := Lib.hid Vn
      have VA := Lib.hid (VA.out.on hb)
      have VB := Lib.hid (VB.out.on hb)
      have VP := Lib.hid (VP.out.on hb)
      have VQ := Lib.hid (VQ.out.on hb)
      have Z := Lib.hid (Z.out.on hb)
      have B := Lib.hid (B.out.trans (hb.mono B.out.size))
      clear hb hd hx9
      go_wp2_with fail
      rw [← HX.out]
      clear HX
      have VR := Vn
      clear Vn
      refine (HR.out _ _ VR.out.at_ Z.out).mono ?_
      rintro e u10 ⟨rfl, hb⟩
      have VA := Lib.hid (VA.out.on hb)
      have VB := Lib.hid (VB.out.on hb)
      have VP := Lib.hid (VP.out.on hb)
      have VQ := Lib.hid (VQ.out.on hb)
      have VR := Lib.hid (VR.out.on hb)
      have Z := Lib.hid (Z.out.on hb)
      have B := Lib.hid (B.out.trans (hb.mono B.out.size))
      clear hb  HR
      go_wp2
      go_ret
      exact ⟨rfl, B.out⟩
  · obtain ⟨x, hx⟩ := errV_bad ga
    have HAa := Lib.hid (fun W v (h : DfaAt W W.heap.size v d0) (hZ : IntsAt W W.heap.size A2 z2) => acc_gives (cz := c2) h hZ hr rfl hx)
    have HSe := Lib.hid (fun W v u (h : DfaAt W W.heap.size v d0) (h2 : DfaAt W W.heap.size u d0) => both_gives h h2 (r := (prodOut (fun x y => x && y) d0 d0).1) (k := (prodOut (fun x y => x && y) d0 d0).2) rfl rfl)
    clear ga hx
    generalize errV (prodOut (fun x y => x && y) d0 d0).2 = E at *
    generalize (prodOut (fun x y => x && y) d0 d0).1 = N at *
    generalize accOut d0 z2 = bx at *
    obtain ⟨L0, s0, A0, n0, c0, F0, m0, k0, rfl⟩ := h0.form
    obtain ⟨L1, s1, A1, n1, c1, F1, m1, k1, rfl⟩ := h1.form
    obtain ⟨u0, hu0, hb0, VA0, VB0⟩ := vars_two w h0 h1
    have VA := Lib.hid VA0
    have VB := Lib.hid VB0
    have B := Lib.hid hb0
    have W0 := Lib.hid hu0
    have Z := Lib.hid (Z2.on hb0)
    clear VA0 VB0 hb0 hu0 h0 h1 Z2
    go_enter Try.func6, Try.ntmps6
    go_wp2_with fail
    rw [← W0.out]
    refine (known_any _).mono ?_
    rintro e u1 ⟨rfl, hb⟩
    have VA := Lib.hid (VA.out.on hb)
    have VB := Lib.hid (VB.out.on hb)
    have Z := Lib.hid (Z.out.on hb)
    have B := Lib.hid (B.out.trans (hb.mono B.out.size))
    clear hb W0
    obtain ⟨p0, p1, p2, p3, p4⟩ := VA.out.box
    go_wp2_with fail
    refine (HAa.out _ _ VA.out.at_ Z.out).mono ?_
    rintro e u2 ⟨rfl, hb⟩
    have VA := Lib.hid (VA.out.on hb)
    have VB := Lib.hid (VB.out.on hb)
    have Z := Lib.hid (Z.out.on hb)
    have B := Lib.hid (B.out.trans (hb.mono B.out.size))
    clear hb  p0 p1 p2 p3 p4 HAa
    obtain ⟨p0, p1, p2, p3, p4⟩ := VA.out.box
    go_wp2_with fail
    refine (HSe.out _ _ _ VA.out.at_ VA.out.at_).mono ?_
    rintro e u3 ⟨L13, s13, A13, n13, c13, F13, m13, k13, rfl, hd, hb⟩
    have VA := Lib.hid (VA.out.on hb)
    have VB := Lib.hid (VB.out.on hb)
    have Z := Lib.hid (Z.out.on hb)
    have B := Lib.hid (B.out.trans (hb.mono B.out.size))
    clear hb  p0 p1 p2 p3 p4 HSe
    have HY := Lib.hid (B.out.trans ((below_alloc _ (.cells #[.int .i64 L13, .int .i64 s13, .slice A13 n13 c13, .slice F13 m13 k13] 25)).mono B.out.size))
    clear hd B
    go_wp2
    go_ret
    exact ⟨rfl, HY.out⟩


set_option maxRecDepth 100000 in
theorem lifted (os : Os) (started : os.Started) (H : Type) (enc : TypeId × Value → H) :
    ReturnsInHanded {} Try.checked os 6 .any (Rows.dfaLatticeSpec.pre6 enc Try.prog Try.f6 Rows.dfaLatticeRow.domain false) (Rows.dfaLatticeSpec.post enc Try.prog Try.f6 false true false false) := by
  refine returnsInHanded_of_change_sized (C := Try.checked) own started (by kernel_rfl) Try.func6
    (ChangeSpec.witness6 (enc := enc) (C := Try.checked) false ⟨#[], #[.agg #[.int .i64 0, .int .i64 0, .slice none 0 0, .slice none 0 0], .agg #[.int .i64 0, .int .i64 0, .slice none 0 0, .slice none 0 0], .slice none 0 0], []⟩ 8 (by kernel_rfl) (by kernel_rfl) (by kernel_rfl) (by kernel_rfl)) ?_
  intro W base args ds gs before hval0 hW hcnd hsz0 _
  have hval : ∀ (j : Nat) t v, Try.f6.params[j]? = some t → args[j]? = some v → Value.okWide Try.prog W .any base t v := hval0
  have hsz : (DataW.weightsEach Try.prog (Try.f6.params.toList ++ Rows.dfaLatticeSpec.plain.varTypes Try.prog) (ds ++ gs)).all (· ≤ reachBytes) = true := hsz0
  have hW' := hW
  obtain ⟨p, q, hA0, hV0, rfl, hfz, hnd⟩ := hW
  have hV : DataW.TrodVars enc Try.prog W (fun _ => true) [] gs q := hV0
  have hA : DataW.TrodAll enc Try.prog W 0 (fun _ => true) true Try.f6.params.toList args.toList ds p := hA0
  rw [Try.params6] at hA hval hsz
  obtain ⟨v0, vs0, d0, ds0, p0, q0, hargs, rfl, rfl, h0, rr0⟩ := trodAll_cons hA
  obtain ⟨v1, vs1, d1, ds1, p1, q1, rfl, rfl, rfl, h1, rr1⟩ := trodAll_cons rr0
  obtain ⟨v2, vs2, d2, ds2, p2, q2, rfl, rfl, rfl, h2, rr2⟩ := trodAll_cons rr1
  obtain ⟨rfl, rfl, rfl⟩ := trodAll_nil rr2
  obtain rfl : args = #[v0, v1, v2] := by cases args; simp_all
  obtain ⟨rfl, rfl⟩ := trodVars_none hV
  have k0 := h0
  have lt0 : ∀ x ∈ p0, x.block < W.heap.size := by obtain ⟨m, hm⟩ := k0; exact DataW.trod_lt m _ _ _ hm
  have k1 := h1
  have lt1 : ∀ x ∈ p1, x.block < W.heap.size := by obtain ⟨m, hm⟩ := k1; exact DataW.trod_lt m _ _ _ hm
  have k2 := h2
  have lt2 : ∀ x ∈ p2, x.block < W.heap.size := by obtain ⟨m, hm⟩ := k2; exact DataW.trod_lt m _ _ _ hm
  obtain ⟨D0, x0⟩ : ∃ d : Df.Aut, Df.DfaAt W W.heap.size v0 d := Df.dfa_open (hval 0 25 v0 rfl rfl) h0
  obtain ⟨D1, x1⟩ : ∃ d : Df.Aut, Df.DfaAt W W.heap.size v1 d := Df.dfa_open (hval 1 25 v1 rfl rfl) h1
  obtain ⟨A2, len2, c2, rfl⟩ := okWide_slice Try.underlying26 (hval 2 26 v2 rfl rfl)
  obtain ⟨z2, rfl, x2, r2, m2⟩ : ∃ zs : List Int, len2 = zs.length ∧ IntsAt W W.heap.size A2 zs ∧ zs.length ≤ 17592186043904 ∧ zs.length ≤ c2 := by
    obtain ⟨fuel, hf⟩ := h2
    rcases open_ints Try.underlying26 Try.underlying3 (by kernel_rfl) hf with ⟨hcs, _⟩ | ⟨x, l, c, zs, hcs, _, hl, hm, hz, hx, hcell, hwz⟩
    · simp [Value.cells] at hcs
      obtain ⟨rfl, rfl, rfl⟩ := hcs
      exact ⟨[], rfl, IntsAt.nil _ _ _, by simp, by simp⟩
    · simp [Value.cells] at hcs
      obtain ⟨rfl, rfl, rfl⟩ := hcs
      have hd := congrArg Prod.fst hx
      simp only at hd
      have := sized_slice hsz (j := 2) (t := 26) (e := 3) rfl (by rw [hd]; rfl) Try.underlying26
      rw [(show Try.prog.bytesOf 3 = 8 by kernel_rfl)] at this
      simp only [reachBytes, lits, List.length_map, List.length_take, List.length_drop] at this
      have hz' : zs.length = c2 := by simpa using hz
      exact ⟨zs.take len2, by rw [List.length_take]; omega, intsAt_of_open hcell hwz len2, by rw [List.length_take]; omega, by rw [List.length_take]; omega⟩
  clear hA0 hval0
  refine (walk v0 D0 v1 D1 A2 c2 z2 W x0 x1 x2 r2 m2).mono fun e W' ⟨he, bel⟩ => ?_
  subst he
  exact ⟨_, rfl, _, _, _, [], _, [], hW', trodAll_mk1 (shut_bool Try.underlying4 _), (trodAll_cons_mk (Below.trod laidOut (by kernel_rfl) (of_decide_eq_true (by kernel_rfl)) k0 bel lt0) (trodAll_cons_mk (Below.trod laidOut (by kernel_rfl) (of_decide_eq_true (by kernel_rfl)) k1 bel lt1) (trodAll_cons_mk (Below.trod laidOut (by kernel_rfl) (of_decide_eq_true (by kernel_rfl)) k2 bel lt2) trodAll_mk0))), rfl, bel.frame _, fun h => by cases h⟩

theorem over : Rows.dfaLatticeRow.holds Try.pinned (OpenSpec.ofChange Rows.dfaLatticeSpec) :=
  OpenClaim.holds_of_wide 6 Try.f6 rfl rfl rfl rfl rfl rfl rfl ⟨rfl, rfl, rfl, rfl, rfl⟩ rfl rfl rfl rfl rfl (by kernel_rfl) Try.func6 (by kernel_rfl)
    (of_decide_eq_true (by kernel_rfl)) (by unfold Func.isWrapper; rw [if_neg (of_decide_eq_false (by kernel_rfl))]; exact ⟨rfl, rfl⟩)
    (fun os started H enc _ => lifted os started H enc)
theorem proved : Rows.DfaLatticeSaid := over
#print axioms proved
end Go.Proofs.Ytinehjfanabegaa.dfaLattice
