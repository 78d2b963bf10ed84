/-
  The statement SmallWordSaid of this seat, proved: for every input the law returns true and its arguments read behind the call as before. Conditions: none but the row's own (each argument within the reach).
-/
import Derived.Test.YtinehjfanabegaaRows
import Derived.Test.YtinehjfanabegaaWords
import Derived.WalkKit
import Derived.ProofKit
import Derived.OpenShut
import Derived.ShutString
import Derived.ChangeOld
import Derived.Below
import Derived.SizedLaws
import Derived.Lib.Hide
import Derived.Test.YtinehjfanabegaaSmallV
import Derived.Test.YtinehjfanabegaaRefWord
namespace Go.Proofs.Ytinehjfanabegaa.smallWord
open Go.ChangeShapes Go.WideShapes Go.ChangeAt Go.RowKit Go.IntWalk Go.Proofs.Ytinehjfanabegaa.Wd
open Go.ChangeMaps (open_string shut_string)
set_option linter.unusedVariables false

theorem own : ownKnob Try.prog.godebug = none := by kernel_rfl
theorem laidOut : laidOutB Try.prog = true := by kernel_rfl
open Go.Proofs.Ytinehjfanabegaa.Wo Go.Proofs.Ytinehjfanabegaa.Df Go.Proofs.Ytinehjfanabegaa.Rc Go.Proofs.Ytinehjfanabegaa.Sm Go.Proofs.Ytinehjfanabegaa.Mp

set_option maxRecDepth 100000 in
set_option maxHeartbeats 4000000 in
theorem walk (v0 : Value) (d0 : Df.Aut) (v1 : Value) (d1 : Df.Aut) (A2 : Option Addr) (c2 : Nat) (z2 : List Int) (w : World) (h0 : Df.DfaAt w w.heap.size v0 d0) (h1 : Df.DfaAt w w.heap.size v1 d1) (v2 : IntsAt w w.heap.size A2 z2) (r2 : z2.length ≤ 17592186043904) (m2 : z2.length ≤ c2) :
    Calls Try.prog 12 #[v0, v1, .slice A2 z2.length c2] w fun e w' => e = .returned (.bool true) ∧ Below w.heap.size w w' := by
  have hr : z2.length ≤ 17592186044416 := by omega
  obtain ⟨L0, s0, A0, n0, c0, F0, m0, k0, rfl⟩ := h0.form
  obtain ⟨L1, s1, A1, n1, c1, F1, m1, k1, rfl⟩ := h1.form
  obtain ⟨hL0, hs0, hN0, hM0⟩ := h0.eqs
  obtain ⟨hL1, hs1, hN1, hM1⟩ := h1.eqs
  obtain ⟨u0, hu0, hb0, VA0, VB0⟩ := vars_two w h0 h1
  have VA := Lib.hid VA0
  have VB := Lib.hid VB0
  have B := Lib.hid hb0
  have W0 := Lib.hid hu0
  have Z := Lib.hid (v2.on hb0)
  clear hu0 hb0 VA0 VB0 h0 h1 v2 m2 r2
  by_cases g : chkD2 d0 d1 = 0
  · have G := chkD2_iff.1 g
    have h40 := G.ga.n40
    have h41 := G.gb.n40
    have hp1 := G.ga.n1
    have hp2 := G.gb.n1
    rcases hd : diffW d0 d1 d0.s.toNat d1.s.toNat with _ | u
    · have HS1 := Lib.hid (fun W v z (h : DfaAt W W.heap.size v d0) (h2 : DfaAt W W.heap.size z d1) => same_gives2 (E := .nilIface) h h2 (sameOut_none g hd) rfl)
      have HS2 := Lib.hid (fun W v z (h : DfaAt W W.heap.size v d1) (h2 : DfaAt W W.heap.size z d0) => same_gives2 (E := .nilIface) h h2 ((sameOut_turn g).trans (sameOut_none g hd)) rfl)
      have HIn : Hid (∀ W A B c d, IntsAt W W.heap.size A [] → IntsAt W W.heap.size B [] → Calls Try.prog 31 #[.slice A 0 c, .slice B 0 d] W fun e w' => e = .returned (.bool true) ∧ Below W.heap.size W w') := fun W A B c d hA hB =>
        (ints_yes (n := 0) (v := []) (z := []) rfl hA hB (by decide)).mono fun e w' ⟨h1, m, h2⟩ => ⟨h1, by rw [h2]; exact below_drewN (Below.refl _ _) m⟩
      have hal := (diffW_none G G.ga.s_lt G.gb.s_lt).1 hd
      have hgn : ¬ (0 : Int) ≥ (n0 : Int) + (n1 : Int) := by rw [← hN0, ← hN1]; omega
      have hn0 : (n0 : Int) ≤ 40 ∧ 0 ≤ (n0 : Int) := by rw [← hN0]; omega
      have hn1 : (n1 : Int) ≤ 40 ∧ 0 ≤ (n1 : Int) := by rw [← hN1]; omega
      have hw1 : IntKind.i64.wrap ((n0 : Int) + (n1 : Int)) = (n0 : Int) + (n1 : Int) := IntWalk.i64_in _ ⟨by omega, by omega⟩
      obtain ⟨hn01, hn02⟩ := hn0
      obtain ⟨hn11, hn12⟩ := hn1
      by_cases ga : accErr d0 z2 = 0
      · obtain ⟨Ga, fa⟩ := accErr_good ga
        have fb : Fine d1.L z2 := by rw [← G.eL]; exact fa
        have hacc : accA d0 z2 = accA d1 z2 := hal z2 (fine_word fa)
        have HA := Lib.hid (fun W v (h : DfaAt W W.heap.size v d0) (hZ : IntsAt W W.heap.size A2 z2) => acc_gives (cz := c2) (E := .nilIface) h hZ hr (accOut_ok Ga fa) (congrArg errV ga))
        have HC := Lib.hid (fun W v (h : DfaAt W W.heap.size v d1) (hZ : IntsAt W W.heap.size A2 z2) => acc_gives (cz := c2) (E := .nilIface) h hZ hr ((accOut_ok G.gb fb).trans hacc.symm) (congrArg errV (accErr_ok G.gb fb)))
        clear ga Ga fa fb hacc hal G h40 h41 hp1 hp2 hd g hN0 hN1 hL0 hL1 hs0 hs1 hM0 hM1 hr
        generalize accA d0 z2 = ac at *
        go_enter Try.func12, Try.ntmps12
        obtain ⟨p0, p1, p2, p3, p4⟩ := VA.out.box
        obtain ⟨q0, q1, q2, q3, q4⟩ := VB.out.box
        go_wp2_with fail
        rw [← W0.out]
        clear W0
        refine (HS1.out _ _ _ VA.out.at_ VB.out.at_).mono ?_
        rintro e u1 ⟨Au1, cu1, rfl, hU, hb⟩
        have HU1 := Lib.hid hU.out
        clear hU
        have VA := Lib.hid (VA.out.on hb)
        have VB := Lib.hid (VB.out.on hb)
        have Z := Lib.hid (Z.out.on hb)
        have B := Lib.hid (B.out.trans (hb.mono B.out.size))
        clear hb HS1 p0 p1 p2 p3 p4 q0 q1 q2 q3 q4
        obtain ⟨p0, p1, p2, p3, p4⟩ := VA.out.box
        obtain ⟨q0, q1, q2, q3, q4⟩ := VB.out.box
        go_wp2_with fail
        refine (HS2.out _ _ _ VB.out.at_ VA.out.at_).mono ?_
        rintro e u2 ⟨Au2, cu2, rfl, hU, hb⟩
        have HU2 := Lib.hid hU.out
        clear hU
        have VA := Lib.hid (VA.out.on hb)
        have VB := Lib.hid (VB.out.on hb)
        have Z := Lib.hid (Z.out.on hb)
        have HU1 := Lib.hid (HU1.out.on hb)
        have B := Lib.hid (B.out.trans (hb.mono B.out.size))
        clear hb HS2 p0 p1 p2 p3 p4 q0 q1 q2 q3 q4
        go_wp2_with fail
        refine (HIn.out _ _ _ _ _ HU2.out HU1.out).mono ?_
        rintro e u3 ⟨rfl, hb⟩
        have VA := Lib.hid (VA.out.on hb)
        have VB := Lib.hid (VB.out.on hb)
        have Z := Lib.hid (Z.out.on hb)
        have HU1 := Lib.hid (HU1.out.on hb)
        have HU2 := Lib.hid (HU2.out.on hb)
        have B := Lib.hid (B.out.trans (hb.mono B.out.size))
        clear hb HIn
        obtain ⟨p0, p1, p2, p3, p4⟩ := VA.out.box
        obtain ⟨q0, q1, q2, q3, q4⟩ := VB.out.box
        go_wp2_with fail
        refine (HA.out _ _ VA.out.at_ Z.out).mono ?_
        rintro e u4 ⟨rfl, hb⟩
        have VA := Lib.hid (VA.out.on hb)
        have VB := Lib.hid (VB.out.on hb)
        have Z := Lib.hid (Z.out.on hb)
        have HU1 := Lib.hid (HU1.out.on hb)
        have HU2 := Lib.hid (HU2.out.on hb)
        have B := Lib.hid (B.out.trans (hb.mono B.out.size))
        clear hb
        clear HA p0 p1 p2 p3 p4 q0 q1 q2 q3 q4
        obtain ⟨p0, p1, p2, p3, p4⟩ := VA.out.box
        obtain ⟨q0, q1, q2, q3, q4⟩ := VB.out.box
        go_wp2_with fail
        refine (HC.out _ _ VB.out.at_ Z.out).mono ?_
        rintro e u5 ⟨rfl, hb⟩
        have VA := Lib.hid (VA.out.on hb)
        have VB := Lib.hid (VB.out.on hb)
        have Z := Lib.hid (Z.out.on hb)
        have HU1 := Lib.hid (HU1.out.on hb)
        have HU2 := Lib.hid (HU2.out.on hb)
        have B := Lib.hid (B.out.trans (hb.mono B.out.size))
        clear hb
        clear HC p0 p1 p2 p3 p4 q0 q1 q2 q3 q4
        go_wp2
        go_ret
        exact ⟨rfl, B.out⟩
      · obtain ⟨E, hE⟩ := errV_bad ga
        have HA := Lib.hid (fun W v (h : DfaAt W W.heap.size v d0) (hZ : IntsAt W W.heap.size A2 z2) => acc_gives (cz := c2) h hZ hr (b := accOut d0 z2) rfl hE)
        have HC := Lib.hid (fun W v (h : DfaAt W W.heap.size v d1) (hZ : IntsAt W W.heap.size A2 z2) => acc_gives (cz := c2) h hZ hr (b := accOut d1 z2) rfl rfl)
        clear ga hE hal G h40 h41 hp1 hp2 hd g hN0 hN1 hL0 hL1 hs0 hs1 hM0 hM1 hr
        generalize accOut d0 z2 = ac at *
        generalize accOut d1 z2 = ad at *
        generalize errV (accErr d1 z2) = E2 at *
        go_enter Try.func12, Try.ntmps12
        obtain ⟨p0, p1, p2, p3, p4⟩ := VA.out.box
        obtain ⟨q0, q1, q2, q3, q4⟩ := VB.out.box
        go_wp2_with fail
        rw [← W0.out]
        clear W0
        refine (HS1.out _ _ _ VA.out.at_ VB.out.at_).mono ?_
        rintro e u1 ⟨Au1, cu1, rfl, hU, hb⟩
        have HU1 := Lib.hid hU.out
        clear hU
        have VA := Lib.hid (VA.out.on hb)
        have VB := Lib.hid (VB.out.on hb)
        have Z := Lib.hid (Z.out.on hb)
        have B := Lib.hid (B.out.trans (hb.mono B.out.size))
        clear hb HS1 p0 p1 p2 p3 p4 q0 q1 q2 q3 q4
        obtain ⟨p0, p1, p2, p3, p4⟩ := VA.out.box
        obtain ⟨q0, q1, q2, q3, q4⟩ := VB.out.box
        go_wp2_with fail
        refine (HS2.out _ _ _ VB.out.at_ VA.out.at_).mono ?_
        rintro e u2 ⟨Au2, cu2, rfl, hU, hb⟩
        have HU2 := Lib.hid hU.out
        clear hU
        have VA := Lib.hid (VA.out.on hb)
        have VB := Lib.hid (VB.out.on hb)
        have Z := Lib.hid (Z.out.on hb)
        have HU1 := Lib.hid (HU1.out.on hb)
        have B := Lib.hid (B.out.trans (hb.mono B.out.size))
        clear hb HS2 p0 p1 p2 p3 p4 q0 q1 q2 q3 q4
        go_wp2_with fail
        refine (HIn.out _ _ _ _ _ HU2.out HU1.out).mono ?_
        rintro e u3 ⟨rfl, hb⟩
        have VA := Lib.hid (VA.out.on hb)
        have VB := Lib.hid (VB.out.on hb)
        have Z := Lib.hid (Z.out.on hb)
        have HU1 := Lib.hid (HU1.out.on hb)
        have HU2 := Lib.hid (HU2.out.on hb)
        have B := Lib.hid (B.out.trans (hb.mono B.out.size))
        clear hb HIn
        obtain ⟨p0, p1, p2, p3, p4⟩ := VA.out.box
        obtain ⟨q0, q1, q2, q3, q4⟩ := VB.out.box
        go_wp2_with fail
        refine (HA.out _ _ VA.out.at_ Z.out).mono ?_
        rintro e u4 ⟨rfl, hb⟩
        have VA := Lib.hid (VA.out.on hb)
        have VB := Lib.hid (VB.out.on hb)
        have Z := Lib.hid (Z.out.on hb)
        have HU1 := Lib.hid (HU1.out.on hb)
        have HU2 := Lib.hid (HU2.out.on hb)
        have B := Lib.hid (B.out.trans (hb.mono B.out.size))
        clear hb
        clear HA p0 p1 p2 p3 p4 q0 q1 q2 q3 q4
        obtain ⟨p0, p1, p2, p3, p4⟩ := VA.out.box
        obtain ⟨q0, q1, q2, q3, q4⟩ := VB.out.box
        go_wp2_with fail
        refine (HC.out _ _ VB.out.at_ Z.out).mono ?_
        rintro e u5 ⟨rfl, hb⟩
        have VA := Lib.hid (VA.out.on hb)
        have VB := Lib.hid (VB.out.on hb)
        have Z := Lib.hid (Z.out.on hb)
        have HU1 := Lib.hid (HU1.out.on hb)
        have HU2 := Lib.hid (HU2.out.on hb)
        have B := Lib.hid (B.out.trans (hb.mono B.out.size))
        clear hb
        clear HC p0 p1 p2 p3 p4 q0 q1 q2 q3 q4
        go_wp2
        go_ret
        exact ⟨rfl, B.out⟩
    · obtain ⟨hu1, hu2, hu3, hu4⟩ := diffW_some G G.ga.s_lt G.gb.s_lt hd
      have HS1 := Lib.hid (fun W v z (h : DfaAt W W.heap.size v d0) (h2 : DfaAt W W.heap.size z d1) => same_gives2 (E := .nilIface) h h2 (sameOut_some g hd) rfl)
      have HS2 := Lib.hid (fun W v z (h : DfaAt W W.heap.size v d1) (h2 : DfaAt W W.heap.size z d0) => same_gives2 (E := .nilIface) h h2 ((sameOut_turn g).trans (sameOut_some g hd)) rfl)
      have HIn : Hid (∀ W A B c d, IntsAt W W.heap.size A u → IntsAt W W.heap.size B u → Calls Try.prog 31 #[.slice A u.length c, .slice B u.length d] W fun e w' => e = .returned (.bool true) ∧ Below W.heap.size W w') := fun W A B c d hA hB =>
        (ints_yes (n := 0) (v := u) (z := u) rfl hA hB (by omega)).mono fun e w' ⟨h1, m, h2⟩ => ⟨h1, by rw [h2]; exact below_drewN (Below.refl _ _) m⟩
      have hgn : ¬ (u.length : Int) ≥ (n0 : Int) + (n1 : Int) := by rw [← hN0, ← hN1]; omega
      have hn0 : (n0 : Int) ≤ 40 ∧ 0 ≤ (n0 : Int) := by rw [← hN0]; omega
      have hn1 : (n1 : Int) ≤ 40 ∧ 0 ≤ (n1 : Int) := by rw [← hN1]; omega
      have hw1 : IntKind.i64.wrap ((n0 : Int) + (n1 : Int)) = (n0 : Int) + (n1 : Int) := IntWalk.i64_in _ ⟨by omega, by omega⟩
      obtain ⟨hn01, hn02⟩ := hn0
      obtain ⟨hn11, hn12⟩ := hn1
      have hu80 : u.length ≤ 80 := by omega
      have fua : Fine d0.L u := ⟨⟨G.ga.l1, G.ga.l6⟩, hu80, hu1⟩
      have fub : Fine d1.L u := by rw [← G.eL]; exact fua
      have hne : accA d1 u = !accA d0 u := by
        have h9 : accA d0 u ≠ accA d1 u := hu3
        revert h9; cases accA d0 u <;> cases accA d1 u <;> simp
      have HA2 := Lib.hid (fun W v A c (h : DfaAt W W.heap.size v d0) (hZ : IntsAt W W.heap.size A u) => acc_gives (cz := c) (E := .nilIface) h hZ (by omega) (accOut_ok G.ga fua) (congrArg errV (accErr_ok G.ga fua)))
      have HC2 := Lib.hid (fun W v A c (h : DfaAt W W.heap.size v d1) (hZ : IntsAt W W.heap.size A u) => acc_gives (cz := c) (E := .nilIface) h hZ (by omega) ((accOut_ok G.gb fub).trans hne) (congrArg errV (accErr_ok G.gb fub)))
      by_cases ga : accErr d0 z2 = 0
      · obtain ⟨Ga, fa⟩ := accErr_good ga
        have fb : Fine d1.L z2 := by rw [← G.eL]; exact fa
        have hz80 := fa.2.1
        have HMin : Hid (accA d0 z2 ≠ accA d1 z2 → lss z2 u = false) := fun h => hu4 z2 (fine_word fa) h
        have HA := Lib.hid (fun W v (h : DfaAt W W.heap.size v d0) (hZ : IntsAt W W.heap.size A2 z2) => acc_gives (cz := c2) (E := .nilIface) h hZ hr (accOut_ok Ga fa) (congrArg errV ga))
        have HC := Lib.hid (fun W v (h : DfaAt W W.heap.size v d1) (hZ : IntsAt W W.heap.size A2 z2) => acc_gives (cz := c2) (E := .nilIface) h hZ hr (accOut_ok G.gb fb) (congrArg errV (accErr_ok G.gb fb)))
        have HLs := Lib.hid (fun W A B d (hA : IntsAt W W.heap.size A z2) (hB : IntsAt W W.heap.size B u) => refLess_any A c2 z2 B d u W hA hB (by omega) (by omega))
        clear ga Ga fa fb G h40 h41 hp1 hp2 hd g hN0 hN1 hL0 hL1 hs0 hs1 hM0 hM1 hr hne hu1 hu2 hu3 hu4 fua fub
        generalize accA d0 u = au at *
        generalize accA d0 z2 = ac at *
        generalize accA d1 z2 = ad at *
        by_cases hx : ac = ad
        · subst hx
          clear HMin HLs
          go_enter Try.func12, Try.ntmps12
          obtain ⟨p0, p1, p2, p3, p4⟩ := VA.out.box
          obtain ⟨q0, q1, q2, q3, q4⟩ := VB.out.box
          go_wp2_with fail
          rw [← W0.out]
          clear W0
          refine (HS1.out _ _ _ VA.out.at_ VB.out.at_).mono ?_
          rintro e u1 ⟨Au1, cu1, rfl, hU, hb⟩
          have HU1 := Lib.hid hU.out
          clear hU
          have VA := Lib.hid (VA.out.on hb)
          have VB := Lib.hid (VB.out.on hb)
          have Z := Lib.hid (Z.out.on hb)
          have B := Lib.hid (B.out.trans (hb.mono B.out.size))
          clear hb HS1 p0 p1 p2 p3 p4 q0 q1 q2 q3 q4
          obtain ⟨p0, p1, p2, p3, p4⟩ := VA.out.box
          obtain ⟨q0, q1, q2, q3, q4⟩ := VB.out.box
          go_wp2_with fail
          refine (HS2.out _ _ _ VB.out.at_ VA.out.at_).mono ?_
          rintro e u2 ⟨Au2, cu2, rfl, hU, hb⟩
          have HU2 := Lib.hid hU.out
          clear hU
          have VA := Lib.hid (VA.out.on hb)
          have VB := Lib.hid (VB.out.on hb)
          have Z := Lib.hid (Z.out.on hb)
          have HU1 := Lib.hid (HU1.out.on hb)
          have B := Lib.hid (B.out.trans (hb.mono B.out.size))
          clear hb HS2 p0 p1 p2 p3 p4 q0 q1 q2 q3 q4
          go_wp2_with fail
          refine (HIn.out _ _ _ _ _ HU2.out HU1.out).mono ?_
          rintro e u3 ⟨rfl, hb⟩
          have VA := Lib.hid (VA.out.on hb)
          have VB := Lib.hid (VB.out.on hb)
          have Z := Lib.hid (Z.out.on hb)
          have HU1 := Lib.hid (HU1.out.on hb)
          have HU2 := Lib.hid (HU2.out.on hb)
          have B := Lib.hid (B.out.trans (hb.mono B.out.size))
          clear hb HIn
          obtain ⟨p0, p1, p2, p3, p4⟩ := VA.out.box
          obtain ⟨q0, q1, q2, q3, q4⟩ := VB.out.box
          go_wp2_with fail
          refine (HA.out _ _ VA.out.at_ Z.out).mono ?_
          rintro e u4 ⟨rfl, hb⟩
          have VA := Lib.hid (VA.out.on hb)
          have VB := Lib.hid (VB.out.on hb)
          have Z := Lib.hid (Z.out.on hb)
          have HU1 := Lib.hid (HU1.out.on hb)
          have HU2 := Lib.hid (HU2.out.on hb)
          have B := Lib.hid (B.out.trans (hb.mono B.out.size))
          clear hb
          clear HA p0 p1 p2 p3 p4 q0 q1 q2 q3 q4
          obtain ⟨p0, p1, p2, p3, p4⟩ := VA.out.box
          obtain ⟨q0, q1, q2, q3, q4⟩ := VB.out.box
          go_wp2_with fail
          refine (HC.out _ _ VB.out.at_ Z.out).mono ?_
          rintro e u5 ⟨rfl, hb⟩
          have VA := Lib.hid (VA.out.on hb)
          have VB := Lib.hid (VB.out.on hb)
          have Z := Lib.hid (Z.out.on hb)
          have HU1 := Lib.hid (HU1.out.on hb)
          have HU2 := Lib.hid (HU2.out.on hb)
          have B := Lib.hid (B.out.trans (hb.mono B.out.size))
          clear hb
          clear HC p0 p1 p2 p3 p4 q0 q1 q2 q3 q4
          obtain ⟨p0, p1, p2, p3, p4⟩ := VA.out.box
          obtain ⟨q0, q1, q2, q3, q4⟩ := VB.out.box
          go_wp2_with fail
          refine (HA2.out _ _ _ _ VA.out.at_ HU1.out).mono ?_
          rintro e u6 ⟨rfl, hb⟩
          have VA := Lib.hid (VA.out.on hb)
          have VB := Lib.hid (VB.out.on hb)
          have Z := Lib.hid (Z.out.on hb)
          have HU1 := Lib.hid (HU1.out.on hb)
          have HU2 := Lib.hid (HU2.out.on hb)
          have B := Lib.hid (B.out.trans (hb.mono B.out.size))
          clear hb
          clear HA2 p0 p1 p2 p3 p4 q0 q1 q2 q3 q4
          obtain ⟨p0, p1, p2, p3, p4⟩ := VA.out.box
          obtain ⟨q0, q1, q2, q3, q4⟩ := VB.out.box
          go_wp2_with fail
          refine (HC2.out _ _ _ _ VB.out.at_ HU1.out).mono ?_
          rintro e u7 ⟨rfl, hb⟩
          have VA := Lib.hid (VA.out.on hb)
          have VB := Lib.hid (VB.out.on hb)
          have Z := Lib.hid (Z.out.on hb)
          have HU1 := Lib.hid (HU1.out.on hb)
          have HU2 := Lib.hid (HU2.out.on hb)
          have B := Lib.hid (B.out.trans (hb.mono B.out.size))
          clear hb
          clear HC2 p0 p1 p2 p3 p4 q0 q1 q2 q3 q4
          have hau : ((au == !au) = false) := by cases au <;> rfl
          go_wp2
          go_ret
          exact ⟨rfl, B.out⟩
        · have hmin := HMin.out hx
          obtain rfl : ad = !ac := by revert hx; cases ac <;> cases ad <;> simp
          clear HMin hx
          have HMin := Lib.hid hmin
          clear hmin
          go_enter Try.func12, Try.ntmps12
          obtain ⟨p0, p1, p2, p3, p4⟩ := VA.out.box
          obtain ⟨q0, q1, q2, q3, q4⟩ := VB.out.box
          go_wp2_with fail
          rw [← W0.out]
          clear W0
          refine (HS1.out _ _ _ VA.out.at_ VB.out.at_).mono ?_
          rintro e u1 ⟨Au1, cu1, rfl, hU, hb⟩
          have HU1 := Lib.hid hU.out
          clear hU
          have VA := Lib.hid (VA.out.on hb)
          have VB := Lib.hid (VB.out.on hb)
          have Z := Lib.hid (Z.out.on hb)
          have B := Lib.hid (B.out.trans (hb.mono B.out.size))
          clear hb HS1 p0 p1 p2 p3 p4 q0 q1 q2 q3 q4
          obtain ⟨p0, p1, p2, p3, p4⟩ := VA.out.box
          obtain ⟨q0, q1, q2, q3, q4⟩ := VB.out.box
          go_wp2_with fail
          refine (HS2.out _ _ _ VB.out.at_ VA.out.at_).mono ?_
          rintro e u2 ⟨Au2, cu2, rfl, hU, hb⟩
          have HU2 := Lib.hid hU.out
          clear hU
          have VA := Lib.hid (VA.out.on hb)
          have VB := Lib.hid (VB.out.on hb)
          have Z := Lib.hid (Z.out.on hb)
          have HU1 := Lib.hid (HU1.out.on hb)
          have B := Lib.hid (B.out.trans (hb.mono B.out.size))
          clear hb HS2 p0 p1 p2 p3 p4 q0 q1 q2 q3 q4
          go_wp2_with fail
          refine (HIn.out _ _ _ _ _ HU2.out HU1.out).mono ?_
          rintro e u3 ⟨rfl, hb⟩
          have VA := Lib.hid (VA.out.on hb)
          have VB := Lib.hid (VB.out.on hb)
          have Z := Lib.hid (Z.out.on hb)
          have HU1 := Lib.hid (HU1.out.on hb)
          have HU2 := Lib.hid (HU2.out.on hb)
          have B := Lib.hid (B.out.trans (hb.mono B.out.size))
          clear hb HIn
          obtain ⟨p0, p1, p2, p3, p4⟩ := VA.out.box
          obtain ⟨q0, q1, q2, q3, q4⟩ := VB.out.box
          go_wp2_with fail
          refine (HA.out _ _ VA.out.at_ Z.out).mono ?_
          rintro e u4 ⟨rfl, hb⟩
          have VA := Lib.hid (VA.out.on hb)
          have VB := Lib.hid (VB.out.on hb)
          have Z := Lib.hid (Z.out.on hb)
          have HU1 := Lib.hid (HU1.out.on hb)
          have HU2 := Lib.hid (HU2.out.on hb)
          have B := Lib.hid (B.out.trans (hb.mono B.out.size))
          clear hb
          clear HA p0 p1 p2 p3 p4 q0 q1 q2 q3 q4
          obtain ⟨p0, p1, p2, p3, p4⟩ := VA.out.box
          obtain ⟨q0, q1, q2, q3, q4⟩ := VB.out.box
          go_wp2_with fail
          refine (HC.out _ _ VB.out.at_ Z.out).mono ?_
          rintro e u5 ⟨rfl, hb⟩
          have VA := Lib.hid (VA.out.on hb)
          have VB := Lib.hid (VB.out.on hb)
          have Z := Lib.hid (Z.out.on hb)
          have HU1 := Lib.hid (HU1.out.on hb)
          have HU2 := Lib.hid (HU2.out.on hb)
          have B := Lib.hid (B.out.trans (hb.mono B.out.size))
          clear hb
          clear HC p0 p1 p2 p3 p4 q0 q1 q2 q3 q4
          go_wp2_with fail
          refine (HLs.out _ _ _ _ Z.out HU1.out).mono ?_
          rintro e u9 ⟨he, m9, rfl⟩
          obtain rfl : e = .returned (.bool false) := by rw [he.out, HMin.out]
          clear he
          have hb := below_drewN (Below.refl u5.heap.size u5) m9
          generalize u5.drewN m9 = u9 at *
          have VA := Lib.hid (VA.out.on hb)
          have VB := Lib.hid (VB.out.on hb)
          have Z := Lib.hid (Z.out.on hb)
          have HU1 := Lib.hid (HU1.out.on hb)
          have HU2 := Lib.hid (HU2.out.on hb)
          have B := Lib.hid (B.out.trans (hb.mono B.out.size))
          clear hb HLs HMin
          obtain ⟨p0, p1, p2, p3, p4⟩ := VA.out.box
          obtain ⟨q0, q1, q2, q3, q4⟩ := VB.out.box
          go_wp2_with fail
          refine (HA2.out _ _ _ _ VA.out.at_ HU1.out).mono ?_
          rintro e u6 ⟨rfl, hb⟩
          have VA := Lib.hid (VA.out.on hb)
          have VB := Lib.hid (VB.out.on hb)
          have Z := Lib.hid (Z.out.on hb)
          have HU1 := Lib.hid (HU1.out.on hb)
          have HU2 := Lib.hid (HU2.out.on hb)
          have B := Lib.hid (B.out.trans (hb.mono B.out.size))
          clear hb
          clear HA2 p0 p1 p2 p3 p4 q0 q1 q2 q3 q4
          obtain ⟨p0, p1, p2, p3, p4⟩ := VA.out.box
          obtain ⟨q0, q1, q2, q3, q4⟩ := VB.out.box
          go_wp2_with fail
          refine (HC2.out _ _ _ _ VB.out.at_ HU1.out).mono ?_
          rintro e u7 ⟨rfl, hb⟩
          have VA := Lib.hid (VA.out.on hb)
          have VB := Lib.hid (VB.out.on hb)
          have Z := Lib.hid (Z.out.on hb)
          have HU1 := Lib.hid (HU1.out.on hb)
          have HU2 := Lib.hid (HU2.out.on hb)
          have B := Lib.hid (B.out.trans (hb.mono B.out.size))
          clear hb
          clear HC2 p0 p1 p2 p3 p4 q0 q1 q2 q3 q4
          have hau : ((au == !au) = false) := by cases au <;> rfl
          go_wp2
          go_ret
          exact ⟨rfl, B.out⟩
      · obtain ⟨E, hE⟩ := errV_bad ga
        have HA := Lib.hid (fun W v (h : DfaAt W W.heap.size v d0) (hZ : IntsAt W W.heap.size A2 z2) => acc_gives (cz := c2) h hZ hr (b := accOut d0 z2) rfl hE)
        have HC := Lib.hid (fun W v (h : DfaAt W W.heap.size v d1) (hZ : IntsAt W W.heap.size A2 z2) => acc_gives (cz := c2) h hZ hr (b := accOut d1 z2) rfl rfl)
        clear ga hE G h40 h41 hp1 hp2 hd g hN0 hN1 hL0 hL1 hs0 hs1 hM0 hM1 hr hne hu1 hu2 hu3 hu4 fua fub
        generalize accA d0 u = au at *
        generalize accOut d0 z2 = ac at *
        generalize accOut d1 z2 = ad at *
        generalize errV (accErr d1 z2) = E2 at *
        go_enter Try.func12, Try.ntmps12
        obtain ⟨p0, p1, p2, p3, p4⟩ := VA.out.box
        obtain ⟨q0, q1, q2, q3, q4⟩ := VB.out.box
        go_wp2_with fail
        rw [← W0.out]
        clear W0
        refine (HS1.out _ _ _ VA.out.at_ VB.out.at_).mono ?_
        rintro e u1 ⟨Au1, cu1, rfl, hU, hb⟩
        have HU1 := Lib.hid hU.out
        clear hU
        have VA := Lib.hid (VA.out.on hb)
        have VB := Lib.hid (VB.out.on hb)
        have Z := Lib.hid (Z.out.on hb)
        have B := Lib.hid (B.out.trans (hb.mono B.out.size))
        clear hb HS1 p0 p1 p2 p3 p4 q0 q1 q2 q3 q4
        obtain ⟨p0, p1, p2, p3, p4⟩ := VA.out.box
        obtain ⟨q0, q1, q2, q3, q4⟩ := VB.out.box
        go_wp2_with fail
        refine (HS2.out _ _ _ VB.out.at_ VA.out.at_).mono ?_
        rintro e u2 ⟨Au2, cu2, rfl, hU, hb⟩
        have HU2 := Lib.hid hU.out
        clear hU
        have VA := Lib.hid (VA.out.on hb)
        have VB := Lib.hid (VB.out.on hb)
        have Z := Lib.hid (Z.out.on hb)
        have HU1 := Lib.hid (HU1.out.on hb)
        have B := Lib.hid (B.out.trans (hb.mono B.out.size))
        clear hb HS2 p0 p1 p2 p3 p4 q0 q1 q2 q3 q4
        go_wp2_with fail
        refine (HIn.out _ _ _ _ _ HU2.out HU1.out).mono ?_
        rintro e u3 ⟨rfl, hb⟩
        have VA := Lib.hid (VA.out.on hb)
        have VB := Lib.hid (VB.out.on hb)
        have Z := Lib.hid (Z.out.on hb)
        have HU1 := Lib.hid (HU1.out.on hb)
        have HU2 := Lib.hid (HU2.out.on hb)
        have B := Lib.hid (B.out.trans (hb.mono B.out.size))
        clear hb HIn
        obtain ⟨p0, p1, p2, p3, p4⟩ := VA.out.box
        obtain ⟨q0, q1, q2, q3, q4⟩ := VB.out.box
        go_wp2_with fail
        refine (HA.out _ _ VA.out.at_ Z.out).mono ?_
        rintro e u4 ⟨rfl, hb⟩
        have VA := Lib.hid (VA.out.on hb)
        have VB := Lib.hid (VB.out.on hb)
        have Z := Lib.hid (Z.out.on hb)
        have HU1 := Lib.hid (HU1.out.on hb)
        have HU2 := Lib.hid (HU2.out.on hb)
        have B := Lib.hid (B.out.trans (hb.mono B.out.size))
        clear hb
        clear HA p0 p1 p2 p3 p4 q0 q1 q2 q3 q4
        obtain ⟨p0, p1, p2, p3, p4⟩ := VA.out.box
        obtain ⟨q0, q1, q2, q3, q4⟩ := VB.out.box
        go_wp2_with fail
        refine (HC.out _ _ VB.out.at_ Z.out).mono ?_
        rintro e u5 ⟨rfl, hb⟩
        have VA := Lib.hid (VA.out.on hb)
        have VB := Lib.hid (VB.out.on hb)
        have Z := Lib.hid (Z.out.on hb)
        have HU1 := Lib.hid (HU1.out.on hb)
        have HU2 := Lib.hid (HU2.out.on hb)
        have B := Lib.hid (B.out.trans (hb.mono B.out.size))
        clear hb
        clear HC p0 p1 p2 p3 p4 q0 q1 q2 q3 q4
        obtain ⟨p0, p1, p2, p3, p4⟩ := VA.out.box
        obtain ⟨q0, q1, q2, q3, q4⟩ := VB.out.box
        go_wp2_with fail
        refine (HA2.out _ _ _ _ VA.out.at_ HU1.out).mono ?_
        rintro e u6 ⟨rfl, hb⟩
        have VA := Lib.hid (VA.out.on hb)
        have VB := Lib.hid (VB.out.on hb)
        have Z := Lib.hid (Z.out.on hb)
        have HU1 := Lib.hid (HU1.out.on hb)
        have HU2 := Lib.hid (HU2.out.on hb)
        have B := Lib.hid (B.out.trans (hb.mono B.out.size))
        clear hb
        clear HA2 p0 p1 p2 p3 p4 q0 q1 q2 q3 q4
        obtain ⟨p0, p1, p2, p3, p4⟩ := VA.out.box
        obtain ⟨q0, q1, q2, q3, q4⟩ := VB.out.box
        go_wp2_with fail
        refine (HC2.out _ _ _ _ VB.out.at_ HU1.out).mono ?_
        rintro e u7 ⟨rfl, hb⟩
        have VA := Lib.hid (VA.out.on hb)
        have VB := Lib.hid (VB.out.on hb)
        have Z := Lib.hid (Z.out.on hb)
        have HU1 := Lib.hid (HU1.out.on hb)
        have HU2 := Lib.hid (HU2.out.on hb)
        have B := Lib.hid (B.out.trans (hb.mono B.out.size))
        clear hb
        clear HC2 p0 p1 p2 p3 p4 q0 q1 q2 q3 q4
        have hau : ((au == !au) = false) := by cases au <;> rfl
        go_wp2
        go_ret
        exact ⟨rfl, B.out⟩
  · have g' : chkD2 d1 d0 ≠ 0 := fun q => g (chkD2_turn.2 q)
    obtain ⟨E1, hE1⟩ := errV_bad g
    obtain ⟨E2, hE2⟩ := errV_bad g'
    have HS1 := Lib.hid (fun W v z (h : DfaAt W W.heap.size v d0) (h2 : DfaAt W W.heap.size z d1) => same_gives2 h h2 (sameOut_bad g) hE1)
    have HS2 := Lib.hid (fun W v z (h : DfaAt W W.heap.size v d1) (h2 : DfaAt W W.heap.size z d0) => same_gives2 h h2 (sameOut_bad g') hE2)
    clear g g' hE1 hE2 hN0 hN1 hL0 hL1 hs0 hs1 hM0 hM1 hr
    go_enter Try.func12, Try.ntmps12
    obtain ⟨p0, p1, p2, p3, p4⟩ := VA.out.box
    obtain ⟨q0, q1, q2, q3, q4⟩ := VB.out.box
    go_wp2_with fail
    rw [← W0.out]
    clear W0
    refine (HS1.out _ _ _ VA.out.at_ VB.out.at_).mono ?_
    rintro e u1 ⟨Au1, cu1, rfl, hU, hb⟩
    have HU1 := Lib.hid hU.out
    clear hU
    have VA := Lib.hid (VA.out.on hb)
    have VB := Lib.hid (VB.out.on hb)
    have Z := Lib.hid (Z.out.on hb)
    have B := Lib.hid (B.out.trans (hb.mono B.out.size))
    clear hb HS1 p0 p1 p2 p3 p4 q0 q1 q2 q3 q4
    obtain ⟨p0, p1, p2, p3, p4⟩ := VA.out.box
    obtain ⟨q0, q1, q2, q3, q4⟩ := VB.out.box
    go_wp2_with fail
    refine (HS2.out _ _ _ VB.out.at_ VA.out.at_).mono ?_
    rintro e u2 ⟨Au2, cu2, rfl, hU, hb⟩
    have HU2 := Lib.hid hU.out
    clear hU
    have VA := Lib.hid (VA.out.on hb)
    have VB := Lib.hid (VB.out.on hb)
    have Z := Lib.hid (Z.out.on hb)
    have HU1 := Lib.hid (HU1.out.on hb)
    have B := Lib.hid (B.out.trans (hb.mono B.out.size))
    clear hb HS2 p0 p1 p2 p3 p4 q0 q1 q2 q3 q4
    go_wp2
    go_ret
    exact ⟨rfl, B.out⟩


set_option maxRecDepth 100000 in
theorem lifted (os : Os) (started : os.Started) (H : Type) (enc : TypeId × Value → H) :
    ReturnsInHanded {} Try.checked os 12 .any (Rows.smallWordSpec.pre6 enc Try.prog Try.f12 Rows.smallWordRow.domain false) (Rows.smallWordSpec.post enc Try.prog Try.f12 false true false false) := by
  refine returnsInHanded_of_change_sized (C := Try.checked) own started (by kernel_rfl) Try.func12
    (ChangeSpec.witness6 (enc := enc) (C := Try.checked) false ⟨#[], #[.agg #[.int .i64 0, .int .i64 0, .slice none 0 0, .slice none 0 0], .agg #[.int .i64 0, .int .i64 0, .slice none 0 0, .slice none 0 0], .slice none 0 0], []⟩ 8 (by kernel_rfl) (by kernel_rfl) (by kernel_rfl) (by kernel_rfl)) ?_
  intro W base args ds gs before hval0 hW hcnd hsz0 _
  have hval : ∀ (j : Nat) t v, Try.f12.params[j]? = some t → args[j]? = some v → Value.okWide Try.prog W .any base t v := hval0
  have hsz : (DataW.weightsEach Try.prog (Try.f12.params.toList ++ Rows.smallWordSpec.plain.varTypes Try.prog) (ds ++ gs)).all (· ≤ reachBytes) = true := hsz0
  have hW' := hW
  obtain ⟨p, q, hA0, hV0, rfl, hfz, hnd⟩ := hW
  have hV : DataW.TrodVars enc Try.prog W (fun _ => true) [] gs q := hV0
  have hA : DataW.TrodAll enc Try.prog W 0 (fun _ => true) true Try.f12.params.toList args.toList ds p := hA0
  rw [Try.params12] at hA hval hsz
  obtain ⟨v0, vs0, d0, ds0, p0, q0, hargs, rfl, rfl, h0, rr0⟩ := trodAll_cons hA
  obtain ⟨v1, vs1, d1, ds1, p1, q1, rfl, rfl, rfl, h1, rr1⟩ := trodAll_cons rr0
  obtain ⟨v2, vs2, d2, ds2, p2, q2, rfl, rfl, rfl, h2, rr2⟩ := trodAll_cons rr1
  obtain ⟨rfl, rfl, rfl⟩ := trodAll_nil rr2
  obtain rfl : args = #[v0, v1, v2] := by cases args; simp_all
  obtain ⟨rfl, rfl⟩ := trodVars_none hV
  have k0 := h0
  have lt0 : ∀ x ∈ p0, x.block < W.heap.size := by obtain ⟨m, hm⟩ := k0; exact DataW.trod_lt m _ _ _ hm
  have k1 := h1
  have lt1 : ∀ x ∈ p1, x.block < W.heap.size := by obtain ⟨m, hm⟩ := k1; exact DataW.trod_lt m _ _ _ hm
  have k2 := h2
  have lt2 : ∀ x ∈ p2, x.block < W.heap.size := by obtain ⟨m, hm⟩ := k2; exact DataW.trod_lt m _ _ _ hm
  obtain ⟨D0, x0⟩ : ∃ d : Df.Aut, Df.DfaAt W W.heap.size v0 d := Df.dfa_open (hval 0 25 v0 rfl rfl) h0
  obtain ⟨D1, x1⟩ : ∃ d : Df.Aut, Df.DfaAt W W.heap.size v1 d := Df.dfa_open (hval 1 25 v1 rfl rfl) h1
  obtain ⟨A2, len2, c2, rfl⟩ := okWide_slice Try.underlying26 (hval 2 26 v2 rfl rfl)
  obtain ⟨z2, rfl, x2, r2, m2⟩ : ∃ zs : List Int, len2 = zs.length ∧ IntsAt W W.heap.size A2 zs ∧ zs.length ≤ 17592186043904 ∧ zs.length ≤ c2 := by
    obtain ⟨fuel, hf⟩ := h2
    rcases open_ints Try.underlying26 Try.underlying3 (by kernel_rfl) hf with ⟨hcs, _⟩ | ⟨x, l, c, zs, hcs, _, hl, hm, hz, hx, hcell, hwz⟩
    · simp [Value.cells] at hcs
      obtain ⟨rfl, rfl, rfl⟩ := hcs
      exact ⟨[], rfl, IntsAt.nil _ _ _, by simp, by simp⟩
    · simp [Value.cells] at hcs
      obtain ⟨rfl, rfl, rfl⟩ := hcs
      have hd := congrArg Prod.fst hx
      simp only at hd
      have := sized_slice hsz (j := 2) (t := 26) (e := 3) rfl (by rw [hd]; rfl) Try.underlying26
      rw [(show Try.prog.bytesOf 3 = 8 by kernel_rfl)] at this
      simp only [reachBytes, lits, List.length_map, List.length_take, List.length_drop] at this
      have hz' : zs.length = c2 := by simpa using hz
      exact ⟨zs.take len2, by rw [List.length_take]; omega, intsAt_of_open hcell hwz len2, by rw [List.length_take]; omega, by rw [List.length_take]; omega⟩
  clear hA0 hval0
  refine (walk v0 D0 v1 D1 A2 c2 z2 W x0 x1 x2 r2 m2).mono fun e W' ⟨he, bel⟩ => ?_
  subst he
  exact ⟨_, rfl, _, _, _, [], _, [], hW', trodAll_mk1 (shut_bool Try.underlying4 _), (trodAll_cons_mk (Below.trod laidOut (by kernel_rfl) (of_decide_eq_true (by kernel_rfl)) k0 bel lt0) (trodAll_cons_mk (Below.trod laidOut (by kernel_rfl) (of_decide_eq_true (by kernel_rfl)) k1 bel lt1) (trodAll_cons_mk (Below.trod laidOut (by kernel_rfl) (of_decide_eq_true (by kernel_rfl)) k2 bel lt2) trodAll_mk0))), rfl, bel.frame _, fun h => by cases h⟩

theorem over : Rows.smallWordRow.holds Try.pinned (OpenSpec.ofChange Rows.smallWordSpec) :=
  OpenClaim.holds_of_wide 12 Try.f12 rfl rfl rfl rfl rfl rfl rfl ⟨rfl, rfl, rfl, rfl, rfl⟩ rfl rfl rfl rfl rfl (by kernel_rfl) Try.func12 (by kernel_rfl)
    (of_decide_eq_true (by kernel_rfl)) (by unfold Func.isWrapper; rw [if_neg (of_decide_eq_false (by kernel_rfl))]; exact ⟨rfl, rfl⟩)
    (fun os started H enc _ => lifted os started H enc)
theorem proved : Rows.SmallWordSaid := over
#print axioms proved
end Go.Proofs.Ytinehjfanabegaa.smallWord
