/-
  The statement SuperWordSaid of this seat, proved: for every input the law returns true and its arguments read behind the call as before. Conditions: none but the row's own (each argument within the reach).
-/
import Derived.Test.YtbciefeipiphiaaRows
import Derived.Test.YtbciefeipiphiaaWords
import Derived.WalkKit
import Derived.ProofKit
import Derived.OpenShut
import Derived.ShutString
import Derived.ChangeOld
import Derived.Below
import Derived.SizedLaws
import Derived.Lib.Hide
import Derived.Test.YtbciefeipiphiaaSuperL
import Derived.Test.YtbciefeipiphiaaSuperK
import Derived.Test.YtbciefeipiphiaaRefWord
namespace Go.Proofs.Ytbciefeipiphiaa.superWord
open Go.ChangeShapes Go.WideShapes Go.ChangeAt Go.RowKit Go.IntWalk Go.Proofs.Ytbciefeipiphiaa.Wd
open Go.ChangeMaps (open_string shut_string)
set_option linter.unusedVariables false

theorem own : ownKnob Try.prog.godebug = none := by kernel_rfl
theorem laidOut : laidOutB Try.prog = true := by kernel_rfl
open Go.Proofs.Ytbciefeipiphiaa.Wo Go.Proofs.Ytbciefeipiphiaa.Df Go.Proofs.Ytbciefeipiphiaa.Rc Go.Proofs.Ytbciefeipiphiaa.Sm Go.Proofs.Ytbciefeipiphiaa.Mp Go.Proofs.Ytbciefeipiphiaa.Sa Go.Proofs.Ytbciefeipiphiaa.Su
theorem ints_front {w : World} {B : Nat} {A : Option Addr} {z : List Int} (h : IntsAt w B A z) (k : Nat) : IntsAt w B A (z.take k) :=
  ⟨fun j u hj => h.1 j u (by
    rw [List.map_take] at hj
    rw [List.getElem?_take] at hj
    split at hj
    · exact hj
    · simp at hj), fun x hx => h.2 x (List.mem_of_mem_take hx)⟩
theorem lead_len {P D : Aut} (g : Good2 P D) {free : Int} {w : List Int} (h : keptW P D free = some w) : w.length ≤ P.next.length * D.next.length := by
  rcases lk_cases P D free P.s.toNat D.s.toNat with e | ⟨k, e⟩
  · rw [keptW_no g e] at h; cases h
  · have h1 := lk_lt g g.ga.s_lt g.gb.s_lt e
    rw [keptW_lk g e] at h
    obtain rfl := Option.some.inj h
    rw [(pickB_is g g.ga.s_lt g.gb.s_lt ((lk_eq g g.ga.s_lt g.gb.s_lt).1 e).yes).1]
    exact h1

set_option maxRecDepth 100000 in
set_option maxHeartbeats 4000000 in
theorem walk (v0 : Value) (d0 : Df.Aut) (v1 : Value) (d1 : Df.Aut) (a2 : Int) (w : World) (h0 : Df.DfaAt w w.heap.size v0 d0) (h1 : Df.DfaAt w w.heap.size v1 d1) (l2 : -9223372036854775808 ≤ a2) (h2 : a2 ≤ 9223372036854775807) :
    Calls Try.prog 6 #[v0, v1, .int .i64 a2] w fun e w' => e = .returned (.bool true) ∧ Below w.heap.size w w' := by
  obtain ⟨L0, s0, A0, n0, c0, F0, m0, k0, rfl⟩ := h0.form
  have hN0 := h0.eqs.2.2.1
  obtain ⟨L1, s1, A1, n1, c1, F1, m1, k1, rfl⟩ := h1.form
  have hN1 := h1.eqs.2.2.1
  obtain ⟨u0, hu0, hb0, VA0, VB0⟩ := vars_two w h0 h1
  have VA := Lib.hid VA0
  have VB := Lib.hid VB0
  have B := Lib.hid hb0
  have W0 := Lib.hid hu0
  have HN0 := Lib.hid hN0
  have HN1 := Lib.hid hN1
  clear VA0 hb0 hu0 h0 hN0 VB0 h1 hN1
  have HK := Lib.hid superFact_any
  rcases hpl : plantE d0 d1 a2 with _ | k
  · obtain ⟨hG, hf0, hf1⟩ := plantE_ok hpl
    rcases hk : keptW d0 d1 a2 with _ | w9
    · have HKp := Lib.hid (fun W v z (h : DfaAt W W.heap.size v d0) (h2 : DfaAt W W.heap.size z d1) => kept_gives (E := .nilIface) h h2 (keptO_none hpl hk) rfl)
      clear hpl hG hf0 hf1 hk HN0 HN1
      go_enter Try.func6, Try.ntmps6
      go_wp2_with fail
      rw [← W0.out]
      clear W0
      refine (HK.out _).mono ?_
      rintro e u1 ⟨rfl, hb⟩
      have VA := Lib.hid (VA.out.on hb)
      have VB := Lib.hid (VB.out.on hb)
      have B := Lib.hid (B.out.trans (hb.mono B.out.size))
      clear hb  HK
      obtain ⟨p0, p1, p2, p3, p4⟩ := VA.out.box
      obtain ⟨q0, q1, q2, q3, q4⟩ := VB.out.box
      go_wp2_with fail
      refine (HKp.out _ _ _ VA.out.at_ VB.out.at_).mono ?_
      rintro e u2 ⟨AHI, cHI, rfl, hI, hb⟩
      have HI := Lib.hid hI.out.1
      have hlHI := hI.out.2
      have VA := Lib.hid (VA.out.on hb)
      have VB := Lib.hid (VB.out.on hb)
      have B := Lib.hid (B.out.trans (hb.mono B.out.size))
      clear hb hI p0 p1 p2 p3 p4 q0 q1 q2 q3 q4 HKp
      clear HI
      go_wp2
      go_ret
      exact ⟨rfl, B.out⟩
    · have hlen := lead_len hG hk
      have h0 := keptO_some hpl hk
      obtain ⟨hw, ⟨v9, a9, rfl, hfr, hP, hD1, hD2⟩, _⟩ := keptW_some.1 hk
      obtain ⟨m, hm⟩ : ∃ m, v9.length = m := ⟨_, rfl⟩
      have hwl : (v9 ++ [a9]).length = m + 1 := by simp [hm]
      have HKp : Hid (∀ W v z, DfaAt W W.heap.size v d0 → DfaAt W W.heap.size z d1 → Calls Try.prog 12 #[v, z, .int .i64 a2] W fun e w' => ∃ A c, e = .returned (.tuple #[.bool false, .slice A (m + 1) c, .nilIface]) ∧ Hid (IntsAt w' w'.heap.size A (v9 ++ [a9]) ∧ m + 1 ≤ c) ∧ Below W.heap.size W w') := fun W v z h h2 => by
        have h3 := kept_gives (E := .nilIface) h h2 h0 rfl
        rw [hwl] at h3
        exact h3
      have en : (((m : Int) + 1) == 0) = false := beq_eq_false_iff_ne.2 (by omega)
      have hn0 : n0 ≤ 40 := by have := HN0.out; have := hG.ga.n40; omega
      have hn1 : n1 ≤ 40 := by have := HN1.out; have := hG.gb.n40; omega
      have hmul : n0 * n1 ≤ 40 * 40 := Nat.mul_le_mul hn0 hn1
      rw [hwl, HN0.out, HN1.out] at hlen
      by_cases h80 : 80 < m + 1
      · obtain ⟨Q, hQ⟩ : ∃ Q : Int, Q = (n0 : Int) * (n1 : Int) := ⟨_, rfl⟩
        have hQ2 : Q = ((n0 * n1 : Nat) : Int) := by rw [hQ, Int.natCast_mul]
        have e9 : wrap64 ((n0 : Int) * (n1 : Int)) = Q := by
          rw [← hQ]
          unfold wrap64
          omega
        have e8 : (m : Int) + 1 ≤ Q := by omega
        have e7 : (80 : Int) < (m : Int) + 1 := by omega
        clear hpl hG hk hlen h0 hw hfr hP hD1 hD2 hwl hn0 hn1 hmul hQ hQ2 HN0 HN1 hf0 hf1
        go_enter Try.func6, Try.ntmps6
        go_wp2_with fail
        rw [← W0.out]
        clear W0
        refine (HK.out _).mono ?_
        rintro e u1 ⟨rfl, hb⟩
        have VA := Lib.hid (VA.out.on hb)
        have VB := Lib.hid (VB.out.on hb)
        have B := Lib.hid (B.out.trans (hb.mono B.out.size))
        clear hb  HK
        obtain ⟨p0, p1, p2, p3, p4⟩ := VA.out.box
        obtain ⟨q0, q1, q2, q3, q4⟩ := VB.out.box
        go_wp2_with fail
        refine (HKp.out _ _ _ VA.out.at_ VB.out.at_).mono ?_
        rintro e u2 ⟨AI, cI, rfl, hI, hb⟩
        have HI := Lib.hid hI.out.1
        have hcI := hI.out.2
        have hcJ : m ≤ cI := by omega
        have hcK : (m : Int) ≤ (cI : Int) := by omega
        have VA := Lib.hid (VA.out.on hb)
        have VB := Lib.hid (VB.out.on hb)
        have B := Lib.hid (B.out.trans (hb.mono B.out.size))
        clear hb hI HKp p0 p1 p2 p3 p4 q0 q1 q2 q3 q4
        have pc := VA.out.box.c2
        have qc := VB.out.box.c2
        clear HI
        go_wp2
        go_ret
        exact ⟨rfl, B.out⟩
      · have e7 : (m : Int) + 1 ≤ 80 := by omega
        have e6 : IntKind.i64.wrap ((m : Int) + 1 - 1) = (m : Int) := by rw [show (m : Int) + 1 - 1 = m by omega]; exact IntWalk.i64_in _ ⟨by omega, by omega⟩
        have e5 : (0 : Int) ≤ (m : Int) := by omega
        have e4 : IntKind.i64.wrap (m : Int) = (m : Int) := IntWalk.i64_in _ ⟨by omega, by omega⟩
        have e3 : m ≤ m + 1 := by omega
        have e2 : (m : Int) ≤ (m : Int) + 1 := by omega
        have hlast : (v9 ++ [a9])[m]? = some a9 := by rw [← hm]; simp
        have hva := word_snoc.1 hw
        have hw1 : Word d1.L (v9 ++ [a9]) := by rw [← hG.eL]; exact hw
        have hv1 : Word d1.L v9 := by rw [← hG.eL]; exact hva.1
        have hL1 := hG.ga.l1
        have hL6 := hG.ga.l6
        have gp := judge_good (f := preF) hG.ga
        have gq := judge_good (f := preF) hG.gb
        have hz : (v9 ++ [a9]).length ≤ 80 := by omega
        have fx : Wo.Fine (preA d0).L (v9 ++ [a9]) := ⟨⟨hL1, hL6⟩, hz, hw⟩
        have fz : Wo.Fine (preA d1).L (v9 ++ [a9]) := ⟨⟨hG.gb.l1, hG.gb.l6⟩, hz, hw1⟩
        have fy : Wo.Fine (preA d1).L v9 := ⟨⟨hG.gb.l1, hG.gb.l6⟩, by omega, hv1⟩
        have hX : accA (preA d0) (v9 ++ [a9]) = true := (pre_acc hG.ga hw).2 hP
        have hY : accA (preA d1) v9 = true := (pre_acc hG.gb hv1).2 (by rw [hG.eL] at hD1; exact hD1)
        have hZ : accA (preA d1) (v9 ++ [a9]) = false := by
          rcases e : accA (preA d1) (v9 ++ [a9]) with _ | _
          · rfl
          · exact absurd ((pre_acc hG.gb hw1).1 e) (by rw [hG.eL] at hD2; exact hD2)
        have HP := Lib.hid (fun W v (h : DfaAt W W.heap.size v d0) => pre_gives (E := .nilIface) h (mkO_ok hG.ga) rfl)
        have HQ := Lib.hid (fun W v (h : DfaAt W W.heap.size v d1) => pre_gives (E := .nilIface) h (mkO_ok hG.gb) rfl)
        have HX : Hid (∀ W v A c, DfaAt W W.heap.size v (preA d0) → IntsAt W W.heap.size A (v9 ++ [a9]) → Calls Try.prog 11 #[v, .slice A (m + 1) c] W fun e w' => e = .returned (.tuple #[.bool true, .nilIface]) ∧ Below W.heap.size W w') := fun W v A c h hZ => by
          have h3 := acc_gives (cz := c) (E := .nilIface) h hZ (by omega) ((accOut_ok gp fx).trans hX) (congrArg errV (accErr_ok gp fx))
          rwa [hwl] at h3
        have HZ : Hid (∀ W v A c, DfaAt W W.heap.size v (preA d1) → IntsAt W W.heap.size A (v9 ++ [a9]) → Calls Try.prog 11 #[v, .slice A (m + 1) c] W fun e w' => e = .returned (.tuple #[.bool false, .nilIface]) ∧ Below W.heap.size W w') := fun W v A c h hZ' => by
          have h3 := acc_gives (cz := c) (E := .nilIface) h hZ' (by omega) ((accOut_ok gq fz).trans hZ) (congrArg errV (accErr_ok gq fz))
          rwa [hwl] at h3
        have HY : Hid (∀ W v A c, DfaAt W W.heap.size v (preA d1) → IntsAt W W.heap.size A (v9 ++ [a9]) → Calls Try.prog 11 #[v, .slice A m c] W fun e w' => e = .returned (.tuple #[.bool true, .nilIface]) ∧ Below W.heap.size W w') := fun W v A c h hZ' => by
          have h4 := ints_front hZ' m
          rw [show (v9 ++ [a9]).take m = v9 by rw [← hm]; simp] at h4
          have h3 := acc_gives (cz := c) (E := .nilIface) h h4 (by omega) ((accOut_ok gq fy).trans hY) (congrArg errV (accErr_ok gq fy))
          rwa [hm] at h3
        have HBt : Hid (∀ W, Calls Try.prog 14 #[.int .i64 a2, .int .i64 a9] W fun e w' => Hid (e = .returned (.bool true)) ∧ W = w') := fun W => by
          have h3 := bit_any a2 a9 W hf0 (by omega) hva.2.1 (by omega)
          rwa [hfr] at h3
        clear hpl hG hk hlen h0 hw hfr hP hD1 hD2 hwl hn0 hn1 hmul HN0 HN1 hf0 hf1 h80 hva hw1 hv1 hL1 hL6 gp gq hz fx fz fy hX hY hZ hm
        generalize preA d0 = PP at *
        generalize preA d1 = PQ at *
        generalize v9 ++ [a9] = wz at *
        go_enter Try.func6, Try.ntmps6
        go_wp2_with fail
        rw [← W0.out]
        clear W0
        refine (HK.out _).mono ?_
        rintro e u1 ⟨rfl, hb⟩
        have VA := Lib.hid (VA.out.on hb)
        have VB := Lib.hid (VB.out.on hb)
        have B := Lib.hid (B.out.trans (hb.mono B.out.size))
        clear hb  HK
        obtain ⟨p0, p1, p2, p3, p4⟩ := VA.out.box
        obtain ⟨q0, q1, q2, q3, q4⟩ := VB.out.box
        go_wp2_with fail
        refine (HKp.out _ _ _ VA.out.at_ VB.out.at_).mono ?_
        rintro e u2 ⟨AI, cI, rfl, hI, hb⟩
        have HI := Lib.hid hI.out.1
        have hcI := hI.out.2
        have hcJ : m ≤ cI := by omega
        have hcK : (m : Int) ≤ (cI : Int) := by omega
        have VA := Lib.hid (VA.out.on hb)
        have VB := Lib.hid (VB.out.on hb)
        have B := Lib.hid (B.out.trans (hb.mono B.out.size))
        clear hb hI HKp p0 p1 p2 p3 p4 q0 q1 q2 q3 q4
        obtain ⟨ad, eA, _⟩ := HI.out.get hlast
        subst eA
        obtain ⟨p0, p1, p2, p3, p4⟩ := VA.out.box
        go_wp2_with fail
        refine (HP.out _ _ VA.out.at_).mono ?_
        rintro e u3 ⟨L13, s13, A13, n13, c13, F13, m13, k13, rfl, hd, hb⟩
        have HI := Lib.hid (HI.out.on hb)
        have VA := Lib.hid (VA.out.on hb)
        have VB := Lib.hid (VB.out.on hb)
        have B := Lib.hid (B.out.trans (hb.mono B.out.size))
        clear hb p0 p1 p2 p3 p4 HP
        obtain ⟨x3, hx3, hbn, Vn⟩ := var_new u3 hd.out
        have VP := Lib.hid Vn
        have HI := Lib.hid (HI.out.on hbn)
        have VA := Lib.hid (VA.out.on hbn)
        have VB := Lib.hid (VB.out.on hbn)
        have B := Lib.hid (B.out.trans (hbn.mono B.out.size))
        clear hbn Vn hd
        obtain ⟨p0, p1, p2, p3, p4⟩ := VB.out.box
        rw [hx3] at p1 p2 p3 p4
        have HX := Lib.hid hx3
        clear hx3
        go_wp2_with fail
        rw [← HX.out]
        clear HX
        refine (HQ.out _ _ VB.out.at_).mono ?_
        rintro e u4 ⟨L14, s14, A14, n14, c14, F14, m14, k14, rfl, hd, hb⟩
        have HI := Lib.hid (HI.out.on hb)
        have VA := Lib.hid (VA.out.on hb)
        have VB := Lib.hid (VB.out.on hb)
        have VP := Lib.hid (VP.out.on hb)
        have B := Lib.hid (B.out.trans (hb.mono B.out.size))
        clear hb p0 p1 p2 p3 p4 HQ
        obtain ⟨x4, hx4, hbn, Vn⟩ := var_new u4 hd.out
        have VQ := Lib.hid Vn
        have HI := Lib.hid (HI.out.on hbn)
        have VA := Lib.hid (VA.out.on hbn)
        have VB := Lib.hid (VB.out.on hbn)
        have VP := Lib.hid (VP.out.on hbn)
        have B := Lib.hid (B.out.trans (hbn.mono B.out.size))
        clear hbn Vn hd
        obtain ⟨ad2, eA, _, hcw, _⟩ := HI.out.get hlast
        obtain rfl := Option.some.inj eA
        rw [hx4] at hcw
        obtain ⟨p0, p1, p2, p3, p4⟩ := VP.out.box
        rw [hx4] at p1 p2 p3 p4
        have HX := Lib.hid hx4
        clear hx4
        go_wp2_with fail
        rw [← HX.out]
        clear HX
        refine (HX.out _ _ _ _ VP.out.at_ HI.out).mono ?_
        rintro e u5 ⟨rfl, hb⟩
        have HI := Lib.hid (HI.out.on hb)
        have VA := Lib.hid (VA.out.on hb)
        have VB := Lib.hid (VB.out.on hb)
        have VP := Lib.hid (VP.out.on hb)
        have VQ := Lib.hid (VQ.out.on hb)
        have B := Lib.hid (B.out.trans (hb.mono B.out.size))
        clear hb p0 p1 p2 p3 p4 HX hcw
        have HCl : Hid (∀ W, Below u5.heap.size u5 W → W.cell? ⟨u4.heap.size, 0, none⟩ = some (.int .i64 L14) ∧ W.cell? ⟨u4.heap.size, 1, none⟩ = some (.int .i64 s14) ∧ W.cell? ⟨u4.heap.size, 2, none⟩ = some (.slice A14 n14 c14) ∧ W.cell? ⟨u4.heap.size, 3, none⟩ = some (.slice F14 m14 k14)) := fun W hW => ⟨(VQ.out.box.on hW).c0, (VQ.out.box.on hW).c1, (VQ.out.box.on hW).c2, (VQ.out.box.on hW).c3⟩
        have HD : Hid (Below u5.heap.size u5 u5.drew) := (Below.refl _ _).drew
        go_wp2_with fail
        go_region_held3 (fun W => W.cell? ⟨u4.heap.size, 0, none⟩ = some (.int .i64 L14) ∧ W.cell? ⟨u4.heap.size, 1, none⟩ = some (.int .i64 s14) ∧ W.cell? ⟨u4.heap.size, 2, none⟩ = some (.slice A14 n14 c14) ∧ W.cell? ⟨u4.heap.size, 3, none⟩ = some (.slice F14 m14 k14))
          (first | exact HCl.out _ HB6.out | exact HCl.out _ HD.out)
          (first | (go_at_call 11; refine (HY.out _ _ _ _ (VQ.out.at_.on HD.out) (HI.out.on HD.out)).mono ?_; rintro e w6 ⟨rfl, hb⟩; have HB6 := Lib.hid (HD.out.trans (hb.mono HD.out.size)); clear hb))
        all_goals
          have VQ := Lib.hid (VQ.out.on HB6.out)
          have HI := Lib.hid (HI.out.on HB6.out)
          have B := Lib.hid (B.out.trans (HB6.out.mono B.out.size))
          clear HCl HD HY HB6 VA VB VP
          obtain ⟨p0, p1, p2, p3, p4⟩ := VQ.out.box
          go_wp2_with fail
          refine (HZ.out _ _ _ _ VQ.out.at_ HI.out).mono ?_
          rintro e u6 ⟨rfl, hb⟩
          have HI := Lib.hid (HI.out.on hb)
          have VQ := Lib.hid (VQ.out.on hb)
          have B := Lib.hid (B.out.trans (hb.mono B.out.size))
          clear hb p0 p1 p2 p3 p4 HZ
          clear VQ HI
          go_wp2_with fail
          refine (HBt.out _).mono ?_
          rintro e u9 ⟨he, rfl⟩
          obtain rfl : e = .returned (.bool true) := he.out
          clear he HBt
          go_wp2
          go_ret
          exact ⟨rfl, B.out⟩
  · obtain ⟨E, hE⟩ := errV_bad (k := k + 1) (by omega)
    have HKp := Lib.hid (fun W v z (h : DfaAt W W.heap.size v d0) (h2 : DfaAt W W.heap.size z d1) => kept_gives (E := errI E) h h2 (by rw [keptO_bad (by rw [hpl]; omega), hpl]) hE)
    clear hpl hE HN0 HN1
    go_enter Try.func6, Try.ntmps6
    go_wp2_with fail
    rw [← W0.out]
    clear W0
    refine (HK.out _).mono ?_
    rintro e u1 ⟨rfl, hb⟩
    have VA := Lib.hid (VA.out.on hb)
    have VB := Lib.hid (VB.out.on hb)
    have B := Lib.hid (B.out.trans (hb.mono B.out.size))
    clear hb  HK
    obtain ⟨p0, p1, p2, p3, p4⟩ := VA.out.box
    obtain ⟨q0, q1, q2, q3, q4⟩ := VB.out.box
    go_wp2_with fail
    refine (HKp.out _ _ _ VA.out.at_ VB.out.at_).mono ?_
    rintro e u2 ⟨AHI, cHI, rfl, hI, hb⟩
    have HI := Lib.hid hI.out.1
    have hlHI := hI.out.2
    have VA := Lib.hid (VA.out.on hb)
    have VB := Lib.hid (VB.out.on hb)
    have B := Lib.hid (B.out.trans (hb.mono B.out.size))
    clear hb hI p0 p1 p2 p3 p4 q0 q1 q2 q3 q4 HKp
    clear HI
    go_wp2
    go_ret
    exact ⟨rfl, B.out⟩


set_option maxRecDepth 100000 in
theorem lifted (os : Os) (started : os.Started) (H : Type) (enc : TypeId × Value → H) :
    ReturnsInHanded {} Try.checked os 6 .any (Rows.superWordSpec.pre6 enc Try.prog Try.f6 Rows.superWordRow.domain false) (Rows.superWordSpec.post enc Try.prog Try.f6 false true false false) := by
  refine returnsInHanded_of_change_sized (C := Try.checked) own started (by kernel_rfl) Try.func6
    (ChangeSpec.witness6 (enc := enc) (C := Try.checked) false ⟨#[], #[.agg #[.int .i64 0, .int .i64 0, .slice none 0 0, .slice none 0 0], .agg #[.int .i64 0, .int .i64 0, .slice none 0 0, .slice none 0 0], .int .i64 0], []⟩ 8 (by kernel_rfl) (by kernel_rfl) (by kernel_rfl) (by kernel_rfl)) ?_
  intro W base args ds gs before hval0 hW hcnd hsz0 _
  have hval : ∀ (j : Nat) t v, Try.f6.params[j]? = some t → args[j]? = some v → Value.okWide Try.prog W .any base t v := hval0
  have hsz : (DataW.weightsEach Try.prog (Try.f6.params.toList ++ Rows.superWordSpec.plain.varTypes Try.prog) (ds ++ gs)).all (· ≤ reachBytes) = true := hsz0
  have hW' := hW
  obtain ⟨p, q, hA0, hV0, rfl, hfz, hnd⟩ := hW
  have hV : DataW.TrodVars enc Try.prog W (fun _ => true) [] gs q := hV0
  have hA : DataW.TrodAll enc Try.prog W 0 (fun _ => true) true Try.f6.params.toList args.toList ds p := hA0
  rw [Try.params6] at hA hval hsz
  obtain ⟨v0, vs0, d0, ds0, p0, q0, hargs, rfl, rfl, h0, rr0⟩ := trodAll_cons hA
  obtain ⟨v1, vs1, d1, ds1, p1, q1, rfl, rfl, rfl, h1, rr1⟩ := trodAll_cons rr0
  obtain ⟨v2, vs2, d2, ds2, p2, q2, rfl, rfl, rfl, h2, rr2⟩ := trodAll_cons rr1
  obtain ⟨rfl, rfl, rfl⟩ := trodAll_nil rr2
  obtain rfl : args = #[v0, v1, v2] := by cases args; simp_all
  obtain ⟨rfl, rfl⟩ := trodVars_none hV
  have k0 := h0
  have lt0 : ∀ x ∈ p0, x.block < W.heap.size := by obtain ⟨m, hm⟩ := k0; exact DataW.trod_lt m _ _ _ hm
  have k1 := h1
  have lt1 : ∀ x ∈ p1, x.block < W.heap.size := by obtain ⟨m, hm⟩ := k1; exact DataW.trod_lt m _ _ _ hm
  have k2 := h2
  have lt2 : ∀ x ∈ p2, x.block < W.heap.size := by obtain ⟨m, hm⟩ := k2; exact DataW.trod_lt m _ _ _ hm
  obtain ⟨D0, x0⟩ : ∃ d : Df.Aut, Df.DfaAt W W.heap.size v0 d := Df.dfa_open (hval 0 25 v0 rfl rfl) h0
  obtain ⟨D1, x1⟩ : ∃ d : Df.Aut, Df.DfaAt W W.heap.size v1 d := Df.dfa_open (hval 1 25 v1 rfl rfl) h1
  obtain ⟨a2, rfl, rfl, rfl, w2⟩ := open_int Try.underlying3 (hval 2 3 v2 rfl rfl) h2
  obtain ⟨l2, hh2⟩ := bounds_i64 w2
  clear hA0 hval0
  refine (walk v0 D0 v1 D1 a2 W x0 x1 l2 hh2).mono fun e W' ⟨he, bel⟩ => ?_
  subst he
  exact ⟨_, rfl, _, _, _, [], _, [], hW', trodAll_mk1 (shut_bool Try.underlying4 _), (trodAll_cons_mk (Below.trod laidOut (by kernel_rfl) (of_decide_eq_true (by kernel_rfl)) k0 bel lt0) (trodAll_cons_mk (Below.trod laidOut (by kernel_rfl) (of_decide_eq_true (by kernel_rfl)) k1 bel lt1) (trodAll_cons_mk (Below.trod laidOut (by kernel_rfl) (of_decide_eq_true (by kernel_rfl)) k2 bel lt2) trodAll_mk0))), rfl, bel.frame _, fun h => by cases h⟩

theorem over : Rows.superWordRow.holds Try.pinned (OpenSpec.ofChange Rows.superWordSpec) :=
  OpenClaim.holds_of_wide 6 Try.f6 rfl rfl rfl rfl rfl rfl rfl ⟨rfl, rfl, rfl, rfl, rfl⟩ rfl rfl rfl rfl rfl (by kernel_rfl) Try.func6 (by kernel_rfl)
    (of_decide_eq_true (by kernel_rfl)) (by unfold Func.isWrapper; rw [if_neg (of_decide_eq_false (by kernel_rfl))]; exact ⟨rfl, rfl⟩)
    (fun os started H enc _ => lifted os started H enc)
theorem proved : Rows.SuperWordSaid := over
#print axioms proved
end Go.Proofs.Ytbciefeipiphiaa.superWord
