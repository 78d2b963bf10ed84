/-
  The statement GateTwoSaid of this seat, proved: for every input the law returns true and its arguments read behind the call as before. Conditions: none but the row's own (each argument within the reach).
-/
import Derived.Test.YtciopfiddfmckaaRows
import Derived.Test.YtciopfiddfmckaaWords
import Derived.WalkKit
import Derived.ProofKit
import Derived.OpenShut
import Derived.ShutString
import Derived.ChangeOld
import Derived.Below
import Derived.SizedLaws
import Derived.Lib.Hide
import Derived.Test.YtciopfiddfmckaaGateL
import Derived.Test.YtciopfiddfmckaaDfaV
namespace Go.Proofs.Ytciopfiddfmckaa.gateTwo
open Go.ChangeShapes Go.WideShapes Go.ChangeAt Go.RowKit Go.IntWalk Go.Proofs.Ytciopfiddfmckaa.Wd
open Go.ChangeMaps (open_string shut_string)
set_option linter.unusedVariables false

theorem own : ownKnob Try.prog.godebug = none := by kernel_rfl
theorem laidOut : laidOutB Try.prog = true := by kernel_rfl
open Go.Proofs.Ytciopfiddfmckaa.Wo Go.Proofs.Ytciopfiddfmckaa.Df Go.Proofs.Ytciopfiddfmckaa.Rc Go.Proofs.Ytciopfiddfmckaa.Sm Go.Proofs.Ytciopfiddfmckaa.Sa Go.Proofs.Ytciopfiddfmckaa.Ga

set_option maxRecDepth 100000 in
set_option maxHeartbeats 4000000 in
theorem walk (v0 : Value) (d0 : Df.Aut) (v1 : Value) (d1 : Df.Aut) (A2 : Option Addr) (c2 : Nat) (z2 : List Int) (w : World) (h0 : Df.DfaAt w w.heap.size v0 d0) (h1 : Df.DfaAt w w.heap.size v1 d1) (v2 : IntsAt w w.heap.size A2 z2) (r2 : z2.length ≤ 17592186043904) (m2 : z2.length ≤ c2) :
    Calls Try.prog 7 #[v0, v1, .slice A2 z2.length c2] w fun e w' => e = .returned (.bool true) ∧ Below w.heap.size w w' := by
  have hr : z2.length ≤ 17592186044416 := by omega
  obtain ⟨L0, s0, A0, n0, c0, F0, m0, k0, rfl⟩ := h0.form
  have hN0 := h0.eqs.2.2.1
  obtain ⟨L1, s1, A1, n1, c1, F1, m1, k1, rfl⟩ := h1.form
  have hN1 := h1.eqs.2.2.1
  obtain ⟨b0, hu0, hb0, VA0, VB0⟩ := vars_two w h0 h1
  have VA := Lib.hid VA0
  have VB := Lib.hid VB0
  have B := Lib.hid hb0
  have W0 := Lib.hid hu0
  have HN0 := Lib.hid hN0
  have HN1 := Lib.hid hN1
  have Z := Lib.hid (v2.on hb0)
  clear VA0 hb0 hu0 h0 hN0 VB0 h1 hN1 v2
  clear m2 r2 HN0 HN1
  have HF := Lib.hid few_any
  have HFG := Lib.hid few_gated
  have HFO := Lib.hid (fun W g (h : GateR W g fewA fewG) => few_out h)
  have HFS := Lib.hid (fun W A c (h : IntsAt W W.heap.size A [1, 0, 1]) => few_same (c := c) h)
  rcases prod_two d0 d1 with ⟨k, hp⟩ | ⟨gg, l, hf⟩
  · have HBo := Lib.hid (fun W v z (h : DfaAt W W.heap.size v d0) (h2 : DfaAt W W.heap.size z d1) => both_gives (E := errI ((k + 1 : Nat) : Int)) h h2 (hp _) rfl)
    clear hp
    generalize ((k + 1 : Nat) : Int) = E at *
    go_enter Try.func7, Try.ntmps7
    go_wp2_with fail
    rw [← W0.out]
    clear W0
    refine (HF.out _).mono ?_
    rintro e b1 he
    obtain ⟨xf, rfl, hof⟩ := he.out
    have hb := hof.below
    have HX0 := Lib.hid hof.at_
    have Z := Lib.hid (Z.out.on hb)
    have VA := Lib.hid (VA.out.on hb)
    have VB := Lib.hid (VB.out.on hb)
    have B := Lib.hid (B.out.trans (hb.mono B.out.size))
    clear he hof hb HF
    go_wp2_with fail
    refine (HFG.out _ _ HX0.out).mono ?_
    rintro e b2 ⟨gf, Af, cf, rfl, HGF, hb⟩
    have Z := Lib.hid (Z.out.on hb)
    have VA := Lib.hid (VA.out.on hb)
    have VB := Lib.hid (VB.out.on hb)
    have B := Lib.hid (B.out.trans (hb.mono B.out.size))
    clear hb  HX0 HFG
    go_wp2_with fail
    refine (HFO.out _ _ HGF.out).mono ?_
    rintro e b3 ⟨Ao, co, rfl, HI, _, hb⟩
    have Z := Lib.hid (Z.out.on hb)
    have VA := Lib.hid (VA.out.on hb)
    have VB := Lib.hid (VB.out.on hb)
    have B := Lib.hid (B.out.trans (hb.mono B.out.size))
    clear hb  HFO HGF
    go_wp2_with fail
    refine (HFS.out _ _ _ HI.out).mono ?_
    rintro e b4 ⟨rfl, hb⟩
    have Z := Lib.hid (Z.out.on hb)
    have VA := Lib.hid (VA.out.on hb)
    have VB := Lib.hid (VB.out.on hb)
    have B := Lib.hid (B.out.trans (hb.mono B.out.size))
    clear hb  HFS HI
    obtain ⟨p0, p1, p2, p3, p4⟩ := VA.out.box
    obtain ⟨q0, q1, q2, q3, q4⟩ := VB.out.box
    go_wp2_with fail
    refine (HBo.out _ _ _ VA.out.at_ VB.out.at_).mono ?_
    rintro e b5 ⟨L15, s15, A15, n15, c15, F15, m15, k15, rfl, hd, hb⟩
    have Z := Lib.hid (Z.out.on hb)
    have VA := Lib.hid (VA.out.on hb)
    have VB := Lib.hid (VB.out.on hb)
    have B := Lib.hid (B.out.trans (hb.mono B.out.size))
    clear hb p0 p1 p2 p3 p4 q0 q1 q2 q3 q4 HBo
    obtain ⟨x5, hx5, hbn, Vn⟩ := var_new b5 hd.out
    have VO := Lib.hid Vn
    have Z := Lib.hid (Z.out.on hbn)
    have VA := Lib.hid (VA.out.on hbn)
    have VB := Lib.hid (VB.out.on hbn)
    have B := Lib.hid (B.out.trans (hbn.mono B.out.size))
    clear hbn Vn hd
    rw [hx5] at B
    clear hx5
    go_wp2
    go_ret
    exact ⟨rfl, B.out⟩
  · have HBo := Lib.hid (fun W v z (h : DfaAt W W.heap.size v d0) (h2 : DfaAt W W.heap.size z d1) => both_gives (E := .nilIface) h h2 (prod_ok gg hf _) rfl)
    have gO := prod_good gg hf (fun p => finA d0 p.1 && finA d1 p.2)
    have hacc := fun (u : List Int) (hu : Word d0.L u) => prod_acc gg hf (fun p q => p && q) hu
    have eL : (autOf d0.L (S2 d0 d1) l (fun p => finA d0 p.1 && finA d1 p.2)).L = d0.L := rfl
    generalize autOf d0.L (S2 d0 d1) l (fun p => finA d0 p.1 && finA d1 p.2) = O at *
    by_cases ga : gchk d0 = 0
    · by_cases gb : gchk d1 = 0
      · have Ga := gchk_iff.1 ga
        have Gb := gchk_iff.1 gb
        have eab : d1.L = d0.L := gg.eL.symm
        have Gc : GGood O := both_gate Ga Gb gO eL.symm (eab.trans eL.symm) (fun u hu => hacc u (by rw [← eL]; exact hu))
        have HGa := Lib.hid (fun W v (h : DfaAt W W.heap.size v d0) (hZ : IntsAt W W.heap.size A2 z2) => gated_o (c := c2) h hZ hr Ga)
        have HGb := Lib.hid (fun W v (h : DfaAt W W.heap.size v d1) (hZ : IntsAt W W.heap.size A2 z2) => gated_o (c := c2) h hZ hr Gb)
        have HGc := Lib.hid (fun W v (h : DfaAt W W.heap.size v O) (hZ : IntsAt W W.heap.size A2 z2) => gated_o (c := c2) h hZ hr Gc)
        rw [lets_same eab] at HGb
        rw [lets_same eL] at HGc
        have hIw := lets_word d0 (z2.take 80)
        have hI8 : (lets d0 (z2.take 80)).length ≤ 80 := by have := lets_len d0 (z2.take 80); rw [List.length_take] at this; omega
        generalize lets d0 (z2.take 80) = I at *
        have hIc : Word O.L I := by rw [eL]; exact hIw
        have hIb : Word d1.L I := by rw [eab]; exact hIw
        have hpc := pass_two Ga Gb Gc eL.symm (eab.trans eL.symm) (fun u hu => hacc u (by rw [← eL]; exact hu)) hIc
        have la := pass_le d0 d0.s.toNat I
        have lb := pass_le d1 d1.s.toNat I
        have hcb := pass_cut Gb hIb (pass d0 d0.s.toNat I) la
        have hca := pass_cut Ga hIw (pass d1 d1.s.toNat I) lb
        have HPb : Hid (∀ W v A c, DfaAt W W.heap.size v d1 → IntsAt W W.heap.size A (I.take (pass d0 d0.s.toNat I)) → Calls Try.prog 16 #[v, .slice A (I.take (pass d0 d0.s.toNat I)).length c] W fun e w' => ∃ g B n k, e = .returned (.tuple #[.pointer (some ⟨g, 0, none⟩), .slice B n k, .bool true]) ∧ Hid (GateO w' g (I.take (pass O O.s.toNat I))) ∧ Below W.heap.size W w') := fun W v A c h hZ => by
          have h1 := gated_word (c := c) h hZ (by rw [List.length_take]; omega) (word_take hIb _) Gb
          rwa [hcb, List.take_take, ← hpc, show min (pass O O.s.toNat I) (pass d0 d0.s.toNat I) = pass O O.s.toNat I by omega] at h1
        have HPa : Hid (∀ W v A c, DfaAt W W.heap.size v d0 → IntsAt W W.heap.size A (I.take (pass d1 d1.s.toNat I)) → Calls Try.prog 16 #[v, .slice A (I.take (pass d1 d1.s.toNat I)).length c] W fun e w' => ∃ g B n k, e = .returned (.tuple #[.pointer (some ⟨g, 0, none⟩), .slice B n k, .bool true]) ∧ Hid (GateO w' g (I.take (pass O O.s.toNat I))) ∧ Below W.heap.size W w') := fun W v A c h hZ => by
          have h1 := gated_word (c := c) h hZ (by rw [List.length_take]; omega) (word_take hIw _) Ga
          rwa [hca, List.take_take, show min (min (pass d1 d1.s.toNat I) (pass d0 d0.s.toNat I)) (pass d1 d1.s.toNat I) = pass O O.s.toNat I by omega] at h1
        have hT8 : (I.take (pass O O.s.toNat I)).length ≤ 140737488355328 := by rw [List.length_take]; omega
        generalize I.take (pass O O.s.toNat I) = T at *
        generalize I.take (pass d0 d0.s.toNat I) = X at *
        generalize I.take (pass d1 d1.s.toNat I) = Y at *
        have HOx := Lib.hid (fun W g (h : GateO W g X) => oout_gives h)
        have HOy := Lib.hid (fun W g (h : GateO W g Y) => oout_gives h)
        have HOz := Lib.hid (fun W g (h : GateO W g T) => oout_gives h)
        have HSm := Lib.hid (fun W A B ca cb (h1 : IntsAt W W.heap.size A T) (h2 : IntsAt W W.heap.size B T) => same_ints (ca := ca) (cb := cb) h1 h2 hT8)
        clear ga gb Ga Gb Gc eab hIw hI8 hIc hIb hpc la lb hcb hca gO hacc eL gg hf hr hT8
        generalize T.length = nT at *
        generalize X.length = nX at *
        generalize Y.length = nY at *
        go_enter Try.func7, Try.ntmps7
        go_wp2_with fail
        rw [← W0.out]
        clear W0
        refine (HF.out _).mono ?_
        rintro e b1 he
        obtain ⟨xf, rfl, hof⟩ := he.out
        have hb := hof.below
        have HX0 := Lib.hid hof.at_
        have Z := Lib.hid (Z.out.on hb)
        have VA := Lib.hid (VA.out.on hb)
        have VB := Lib.hid (VB.out.on hb)
        have B := Lib.hid (B.out.trans (hb.mono B.out.size))
        clear he hof hb HF
        go_wp2_with fail
        refine (HFG.out _ _ HX0.out).mono ?_
        rintro e b2 ⟨gf, Af, cf, rfl, HGF, hb⟩
        have Z := Lib.hid (Z.out.on hb)
        have VA := Lib.hid (VA.out.on hb)
        have VB := Lib.hid (VB.out.on hb)
        have B := Lib.hid (B.out.trans (hb.mono B.out.size))
        clear hb  HX0 HFG
        go_wp2_with fail
        refine (HFO.out _ _ HGF.out).mono ?_
        rintro e b3 ⟨Ao, co, rfl, HI, _, hb⟩
        have Z := Lib.hid (Z.out.on hb)
        have VA := Lib.hid (VA.out.on hb)
        have VB := Lib.hid (VB.out.on hb)
        have B := Lib.hid (B.out.trans (hb.mono B.out.size))
        clear hb  HFO HGF
        go_wp2_with fail
        refine (HFS.out _ _ _ HI.out).mono ?_
        rintro e b4 ⟨rfl, hb⟩
        have Z := Lib.hid (Z.out.on hb)
        have VA := Lib.hid (VA.out.on hb)
        have VB := Lib.hid (VB.out.on hb)
        have B := Lib.hid (B.out.trans (hb.mono B.out.size))
        clear hb  HFS HI
        obtain ⟨p0, p1, p2, p3, p4⟩ := VA.out.box
        obtain ⟨q0, q1, q2, q3, q4⟩ := VB.out.box
        go_wp2_with fail
        refine (HBo.out _ _ _ VA.out.at_ VB.out.at_).mono ?_
        rintro e b5 ⟨L15, s15, A15, n15, c15, F15, m15, k15, rfl, hd, hb⟩
        have Z := Lib.hid (Z.out.on hb)
        have VA := Lib.hid (VA.out.on hb)
        have VB := Lib.hid (VB.out.on hb)
        have B := Lib.hid (B.out.trans (hb.mono B.out.size))
        clear hb p0 p1 p2 p3 p4 q0 q1 q2 q3 q4 HBo
        obtain ⟨x5, hx5, hbn, Vn⟩ := var_new b5 hd.out
        have VO := Lib.hid Vn
        have Z := Lib.hid (Z.out.on hbn)
        have VA := Lib.hid (VA.out.on hbn)
        have VB := Lib.hid (VB.out.on hbn)
        have B := Lib.hid (B.out.trans (hbn.mono B.out.size))
        clear hbn Vn hd
        obtain ⟨p0, p1, p2, p3, p4⟩ := VA.out.box
        rw [hx5] at p1 p2 p3 p4
        have HX := Lib.hid hx5
        clear hx5
        go_wp2_with fail
        rw [← HX.out]
        clear HX
        refine (HGa.out _ _ VA.out.at_ Z.out).mono ?_
        rintro e b6 ⟨gX, B45, n45, k45, rfl, HX, hb⟩
        have Z := Lib.hid (Z.out.on hb)
        have VA := Lib.hid (VA.out.on hb)
        have VB := Lib.hid (VB.out.on hb)
        have VO := Lib.hid (VO.out.on hb)
        have B := Lib.hid (B.out.trans (hb.mono B.out.size))
        clear hb p0 p1 p2 p3 p4 HGa
        obtain ⟨p0, p1, p2, p3, p4⟩ := VB.out.box
        go_wp2_with fail
        refine (HGb.out _ _ VB.out.at_ Z.out).mono ?_
        rintro e b7 ⟨gY, B46, n46, k46, rfl, HY, hb⟩
        have Z := Lib.hid (Z.out.on hb)
        have HX := Lib.hid (HX.out.on hb)
        have VA := Lib.hid (VA.out.on hb)
        have VB := Lib.hid (VB.out.on hb)
        have VO := Lib.hid (VO.out.on hb)
        have B := Lib.hid (B.out.trans (hb.mono B.out.size))
        clear hb p0 p1 p2 p3 p4 HGb
        obtain ⟨p0, p1, p2, p3, p4⟩ := VO.out.box
        go_wp2_with fail
        refine (HGc.out _ _ VO.out.at_ Z.out).mono ?_
        rintro e b8 ⟨gT, B47, n47, k47, rfl, HT, hb⟩
        have Z := Lib.hid (Z.out.on hb)
        have HX := Lib.hid (HX.out.on hb)
        have HY := Lib.hid (HY.out.on hb)
        have VA := Lib.hid (VA.out.on hb)
        have VB := Lib.hid (VB.out.on hb)
        have VO := Lib.hid (VO.out.on hb)
        have B := Lib.hid (B.out.trans (hb.mono B.out.size))
        clear hb p0 p1 p2 p3 p4 HGc
        clear Z
        have HK : Hid (∀ W, Below b8.heap.size b8 W → W.cell? ⟨w.heap.size + 1, 0, none⟩ = some (.int .i64 L1) ∧ W.cell? ⟨w.heap.size + 1, 1, none⟩ = some (.int .i64 s1) ∧ W.cell? ⟨w.heap.size + 1, 2, none⟩ = some (.slice A1 n1 c1) ∧ W.cell? ⟨w.heap.size + 1, 3, none⟩ = some (.slice F1 m1 k1)) := fun W hW => ⟨(VB.out.box.on hW).c0, (VB.out.box.on hW).c1, (VB.out.box.on hW).c2, (VB.out.box.on hW).c3⟩
        have HD : Hid (Below b8.heap.size b8 b8.drew) := (Below.refl _ _).drew
        go_wp2_with fail
        go_region_held3 (fun W => W.cell? ⟨w.heap.size + 1, 0, none⟩ = some (.int .i64 L1) ∧ W.cell? ⟨w.heap.size + 1, 1, none⟩ = some (.int .i64 s1) ∧ W.cell? ⟨w.heap.size + 1, 2, none⟩ = some (.slice A1 n1 c1) ∧ W.cell? ⟨w.heap.size + 1, 3, none⟩ = some (.slice F1 m1 k1))
          (first | exact HK.out _ HB7.out | exact HK.out _ HB6.out | exact HK.out _ HD.out)
          (first | (go_at_call 16; refine (HPb.out _ _ _ _ (VB.out.on HB6.out).at_ HI6.out).mono ?_; rintro e b9 ⟨g29, A29, n29, c29, rfl, HP, hb⟩; have HB7 := Lib.hid (HB6.out.trans (hb.mono HB6.out.size)); clear hb) | (go_at_call 18; refine (HOx.out _ _ (HX.out.on HD.out)).mono ?_; rintro e w6 ⟨A6, c6, rfl, HI6, hb⟩; have HB6 := Lib.hid (HD.out.trans (hb.mono HD.out.size)); clear hb))
        have HX := Lib.hid (HX.out.on HB7.out)
        have HY := Lib.hid (HY.out.on HB7.out)
        have HT := Lib.hid (HT.out.on HB7.out)
        have VA := Lib.hid (VA.out.on HB7.out)
        have VB := Lib.hid (VB.out.on HB7.out)
        have VO := Lib.hid (VO.out.on HB7.out)
        have B := Lib.hid (B.out.trans (HB7.out.mono B.out.size))
        clear HB6 HB7 HI6 HK HD
        have HK : Hid (∀ W, Below b9.heap.size b9 W → W.cell? ⟨w.heap.size, 0, none⟩ = some (.int .i64 L0) ∧ W.cell? ⟨w.heap.size, 1, none⟩ = some (.int .i64 s0) ∧ W.cell? ⟨w.heap.size, 2, none⟩ = some (.slice A0 n0 c0) ∧ W.cell? ⟨w.heap.size, 3, none⟩ = some (.slice F0 m0 k0)) := fun W hW => ⟨(VA.out.box.on hW).c0, (VA.out.box.on hW).c1, (VA.out.box.on hW).c2, (VA.out.box.on hW).c3⟩
        have HD : Hid (Below b9.heap.size b9 b9.drew) := (Below.refl _ _).drew
        go_wp2_with fail
        go_region_held3 (fun W => W.cell? ⟨w.heap.size, 0, none⟩ = some (.int .i64 L0) ∧ W.cell? ⟨w.heap.size, 1, none⟩ = some (.int .i64 s0) ∧ W.cell? ⟨w.heap.size, 2, none⟩ = some (.slice A0 n0 c0) ∧ W.cell? ⟨w.heap.size, 3, none⟩ = some (.slice F0 m0 k0))
          (first | exact HK.out _ HB7.out | exact HK.out _ HB6.out | exact HK.out _ HD.out)
          (first | (go_at_call 16; refine (HPa.out _ _ _ _ (VA.out.on HB6.out).at_ HI6.out).mono ?_; rintro e b10 ⟨g30, A30, n30, c30, rfl, HQ, hb⟩; have HB7 := Lib.hid (HB6.out.trans (hb.mono HB6.out.size)); clear hb) | (go_at_call 18; refine (HOy.out _ _ (HY.out.on HD.out)).mono ?_; rintro e w6 ⟨A6, c6, rfl, HI6, hb⟩; have HB6 := Lib.hid (HD.out.trans (hb.mono HD.out.size)); clear hb))
        have HX := Lib.hid (HX.out.on HB7.out)
        have HY := Lib.hid (HY.out.on HB7.out)
        have HT := Lib.hid (HT.out.on HB7.out)
        have HP := Lib.hid (HP.out.on HB7.out)
        have VA := Lib.hid (VA.out.on HB7.out)
        have VB := Lib.hid (VB.out.on HB7.out)
        have VO := Lib.hid (VO.out.on HB7.out)
        have B := Lib.hid (B.out.trans (HB7.out.mono B.out.size))
        clear HB6 HB7 HI6 HK HD
        clear HX HY
        go_wp2_with fail
        refine (HOz.out _ _ HP.out).mono ?_
        rintro e b11 ⟨AHOp, cHOp, rfl, HOp, hb⟩
        have HT := Lib.hid (HT.out.on hb)
        have HP := Lib.hid (HP.out.on hb)
        have HQ := Lib.hid (HQ.out.on hb)
        have VA := Lib.hid (VA.out.on hb)
        have VB := Lib.hid (VB.out.on hb)
        have VO := Lib.hid (VO.out.on hb)
        have B := Lib.hid (B.out.trans (hb.mono B.out.size))
        clear hb  
        go_wp2_with fail
        refine (HOz.out _ _ HT.out).mono ?_
        rintro e b12 ⟨AHOt, cHOt, rfl, HOt, hb⟩
        have HT := Lib.hid (HT.out.on hb)
        have HP := Lib.hid (HP.out.on hb)
        have HQ := Lib.hid (HQ.out.on hb)
        have HOp := Lib.hid (HOp.out.on hb)
        have VA := Lib.hid (VA.out.on hb)
        have VB := Lib.hid (VB.out.on hb)
        have VO := Lib.hid (VO.out.on hb)
        have B := Lib.hid (B.out.trans (hb.mono B.out.size))
        clear hb  
        go_wp2_with fail
        refine (HSm.out _ _ _ _ _ HOp.out HOt.out).mono ?_
        rintro e b13 ⟨rfl, hb⟩
        have HT := Lib.hid (HT.out.on hb)
        have HP := Lib.hid (HP.out.on hb)
        have HQ := Lib.hid (HQ.out.on hb)
        have HOp := Lib.hid (HOp.out.on hb)
        have HOt := Lib.hid (HOt.out.on hb)
        have VA := Lib.hid (VA.out.on hb)
        have VB := Lib.hid (VB.out.on hb)
        have VO := Lib.hid (VO.out.on hb)
        have B := Lib.hid (B.out.trans (hb.mono B.out.size))
        clear hb  
        go_wp2_with fail
        refine (HOz.out _ _ HQ.out).mono ?_
        rintro e b14 ⟨AHOq, cHOq, rfl, HOq, hb⟩
        have HT := Lib.hid (HT.out.on hb)
        have HP := Lib.hid (HP.out.on hb)
        have HQ := Lib.hid (HQ.out.on hb)
        have HOp := Lib.hid (HOp.out.on hb)
        have HOt := Lib.hid (HOt.out.on hb)
        have VA := Lib.hid (VA.out.on hb)
        have VB := Lib.hid (VB.out.on hb)
        have VO := Lib.hid (VO.out.on hb)
        have B := Lib.hid (B.out.trans (hb.mono B.out.size))
        clear hb  
        go_wp2_with fail
        refine (HOz.out _ _ HT.out).mono ?_
        rintro e b15 ⟨AHOr, cHOr, rfl, HOr, hb⟩
        have HT := Lib.hid (HT.out.on hb)
        have HP := Lib.hid (HP.out.on hb)
        have HQ := Lib.hid (HQ.out.on hb)
        have HOp := Lib.hid (HOp.out.on hb)
        have HOt := Lib.hid (HOt.out.on hb)
        have HOq := Lib.hid (HOq.out.on hb)
        have VA := Lib.hid (VA.out.on hb)
        have VB := Lib.hid (VB.out.on hb)
        have VO := Lib.hid (VO.out.on hb)
        have B := Lib.hid (B.out.trans (hb.mono B.out.size))
        clear hb  
        go_wp2_with fail
        refine (HSm.out _ _ _ _ _ HOq.out HOr.out).mono ?_
        rintro e b16 ⟨rfl, hb⟩
        have HT := Lib.hid (HT.out.on hb)
        have HP := Lib.hid (HP.out.on hb)
        have HQ := Lib.hid (HQ.out.on hb)
        have HOp := Lib.hid (HOp.out.on hb)
        have HOt := Lib.hid (HOt.out.on hb)
        have HOq := Lib.hid (HOq.out.on hb)
        have HOr := Lib.hid (HOr.out.on hb)
        have VA := Lib.hid (VA.out.on hb)
        have VB := Lib.hid (VB.out.on hb)
        have VO := Lib.hid (VO.out.on hb)
        have B := Lib.hid (B.out.trans (hb.mono B.out.size))
        clear hb  
        go_wp2
        go_ret
        exact ⟨rfl, B.out⟩
      · have HGa := Lib.hid (fun W v (h : DfaAt W W.heap.size v d0) (hZ : IntsAt W W.heap.size A2 z2) => gated_weak (c := c2) h hZ hr)
        have HGb := Lib.hid (fun W v (h : DfaAt W W.heap.size v d1) (hZ : IntsAt W W.heap.size A2 z2) => gated_weak (c := c2) h hZ hr)
        have HGc := Lib.hid (fun W v (h : DfaAt W W.heap.size v O) (hZ : IntsAt W W.heap.size A2 z2) => gated_weak (c := c2) h hZ hr)
        rw [decide_eq_true ga] at HGa
        rw [decide_eq_false gb] at HGb
        clear ga gb
        generalize decide (gchk O = 0) = bc at *
        clear gg hf hr gO hacc eL
        go_enter Try.func7, Try.ntmps7
        go_wp2_with fail
        rw [← W0.out]
        clear W0
        refine (HF.out _).mono ?_
        rintro e b1 he
        obtain ⟨xf, rfl, hof⟩ := he.out
        have hb := hof.below
        have HX0 := Lib.hid hof.at_
        have Z := Lib.hid (Z.out.on hb)
        have VA := Lib.hid (VA.out.on hb)
        have VB := Lib.hid (VB.out.on hb)
        have B := Lib.hid (B.out.trans (hb.mono B.out.size))
        clear he hof hb HF
        go_wp2_with fail
        refine (HFG.out _ _ HX0.out).mono ?_
        rintro e b2 ⟨gf, Af, cf, rfl, HGF, hb⟩
        have Z := Lib.hid (Z.out.on hb)
        have VA := Lib.hid (VA.out.on hb)
        have VB := Lib.hid (VB.out.on hb)
        have B := Lib.hid (B.out.trans (hb.mono B.out.size))
        clear hb  HX0 HFG
        go_wp2_with fail
        refine (HFO.out _ _ HGF.out).mono ?_
        rintro e b3 ⟨Ao, co, rfl, HI, _, hb⟩
        have Z := Lib.hid (Z.out.on hb)
        have VA := Lib.hid (VA.out.on hb)
        have VB := Lib.hid (VB.out.on hb)
        have B := Lib.hid (B.out.trans (hb.mono B.out.size))
        clear hb  HFO HGF
        go_wp2_with fail
        refine (HFS.out _ _ _ HI.out).mono ?_
        rintro e b4 ⟨rfl, hb⟩
        have Z := Lib.hid (Z.out.on hb)
        have VA := Lib.hid (VA.out.on hb)
        have VB := Lib.hid (VB.out.on hb)
        have B := Lib.hid (B.out.trans (hb.mono B.out.size))
        clear hb  HFS HI
        obtain ⟨p0, p1, p2, p3, p4⟩ := VA.out.box
        obtain ⟨q0, q1, q2, q3, q4⟩ := VB.out.box
        go_wp2_with fail
        refine (HBo.out _ _ _ VA.out.at_ VB.out.at_).mono ?_
        rintro e b5 ⟨L15, s15, A15, n15, c15, F15, m15, k15, rfl, hd, hb⟩
        have Z := Lib.hid (Z.out.on hb)
        have VA := Lib.hid (VA.out.on hb)
        have VB := Lib.hid (VB.out.on hb)
        have B := Lib.hid (B.out.trans (hb.mono B.out.size))
        clear hb p0 p1 p2 p3 p4 q0 q1 q2 q3 q4 HBo
        obtain ⟨x5, hx5, hbn, Vn⟩ := var_new b5 hd.out
        have VO := Lib.hid Vn
        have Z := Lib.hid (Z.out.on hbn)
        have VA := Lib.hid (VA.out.on hbn)
        have VB := Lib.hid (VB.out.on hbn)
        have B := Lib.hid (B.out.trans (hbn.mono B.out.size))
        clear hbn Vn hd
        obtain ⟨p0, p1, p2, p3, p4⟩ := VA.out.box
        rw [hx5] at p1 p2 p3 p4
        have HX := Lib.hid hx5
        clear hx5
        go_wp2_with fail
        rw [← HX.out]
        clear HX
        refine (HGa.out _ _ VA.out.at_ Z.out).mono ?_
        rintro e b6 ⟨P45, B45, n45, k45, rfl, hb⟩
        have Z := Lib.hid (Z.out.on hb)
        have VA := Lib.hid (VA.out.on hb)
        have VB := Lib.hid (VB.out.on hb)
        have VO := Lib.hid (VO.out.on hb)
        have B := Lib.hid (B.out.trans (hb.mono B.out.size))
        clear hb p0 p1 p2 p3 p4 HGa
        obtain ⟨p0, p1, p2, p3, p4⟩ := VB.out.box
        go_wp2_with fail
        refine (HGb.out _ _ VB.out.at_ Z.out).mono ?_
        rintro e b7 ⟨P46, B46, n46, k46, rfl, hb⟩
        have Z := Lib.hid (Z.out.on hb)
        have VA := Lib.hid (VA.out.on hb)
        have VB := Lib.hid (VB.out.on hb)
        have VO := Lib.hid (VO.out.on hb)
        have B := Lib.hid (B.out.trans (hb.mono B.out.size))
        clear hb p0 p1 p2 p3 p4 HGb
        obtain ⟨p0, p1, p2, p3, p4⟩ := VO.out.box
        go_wp2_with fail
        refine (HGc.out _ _ VO.out.at_ Z.out).mono ?_
        rintro e b8 ⟨P47, B47, n47, k47, rfl, hb⟩
        have Z := Lib.hid (Z.out.on hb)
        have VA := Lib.hid (VA.out.on hb)
        have VB := Lib.hid (VB.out.on hb)
        have VO := Lib.hid (VO.out.on hb)
        have B := Lib.hid (B.out.trans (hb.mono B.out.size))
        clear hb p0 p1 p2 p3 p4 HGc
        go_wp2
        go_ret
        exact ⟨rfl, B.out⟩
    · have HGa := Lib.hid (fun W v (h : DfaAt W W.heap.size v d0) (hZ : IntsAt W W.heap.size A2 z2) => gated_weak (c := c2) h hZ hr)
      have HGb := Lib.hid (fun W v (h : DfaAt W W.heap.size v d1) (hZ : IntsAt W W.heap.size A2 z2) => gated_weak (c := c2) h hZ hr)
      have HGc := Lib.hid (fun W v (h : DfaAt W W.heap.size v O) (hZ : IntsAt W W.heap.size A2 z2) => gated_weak (c := c2) h hZ hr)
      rw [decide_eq_false ga] at HGa
      generalize decide (gchk d1 = 0) = bb at *
      clear ga
      generalize decide (gchk O = 0) = bc at *
      clear gg hf hr gO hacc eL
      go_enter Try.func7, Try.ntmps7
      go_wp2_with fail
      rw [← W0.out]
      clear W0
      refine (HF.out _).mono ?_
      rintro e b1 he
      obtain ⟨xf, rfl, hof⟩ := he.out
      have hb := hof.below
      have HX0 := Lib.hid hof.at_
      have Z := Lib.hid (Z.out.on hb)
      have VA := Lib.hid (VA.out.on hb)
      have VB := Lib.hid (VB.out.on hb)
      have B := Lib.hid (B.out.trans (hb.mono B.out.size))
      clear he hof hb HF
      go_wp2_with fail
      refine (HFG.out _ _ HX0.out).mono ?_
      rintro e b2 ⟨gf, Af, cf, rfl, HGF, hb⟩
      have Z := Lib.hid (Z.out.on hb)
      have VA := Lib.hid (VA.out.on hb)
      have VB := Lib.hid (VB.out.on hb)
      have B := Lib.hid (B.out.trans (hb.mono B.out.size))
      clear hb  HX0 HFG
      go_wp2_with fail
      refine (HFO.out _ _ HGF.out).mono ?_
      rintro e b3 ⟨Ao, co, rfl, HI, _, hb⟩
      have Z := Lib.hid (Z.out.on hb)
      have VA := Lib.hid (VA.out.on hb)
      have VB := Lib.hid (VB.out.on hb)
      have B := Lib.hid (B.out.trans (hb.mono B.out.size))
      clear hb  HFO HGF
      go_wp2_with fail
      refine (HFS.out _ _ _ HI.out).mono ?_
      rintro e b4 ⟨rfl, hb⟩
      have Z := Lib.hid (Z.out.on hb)
      have VA := Lib.hid (VA.out.on hb)
      have VB := Lib.hid (VB.out.on hb)
      have B := Lib.hid (B.out.trans (hb.mono B.out.size))
      clear hb  HFS HI
      obtain ⟨p0, p1, p2, p3, p4⟩ := VA.out.box
      obtain ⟨q0, q1, q2, q3, q4⟩ := VB.out.box
      go_wp2_with fail
      refine (HBo.out _ _ _ VA.out.at_ VB.out.at_).mono ?_
      rintro e b5 ⟨L15, s15, A15, n15, c15, F15, m15, k15, rfl, hd, hb⟩
      have Z := Lib.hid (Z.out.on hb)
      have VA := Lib.hid (VA.out.on hb)
      have VB := Lib.hid (VB.out.on hb)
      have B := Lib.hid (B.out.trans (hb.mono B.out.size))
      clear hb p0 p1 p2 p3 p4 q0 q1 q2 q3 q4 HBo
      obtain ⟨x5, hx5, hbn, Vn⟩ := var_new b5 hd.out
      have VO := Lib.hid Vn
      have Z := Lib.hid (Z.out.on hbn)
      have VA := Lib.hid (VA.out.on hbn)
      have VB := Lib.hid (VB.out.on hbn)
      have B := Lib.hid (B.out.trans (hbn.mono B.out.size))
      clear hbn Vn hd
      obtain ⟨p0, p1, p2, p3, p4⟩ := VA.out.box
      rw [hx5] at p1 p2 p3 p4
      have HX := Lib.hid hx5
      clear hx5
      go_wp2_with fail
      rw [← HX.out]
      clear HX
      refine (HGa.out _ _ VA.out.at_ Z.out).mono ?_
      rintro e b6 ⟨P45, B45, n45, k45, rfl, hb⟩
      have Z := Lib.hid (Z.out.on hb)
      have VA := Lib.hid (VA.out.on hb)
      have VB := Lib.hid (VB.out.on hb)
      have VO := Lib.hid (VO.out.on hb)
      have B := Lib.hid (B.out.trans (hb.mono B.out.size))
      clear hb p0 p1 p2 p3 p4 HGa
      obtain ⟨p0, p1, p2, p3, p4⟩ := VB.out.box
      go_wp2_with fail
      refine (HGb.out _ _ VB.out.at_ Z.out).mono ?_
      rintro e b7 ⟨P46, B46, n46, k46, rfl, hb⟩
      have Z := Lib.hid (Z.out.on hb)
      have VA := Lib.hid (VA.out.on hb)
      have VB := Lib.hid (VB.out.on hb)
      have VO := Lib.hid (VO.out.on hb)
      have B := Lib.hid (B.out.trans (hb.mono B.out.size))
      clear hb p0 p1 p2 p3 p4 HGb
      obtain ⟨p0, p1, p2, p3, p4⟩ := VO.out.box
      go_wp2_with fail
      refine (HGc.out _ _ VO.out.at_ Z.out).mono ?_
      rintro e b8 ⟨P47, B47, n47, k47, rfl, hb⟩
      have Z := Lib.hid (Z.out.on hb)
      have VA := Lib.hid (VA.out.on hb)
      have VB := Lib.hid (VB.out.on hb)
      have VO := Lib.hid (VO.out.on hb)
      have B := Lib.hid (B.out.trans (hb.mono B.out.size))
      clear hb p0 p1 p2 p3 p4 HGc
      go_wp2
      go_ret
      exact ⟨rfl, B.out⟩


set_option maxRecDepth 100000 in
theorem lifted (os : Os) (started : os.Started) (H : Type) (enc : TypeId × Value → H) :
    ReturnsInHanded {} Try.checked os 7 .any (Rows.gateTwoSpec.pre6 enc Try.prog Try.f7 Rows.gateTwoRow.domain false) (Rows.gateTwoSpec.post enc Try.prog Try.f7 false true false false) := by
  refine returnsInHanded_of_change_sized (C := Try.checked) own started (by kernel_rfl) Try.func7
    (ChangeSpec.witness6 (enc := enc) (C := Try.checked) false ⟨#[], #[.agg #[.int .i64 0, .int .i64 0, .slice none 0 0, .slice none 0 0], .agg #[.int .i64 0, .int .i64 0, .slice none 0 0, .slice none 0 0], .slice none 0 0], []⟩ 8 (by kernel_rfl) (by kernel_rfl) (by kernel_rfl) (by kernel_rfl)) ?_
  intro W base args ds gs before hval0 hW hcnd hsz0 _
  have hval : ∀ (j : Nat) t v, Try.f7.params[j]? = some t → args[j]? = some v → Value.okWide Try.prog W .any base t v := hval0
  have hsz : (DataW.weightsEach Try.prog (Try.f7.params.toList ++ Rows.gateTwoSpec.plain.varTypes Try.prog) (ds ++ gs)).all (· ≤ reachBytes) = true := hsz0
  have hW' := hW
  obtain ⟨p, q, hA0, hV0, rfl, hfz, hnd⟩ := hW
  have hV : DataW.TrodVars enc Try.prog W (fun _ => true) [] gs q := hV0
  have hA : DataW.TrodAll enc Try.prog W 0 (fun _ => true) true Try.f7.params.toList args.toList ds p := hA0
  rw [Try.params7] at hA hval hsz
  obtain ⟨v0, vs0, d0, ds0, p0, q0, hargs, rfl, rfl, h0, rr0⟩ := trodAll_cons hA
  obtain ⟨v1, vs1, d1, ds1, p1, q1, rfl, rfl, rfl, h1, rr1⟩ := trodAll_cons rr0
  obtain ⟨v2, vs2, d2, ds2, p2, q2, rfl, rfl, rfl, h2, rr2⟩ := trodAll_cons rr1
  obtain ⟨rfl, rfl, rfl⟩ := trodAll_nil rr2
  obtain rfl : args = #[v0, v1, v2] := by cases args; simp_all
  obtain ⟨rfl, rfl⟩ := trodVars_none hV
  have k0 := h0
  have lt0 : ∀ x ∈ p0, x.block < W.heap.size := by obtain ⟨m, hm⟩ := k0; exact DataW.trod_lt m _ _ _ hm
  have k1 := h1
  have lt1 : ∀ x ∈ p1, x.block < W.heap.size := by obtain ⟨m, hm⟩ := k1; exact DataW.trod_lt m _ _ _ hm
  have k2 := h2
  have lt2 : ∀ x ∈ p2, x.block < W.heap.size := by obtain ⟨m, hm⟩ := k2; exact DataW.trod_lt m _ _ _ hm
  obtain ⟨D0, x0⟩ : ∃ d : Df.Aut, Df.DfaAt W W.heap.size v0 d := Df.dfa_open (hval 0 25 v0 rfl rfl) h0
  obtain ⟨D1, x1⟩ : ∃ d : Df.Aut, Df.DfaAt W W.heap.size v1 d := Df.dfa_open (hval 1 25 v1 rfl rfl) h1
  obtain ⟨A2, len2, c2, rfl⟩ := okWide_slice Try.underlying33 (hval 2 33 v2 rfl rfl)
  obtain ⟨z2, rfl, x2, r2, m2⟩ : ∃ zs : List Int, len2 = zs.length ∧ IntsAt W W.heap.size A2 zs ∧ zs.length ≤ 17592186043904 ∧ zs.length ≤ c2 := by
    obtain ⟨fuel, hf⟩ := h2
    rcases open_ints Try.underlying33 Try.underlying3 (by kernel_rfl) hf with ⟨hcs, _⟩ | ⟨x, l, c, zs, hcs, _, hl, hm, hz, hx, hcell, hwz⟩
    · simp [Value.cells] at hcs
      obtain ⟨rfl, rfl, rfl⟩ := hcs
      exact ⟨[], rfl, IntsAt.nil _ _ _, by simp, by simp⟩
    · simp [Value.cells] at hcs
      obtain ⟨rfl, rfl, rfl⟩ := hcs
      have hd := congrArg Prod.fst hx
      simp only at hd
      have := sized_slice hsz (j := 2) (t := 33) (e := 3) rfl (by rw [hd]; rfl) Try.underlying33
      rw [(show Try.prog.bytesOf 3 = 8 by kernel_rfl)] at this
      simp only [reachBytes, lits, List.length_map, List.length_take, List.length_drop] at this
      have hz' : zs.length = c2 := by simpa using hz
      exact ⟨zs.take len2, by rw [List.length_take]; omega, intsAt_of_open hcell hwz len2, by rw [List.length_take]; omega, by rw [List.length_take]; omega⟩
  clear hA0 hval0
  refine (walk v0 D0 v1 D1 A2 c2 z2 W x0 x1 x2 r2 m2).mono fun e W' ⟨he, bel⟩ => ?_
  subst he
  exact ⟨_, rfl, _, _, _, [], _, [], hW', trodAll_mk1 (shut_bool Try.underlying4 _), (trodAll_cons_mk (Below.trod laidOut (by kernel_rfl) (of_decide_eq_true (by kernel_rfl)) k0 bel lt0) (trodAll_cons_mk (Below.trod laidOut (by kernel_rfl) (of_decide_eq_true (by kernel_rfl)) k1 bel lt1) (trodAll_cons_mk (Below.trod laidOut (by kernel_rfl) (of_decide_eq_true (by kernel_rfl)) k2 bel lt2) trodAll_mk0))), rfl, bel.frame _, fun h => by cases h⟩

theorem over : Rows.gateTwoRow.holds Try.pinned (OpenSpec.ofChange Rows.gateTwoSpec) :=
  OpenClaim.holds_of_wide 7 Try.f7 rfl rfl rfl rfl rfl rfl rfl ⟨rfl, rfl, rfl, rfl, rfl⟩ rfl rfl rfl rfl rfl (by kernel_rfl) Try.func7 (by kernel_rfl)
    (of_decide_eq_true (by kernel_rfl)) (by unfold Func.isWrapper; rw [if_neg (of_decide_eq_false (by kernel_rfl))]; exact ⟨rfl, rfl⟩)
    (fun os started H enc _ => lifted os started H enc)
theorem proved : Rows.GateTwoSaid := over
#print axioms proved
end Go.Proofs.Ytciopfiddfmckaa.gateTwo
