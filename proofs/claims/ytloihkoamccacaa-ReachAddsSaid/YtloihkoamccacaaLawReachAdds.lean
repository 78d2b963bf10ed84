/-
  The statement ReachAddsSaid of this seat, proved: for every input the law returns true and its arguments read behind the call as before. Conditions: none but the row's own (each argument within the reach).
-/
import Derived.Test.YtloihkoamccacaaRows
import Derived.Test.YtloihkoamccacaaWords
import Derived.WalkKit
import Derived.ProofKit
import Derived.OpenShut
import Derived.ShutString
import Derived.ChangeOld
import Derived.Below
import Derived.SizedLaws
import Derived.Lib.Hide
import Derived.Test.YtloihkoamccacaaReachV
import Derived.Deep.QuietTactic
import Derived.BigQuiet
namespace Go.Proofs.Ytloihkoamccacaa.reachAdds
open Go.ChangeShapes Go.WideShapes Go.ChangeAt Go.RowKit Go.IntWalk Go.Proofs.Ytloihkoamccacaa.Wd
open Go.ChangeMaps (open_string shut_string)
set_option linter.unusedVariables false

theorem own : ownKnob Try.prog.godebug = none := by kernel_rfl
theorem laidOut : laidOutB Try.prog = true := by kernel_rfl
open Go.Proofs.Ytloihkoamccacaa.Wo Go.Proofs.Ytloihkoamccacaa.Df Go.Proofs.Ytloihkoamccacaa.Rc
theorem countOut_zero {d : Aut} {n : Int} (h : (countOut d n).2 ≠ 0) : (countOut d n).1 = 0 := by
  unfold countOut at h ⊢
  split
  · rename_i h1
    rw [if_pos h1] at h
    split
    · rename_i h2
      rw [if_pos h2] at h
      exact absurd rfl h
    · rfl
  · rfl
theorem countOut_nil {d : Aut} {n : Int} (h : (countOut d n).2 = 0) : dchk d = 0 ∧ 0 ≤ n ∧ n ≤ 20 := by
  unfold countOut at h
  split at h
  · rename_i h1
    split at h
    · rename_i h2
      exact ⟨h1, h2⟩
    · cases h
  · rename_i h1
    exact absurd h h1

set_option maxRecDepth 100000 in
set_option maxHeartbeats 4000000 in
theorem walk (v0 : Value) (d0 : Df.Aut) (v1 : Value) (d1 : Df.Aut) (a2 : Int) (w : World) (h0 : Df.DfaAt w w.heap.size v0 d0) (h1 : Df.DfaAt w w.heap.size v1 d1) (l2 : -9223372036854775808 ≤ a2) (h2 : a2 ≤ 9223372036854775807) :
    Calls Try.prog 5 #[v0, v1, .int .i64 a2] w fun e w' => e = .returned (.bool true) ∧ Below w.heap.size w w' := by
  by_cases ga : (countOut d0 a2).2 = 0
  · obtain ⟨g1, g2, g3⟩ := countOut_nil ga
    have Ga := dchk_iff.1 g1
    obtain ⟨k, rfl⟩ := Int.eq_ofNat_of_zero_le g2
    have hk : k ≤ 20 := by omega
    have HCa := Lib.hid (fun W v (h : DfaAt W W.heap.size v d0) => count_gives (n := (k : Int)) (E := .nilIface) h ⟨l2, h2⟩ (countOut_ok g1 hk) rfl)
    have HNa := Lib.hid (fun W v (h : DfaAt W W.heap.size v d0) => not_gives (E := .nilIface) h (notOut_ok Ga) rfl)
    have HCn := Lib.hid (fun W v (h : DfaAt W W.heap.size v (notA d0)) => count_gives (n := (k : Int)) (E := .nilIface) h ⟨l2, h2⟩ (countOut_ok (dchk_iff.2 (notA_good Ga)) hk) rfl)
    have hns : (notA d0).s.toNat = d0.s.toNat := rfl
    rw [hns] at HCn
    have HXY0 := cnt_not Ga k Ga.s_lt
    have hx := cnt_small Ga hk (s := d0.s.toNat)
    have hy := cnt_small (notA_good Ga) hk (s := d0.s.toNat)
    obtain ⟨l, hl⟩ := Int.eq_ofNat_of_zero_le (show 0 ≤ d0.L by have := Ga.l1; omega)
    have hl6 : l ≤ 6 := by have := Ga.l6; omega
    have hLl : d0.L.toNat = l := by omega
    rw [hLl] at HXY0
    rcases prod_two d0 d1 with ⟨j, hj⟩ | ⟨gg, lp, hlp⟩
    · have HB := Lib.hid (fun W v u (h : DfaAt W W.heap.size v d0) (h2 : DfaAt W W.heap.size u d1) => both_gives h h2 (hj _) rfl)
      have HE := Lib.hid (fun W v u (h : DfaAt W W.heap.size v d0) (h2 : DfaAt W W.heap.size u d1) => either_gives h h2 (hj _) rfl)
      rw [show errV (j + 1) = errI ((j + 1 : Nat) : Int) from rfl] at HB HE
      generalize ((j + 1 : Nat) : Int) = E at *
      by_cases gb : (countOut d1 (k : Int)).2 = 0
      · have HCb := Lib.hid (fun W v (h : DfaAt W W.heap.size v d1) => count_gives (n := (k : Int)) (E := .nilIface) h ⟨l2, h2⟩ (r := (countOut d1 (k : Int)).1) (k := 0) (by rw [← gb]) rfl)
        clear gb hj
        have HXY := Lib.hid HXY0
        clear HXY0 ga g1 g2 g3 Ga hns l2 h2
        generalize cnt d0 k d0.s.toNat = X at *
        generalize cnt (notA d0) k d0.s.toNat = Y at *
        generalize (countOut d1 (k : Int)).1 = Z at *
        obtain ⟨L0, s0, A0, n0, c0, F0, m0, k0, rfl⟩ := h0.form
        obtain ⟨L1, s1, A1, n1, c1, F1, m1, k1, rfl⟩ := h1.form
        obtain ⟨u0, hu0, hb0, VA0, VB0⟩ := vars_two w h0 h1
        have VA := Lib.hid VA0
        have VB := Lib.hid VB0
        have B := Lib.hid hb0
        have W0 := Lib.hid hu0
        clear VA0 VB0 hb0 hu0 h0 h1
        obtain ⟨e0, _, _, _⟩ := VA.out.at_.eqs
        obtain rfl : L0 = (l : Int) := by rw [← e0]; exact hl
        clear e0 hl hLl
        go_enter Try.func5, Try.ntmps5
        obtain ⟨p0, p1, p2, p3, p4⟩ := VA.out.box
        go_wp2_with fail
        rw [← W0.out]
        clear W0
        refine (HCa.out _ _ VA.out.at_).mono ?_
        rintro e u1 ⟨rfl, hb⟩
        have VA := Lib.hid (VA.out.on hb)
        have VB := Lib.hid (VB.out.on hb)
        have B := Lib.hid (B.out.trans (hb.mono B.out.size))
        clear hb  p0 p1 p2 p3 p4 HCa
        obtain ⟨p0, p1, p2, p3, p4⟩ := VA.out.box
        go_wp2_with fail
        refine (HNa.out _ _ VA.out.at_).mono ?_
        rintro e u2 ⟨L12, s12, A12, n12, c12, F12, m12, k12, rfl, hd, hb⟩
        have VA := Lib.hid (VA.out.on hb)
        have VB := Lib.hid (VB.out.on hb)
        have B := Lib.hid (B.out.trans (hb.mono B.out.size))
        clear hb  p0 p1 p2 p3 p4 HNa
        obtain ⟨x2, hx2, hb, Vn⟩ := var_new u2 hd.out
        have HX := Lib.hid hx2
        have Vn := Lib.hid Vn
        have VA := Lib.hid (VA.out.on hb)
        have VB := Lib.hid (VB.out.on hb)
        have B := Lib.hid (B.out.trans (hb.mono B.out.size))
        clear hb hd hx2
        go_wp2_with fail
        rw [← HX.out]
        clear HX
        have VN := Vn
        clear Vn
        refine (HCn.out _ _ VN.out.at_).mono ?_
        rintro e u3 ⟨rfl, hb⟩
        have VA := Lib.hid (VA.out.on hb)
        have VB := Lib.hid (VB.out.on hb)
        have VN := Lib.hid (VN.out.on hb)
        have B := Lib.hid (B.out.trans (hb.mono B.out.size))
        clear hb  HCn
        clear VN
        obtain ⟨p0, p1, p2, p3, p4⟩ := VA.out.box
        go_wp2
        go_loop [13, 14] (fun al i => ∃ (q P : Nat), q ≤ k ∧ i = .int .i64 q ∧ al = .int .i64 P ∧ Hid (P = l ^ q)) (fun _ i => k - (intOf i).toNat)
        case atStart => exact ⟨0, 1, by omega, rfl, rfl, by simp [Hid]⟩
        case round =>
          obtain ⟨q, P, hq, rfl, rfl, HP⟩ := hrel
          by_cases hqk : q < k
          · have HP1 : Hid (P * l = l ^ (q + 1)) := by unfold Hid; rw [HP.out, Nat.pow_succ]
            have hPb : P * l ≤ 3656158440062976 := by rw [HP1.out]; exact pow6 hl6 (by omega)
            have hm2 : (P : Int) * (l : Int) = ((P * l : Nat) : Int) := (Int.natCast_mul _ _).symm
            have hm3 : IntKind.i64.wrap ((P : Int) * (l : Int)) = ((P * l : Nat) : Int) := by rw [hm2]; exact IntWalk.i64_in _ ⟨by omega, by omega⟩
            generalize P * l = R at *
            go_wp2
            go_round
            case rel => exact ⟨q + 1, R, by omega, by go_num, rfl, HP1⟩
            case measure => simp [intOf]; omega
          · obtain rfl : q = k := by omega
            have hsum : ((X : Int) + (Y : Int) != (P : Int)) = false := int_eq' (by have h1 := HXY.out; have h2 := HP.out; rw [← h2] at h1; omega)
            clear HP HXY p0 p1 p2 p3 p4
            obtain ⟨p0, p1, p2, p3, p4⟩ := VB.out.box
            go_wp2_with fail
            refine (HCb.out _ _ VB.out.at_).mono ?_
            rintro e u4 ⟨rfl, hb⟩
            have VA := Lib.hid (VA.out.on hb)
            have VB := Lib.hid (VB.out.on hb)
            have B := Lib.hid (B.out.trans (hb.mono B.out.size))
            clear hb  p0 p1 p2 p3 p4 HCb
            obtain ⟨p0, p1, p2, p3, p4⟩ := VA.out.box
            obtain ⟨q0, q1, q2, q3, q4⟩ := VB.out.box
            go_wp2_with fail
            refine (HB.out _ _ _ VA.out.at_ VB.out.at_).mono ?_
            rintro e u5 ⟨L15, s15, A15, n15, c15, F15, m15, k15, rfl, hd, hb⟩
            have VA := Lib.hid (VA.out.on hb)
            have VB := Lib.hid (VB.out.on hb)
            have B := Lib.hid (B.out.trans (hb.mono B.out.size))
            clear hb  p0 p1 p2 p3 p4 q0 q1 q2 q3 q4 HB
            obtain ⟨p0, p1, p2, p3, p4⟩ := VA.out.box
            obtain ⟨q0, q1, q2, q3, q4⟩ := VB.out.box
            obtain ⟨x5, hx5, hb, Vn⟩ := var_new u5 hd.out
            have HX := Lib.hid hx5
            have Vn := Lib.hid Vn
            have VA := Lib.hid (VA.out.on hb)
            have VB := Lib.hid (VB.out.on hb)
            have B := Lib.hid (B.out.trans (hb.mono B.out.size))
            clear hb hd hx5
            go_wp2_with fail
            rw [← HX.out]
            clear HX
            have VP := Vn
            clear Vn
            refine (HE.out _ _ _ VA.out.at_ VB.out.at_).mono ?_
            rintro e u6 ⟨L16, s16, A16, n16, c16, F16, m16, k16, rfl, hd, hb⟩
            have VA := Lib.hid (VA.out.on hb)
            have VB := Lib.hid (VB.out.on hb)
            have VP := Lib.hid (VP.out.on hb)
            have B := Lib.hid (B.out.trans (hb.mono B.out.size))
            clear hb  p0 p1 p2 p3 p4 q0 q1 q2 q3 q4 HE
            have HY := Lib.hid (B.out.trans ((below_alloc _ (.cells #[.int .i64 L16, .int .i64 s16, .slice A16 n16 c16, .slice F16 m16 k16] 25)).mono B.out.size))
            clear hd B VA VB
            go_wp2_with fail
            go_quiet (fail)
            go_wp2
            go_ret
            exact ⟨rfl, below_drewN HY.out _⟩
      · obtain ⟨E4, hE4⟩ := errV_bad gb
        have HCb := Lib.hid (fun W v (h : DfaAt W W.heap.size v d1) => count_gives (n := (k : Int)) h ⟨l2, h2⟩ (r := (countOut d1 (k : Int)).1) (k := (countOut d1 (k : Int)).2) rfl hE4)
        clear gb hj hE4
        have HXY := Lib.hid HXY0
        clear HXY0 ga g1 g2 g3 Ga hns l2 h2
        generalize cnt d0 k d0.s.toNat = X at *
        generalize cnt (notA d0) k d0.s.toNat = Y at *
        generalize (countOut d1 (k : Int)).1 = Z at *
        obtain ⟨L0, s0, A0, n0, c0, F0, m0, k0, rfl⟩ := h0.form
        obtain ⟨L1, s1, A1, n1, c1, F1, m1, k1, rfl⟩ := h1.form
        obtain ⟨u0, hu0, hb0, VA0, VB0⟩ := vars_two w h0 h1
        have VA := Lib.hid VA0
        have VB := Lib.hid VB0
        have B := Lib.hid hb0
        have W0 := Lib.hid hu0
        clear VA0 VB0 hb0 hu0 h0 h1
        obtain ⟨e0, _, _, _⟩ := VA.out.at_.eqs
        obtain rfl : L0 = (l : Int) := by rw [← e0]; exact hl
        clear e0 hl hLl
        go_enter Try.func5, Try.ntmps5
        obtain ⟨p0, p1, p2, p3, p4⟩ := VA.out.box
        go_wp2_with fail
        rw [← W0.out]
        clear W0
        refine (HCa.out _ _ VA.out.at_).mono ?_
        rintro e u1 ⟨rfl, hb⟩
        have VA := Lib.hid (VA.out.on hb)
        have VB := Lib.hid (VB.out.on hb)
        have B := Lib.hid (B.out.trans (hb.mono B.out.size))
        clear hb  p0 p1 p2 p3 p4 HCa
        obtain ⟨p0, p1, p2, p3, p4⟩ := VA.out.box
        go_wp2_with fail
        refine (HNa.out _ _ VA.out.at_).mono ?_
        rintro e u2 ⟨L12, s12, A12, n12, c12, F12, m12, k12, rfl, hd, hb⟩
        have VA := Lib.hid (VA.out.on hb)
        have VB := Lib.hid (VB.out.on hb)
        have B := Lib.hid (B.out.trans (hb.mono B.out.size))
        clear hb  p0 p1 p2 p3 p4 HNa
        obtain ⟨x2, hx2, hb, Vn⟩ := var_new u2 hd.out
        have HX := Lib.hid hx2
        have Vn := Lib.hid Vn
        have VA := Lib.hid (VA.out.on hb)
        have VB := Lib.hid (VB.out.on hb)
        have B := Lib.hid (B.out.trans (hb.mono B.out.size))
        clear hb hd hx2
        go_wp2_with fail
        rw [← HX.out]
        clear HX
        have VN := Vn
        clear Vn
        refine (HCn.out _ _ VN.out.at_).mono ?_
        rintro e u3 ⟨rfl, hb⟩
        have VA := Lib.hid (VA.out.on hb)
        have VB := Lib.hid (VB.out.on hb)
        have VN := Lib.hid (VN.out.on hb)
        have B := Lib.hid (B.out.trans (hb.mono B.out.size))
        clear hb  HCn
        clear VN
        obtain ⟨p0, p1, p2, p3, p4⟩ := VA.out.box
        go_wp2
        go_loop [13, 14] (fun al i => ∃ (q P : Nat), q ≤ k ∧ i = .int .i64 q ∧ al = .int .i64 P ∧ Hid (P = l ^ q)) (fun _ i => k - (intOf i).toNat)
        case atStart => exact ⟨0, 1, by omega, rfl, rfl, by simp [Hid]⟩
        case round =>
          obtain ⟨q, P, hq, rfl, rfl, HP⟩ := hrel
          by_cases hqk : q < k
          · have HP1 : Hid (P * l = l ^ (q + 1)) := by unfold Hid; rw [HP.out, Nat.pow_succ]
            have hPb : P * l ≤ 3656158440062976 := by rw [HP1.out]; exact pow6 hl6 (by omega)
            have hm2 : (P : Int) * (l : Int) = ((P * l : Nat) : Int) := (Int.natCast_mul _ _).symm
            have hm3 : IntKind.i64.wrap ((P : Int) * (l : Int)) = ((P * l : Nat) : Int) := by rw [hm2]; exact IntWalk.i64_in _ ⟨by omega, by omega⟩
            generalize P * l = R at *
            go_wp2
            go_round
            case rel => exact ⟨q + 1, R, by omega, by go_num, rfl, HP1⟩
            case measure => simp [intOf]; omega
          · obtain rfl : q = k := by omega
            have hsum : ((X : Int) + (Y : Int) != (P : Int)) = false := int_eq' (by have h1 := HXY.out; have h2 := HP.out; rw [← h2] at h1; omega)
            clear HP HXY p0 p1 p2 p3 p4
            obtain ⟨p0, p1, p2, p3, p4⟩ := VB.out.box
            go_wp2_with fail
            refine (HCb.out _ _ VB.out.at_).mono ?_
            rintro e u4 ⟨rfl, hb⟩
            have VA := Lib.hid (VA.out.on hb)
            have VB := Lib.hid (VB.out.on hb)
            have B := Lib.hid (B.out.trans (hb.mono B.out.size))
            clear hb  p0 p1 p2 p3 p4 HCb
            obtain ⟨p0, p1, p2, p3, p4⟩ := VA.out.box
            obtain ⟨q0, q1, q2, q3, q4⟩ := VB.out.box
            go_wp2_with fail
            refine (HB.out _ _ _ VA.out.at_ VB.out.at_).mono ?_
            rintro e u5 ⟨L15, s15, A15, n15, c15, F15, m15, k15, rfl, hd, hb⟩
            have VA := Lib.hid (VA.out.on hb)
            have VB := Lib.hid (VB.out.on hb)
            have B := Lib.hid (B.out.trans (hb.mono B.out.size))
            clear hb  p0 p1 p2 p3 p4 q0 q1 q2 q3 q4 HB
            obtain ⟨p0, p1, p2, p3, p4⟩ := VA.out.box
            obtain ⟨q0, q1, q2, q3, q4⟩ := VB.out.box
            obtain ⟨x5, hx5, hb, Vn⟩ := var_new u5 hd.out
            have HX := Lib.hid hx5
            have Vn := Lib.hid Vn
            have VA := Lib.hid (VA.out.on hb)
            have VB := Lib.hid (VB.out.on hb)
            have B := Lib.hid (B.out.trans (hb.mono B.out.size))
            clear hb hd hx5
            go_wp2_with fail
            rw [← HX.out]
            clear HX
            have VP := Vn
            clear Vn
            refine (HE.out _ _ _ VA.out.at_ VB.out.at_).mono ?_
            rintro e u6 ⟨L16, s16, A16, n16, c16, F16, m16, k16, rfl, hd, hb⟩
            have VA := Lib.hid (VA.out.on hb)
            have VB := Lib.hid (VB.out.on hb)
            have VP := Lib.hid (VP.out.on hb)
            have B := Lib.hid (B.out.trans (hb.mono B.out.size))
            clear hb  p0 p1 p2 p3 p4 q0 q1 q2 q3 q4 HE
            have HY := Lib.hid (B.out.trans ((below_alloc _ (.cells #[.int .i64 L16, .int .i64 s16, .slice A16 n16 c16, .slice F16 m16 k16] 25)).mono B.out.size))
            clear hd B VA VB
            go_wp2_with fail
            go_quiet (fail)
            go_wp2
            go_ret
            exact ⟨rfl, below_drewN HY.out _⟩
    · have Gb := gg.gb
      have HB := Lib.hid (fun W v u (h : DfaAt W W.heap.size v d0) (h2 : DfaAt W W.heap.size u d1) => both_gives (E := .nilIface) h h2 (prod_ok gg hlp (fun x y => x && y)) rfl)
      have HE := Lib.hid (fun W v u (h : DfaAt W W.heap.size v d0) (h2 : DfaAt W W.heap.size u d1) => either_gives (E := .nilIface) h h2 (prod_ok gg hlp (fun x y => x || y)) rfl)
      have HCb := Lib.hid (fun W v (h : DfaAt W W.heap.size v d1) => count_gives (n := (k : Int)) (E := .nilIface) h ⟨l2, h2⟩ (countOut_ok (dchk_iff.2 Gb) hk) rfl)
      have hz := cnt_small Gb hk (s := d1.s.toNat)
      have gp := prod_good gg hlp (fun p => (fun x y => x && y) (finA d0 p.1) (finA d1 p.2))
      have gq := prod_good gg hlp (fun p => (fun x y => x || y) (finA d0 p.1) (finA d1 p.2))
      have hps : (autOf d0.L (S2 d0 d1) lp (fun p => (fun x y => x && y) (finA d0 p.1) (finA d1 p.2))).s.toNat = 0 := rfl
      have hqs : (autOf d0.L (S2 d0 d1) lp (fun p => (fun x y => x || y) (finA d0 p.1) (finA d1 p.2))).s.toNat = 0 := rfl
      have hadd := cnt_adds gg hlp k
      simp only at HB HE gp gq hps hqs hadd
      clear hlp gg
      generalize autOf d0.L (S2 d0 d1) lp (fun p => finA d0 p.1 && finA d1 p.2) = PP at *
      generalize autOf d0.L (S2 d0 d1) lp (fun p => finA d0 p.1 || finA d1 p.2) = QQ at *
      have HCp := Lib.hid (fun W v (h : DfaAt W W.heap.size v PP) => count_gives (n := (k : Int)) (E := .nilIface) h ⟨l2, h2⟩ (countOut_ok (dchk_iff.2 gp) hk) rfl)
      have HCq := Lib.hid (fun W v (h : DfaAt W W.heap.size v QQ) => count_gives (n := (k : Int)) (E := .nilIface) h ⟨l2, h2⟩ (countOut_ok (dchk_iff.2 gq) hk) rfl)
      rw [hps] at HCp
      rw [hqs] at HCq
      have hp9 := cnt_small gp hk (s := 0)
      have hq9 := cnt_small gq hk (s := 0)
      clear hps hqs gp gq Gb
      have HXY := Lib.hid HXY0
      clear HXY0 ga g1 g2 g3 Ga hns l2 h2
      generalize cnt d0 k d0.s.toNat = X at *
      generalize cnt (notA d0) k d0.s.toNat = Y at *
      generalize cnt d1 k d1.s.toNat = Z at *
      generalize cnt PP k 0 = SS at *
      generalize cnt QQ k 0 = TT at *
      have hfin : ((SS : Int) + (TT : Int) == (X : Int) + (Z : Int)) = true := int_eq (by omega)
      clear hadd
      obtain ⟨L0, s0, A0, n0, c0, F0, m0, k0, rfl⟩ := h0.form
      obtain ⟨L1, s1, A1, n1, c1, F1, m1, k1, rfl⟩ := h1.form
      obtain ⟨u0, hu0, hb0, VA0, VB0⟩ := vars_two w h0 h1
      have VA := Lib.hid VA0
      have VB := Lib.hid VB0
      have B := Lib.hid hb0
      have W0 := Lib.hid hu0
      clear VA0 VB0 hb0 hu0 h0 h1
      obtain ⟨e0, _, _, _⟩ := VA.out.at_.eqs
      obtain rfl : L0 = (l : Int) := by rw [← e0]; exact hl
      clear e0 hl hLl
      go_enter Try.func5, Try.ntmps5
      obtain ⟨p0, p1, p2, p3, p4⟩ := VA.out.box
      go_wp2_with fail
      rw [← W0.out]
      clear W0
      refine (HCa.out _ _ VA.out.at_).mono ?_
      rintro e u1 ⟨rfl, hb⟩
      have VA := Lib.hid (VA.out.on hb)
      have VB := Lib.hid (VB.out.on hb)
      have B := Lib.hid (B.out.trans (hb.mono B.out.size))
      clear hb  p0 p1 p2 p3 p4 HCa
      obtain ⟨p0, p1, p2, p3, p4⟩ := VA.out.box
      go_wp2_with fail
      refine (HNa.out _ _ VA.out.at_).mono ?_
      rintro e u2 ⟨L12, s12, A12, n12, c12, F12, m12, k12, rfl, hd, hb⟩
      have VA := Lib.hid (VA.out.on hb)
      have VB := Lib.hid (VB.out.on hb)
      have B := Lib.hid (B.out.trans (hb.mono B.out.size))
      clear hb  p0 p1 p2 p3 p4 HNa
      obtain ⟨x2, hx2, hb, Vn⟩ := var_new u2 hd.out
      have HX := Lib.hid hx2
      have Vn := Lib.hid Vn
      have VA := Lib.hid (VA.out.on hb)
      have VB := Lib.hid (VB.out.on hb)
      have B := Lib.hid (B.out.trans (hb.mono B.out.size))
      clear hb hd hx2
      go_wp2_with fail
      rw [← HX.out]
      clear HX
      have VN := Vn
      clear Vn
      refine (HCn.out _ _ VN.out.at_).mono ?_
      rintro e u3 ⟨rfl, hb⟩
      have VA := Lib.hid (VA.out.on hb)
      have VB := Lib.hid (VB.out.on hb)
      have VN := Lib.hid (VN.out.on hb)
      have B := Lib.hid (B.out.trans (hb.mono B.out.size))
      clear hb  HCn
      clear VN
      obtain ⟨p0, p1, p2, p3, p4⟩ := VA.out.box
      go_wp2
      go_loop [13, 14] (fun al i => ∃ (q P : Nat), q ≤ k ∧ i = .int .i64 q ∧ al = .int .i64 P ∧ Hid (P = l ^ q)) (fun _ i => k - (intOf i).toNat)
      case atStart => exact ⟨0, 1, by omega, rfl, rfl, by simp [Hid]⟩
      case round =>
        obtain ⟨q, P, hq, rfl, rfl, HP⟩ := hrel
        by_cases hqk : q < k
        · have HP1 : Hid (P * l = l ^ (q + 1)) := by unfold Hid; rw [HP.out, Nat.pow_succ]
          have hPb : P * l ≤ 3656158440062976 := by rw [HP1.out]; exact pow6 hl6 (by omega)
          have hm2 : (P : Int) * (l : Int) = ((P * l : Nat) : Int) := (Int.natCast_mul _ _).symm
          have hm3 : IntKind.i64.wrap ((P : Int) * (l : Int)) = ((P * l : Nat) : Int) := by rw [hm2]; exact IntWalk.i64_in _ ⟨by omega, by omega⟩
          generalize P * l = R at *
          go_wp2
          go_round
          case rel => exact ⟨q + 1, R, by omega, by go_num, rfl, HP1⟩
          case measure => simp [intOf]; omega
        · obtain rfl : q = k := by omega
          have hsum : ((X : Int) + (Y : Int) != (P : Int)) = false := int_eq' (by have h1 := HXY.out; have h2 := HP.out; rw [← h2] at h1; omega)
          clear HP HXY p0 p1 p2 p3 p4
          obtain ⟨p0, p1, p2, p3, p4⟩ := VB.out.box
          go_wp2_with fail
          refine (HCb.out _ _ VB.out.at_).mono ?_
          rintro e u4 ⟨rfl, hb⟩
          have VA := Lib.hid (VA.out.on hb)
          have VB := Lib.hid (VB.out.on hb)
          have B := Lib.hid (B.out.trans (hb.mono B.out.size))
          clear hb  p0 p1 p2 p3 p4 HCb
          obtain ⟨p0, p1, p2, p3, p4⟩ := VA.out.box
          obtain ⟨q0, q1, q2, q3, q4⟩ := VB.out.box
          go_wp2_with fail
          refine (HB.out _ _ _ VA.out.at_ VB.out.at_).mono ?_
          rintro e u5 ⟨L15, s15, A15, n15, c15, F15, m15, k15, rfl, hd, hb⟩
          have VA := Lib.hid (VA.out.on hb)
          have VB := Lib.hid (VB.out.on hb)
          have B := Lib.hid (B.out.trans (hb.mono B.out.size))
          clear hb  p0 p1 p2 p3 p4 q0 q1 q2 q3 q4 HB
          obtain ⟨p0, p1, p2, p3, p4⟩ := VA.out.box
          obtain ⟨q0, q1, q2, q3, q4⟩ := VB.out.box
          obtain ⟨x5, hx5, hb, Vn⟩ := var_new u5 hd.out
          have HX := Lib.hid hx5
          have Vn := Lib.hid Vn
          have VA := Lib.hid (VA.out.on hb)
          have VB := Lib.hid (VB.out.on hb)
          have B := Lib.hid (B.out.trans (hb.mono B.out.size))
          clear hb hd hx5
          go_wp2_with fail
          rw [← HX.out]
          clear HX
          have VP := Vn
          clear Vn
          refine (HE.out _ _ _ VA.out.at_ VB.out.at_).mono ?_
          rintro e u6 ⟨L16, s16, A16, n16, c16, F16, m16, k16, rfl, hd, hb⟩
          have VA := Lib.hid (VA.out.on hb)
          have VB := Lib.hid (VB.out.on hb)
          have VP := Lib.hid (VP.out.on hb)
          have B := Lib.hid (B.out.trans (hb.mono B.out.size))
          clear hb  p0 p1 p2 p3 p4 q0 q1 q2 q3 q4 HE
          obtain ⟨p0, p1, p2, p3, p4⟩ := VP.out.box
          obtain ⟨x6, hx6, hb, Vn⟩ := var_new u6 hd.out
          have HX := Lib.hid hx6
          have Vn := Lib.hid Vn
          have VA := Lib.hid (VA.out.on hb)
          have VB := Lib.hid (VB.out.on hb)
          have VP := Lib.hid (VP.out.on hb)
          have B := Lib.hid (B.out.trans (hb.mono B.out.size))
          clear hb hd hx6
          go_wp2_with fail
          rw [← HX.out]
          clear HX
          have VQ := Vn
          clear Vn
          refine (HCp.out _ _ VP.out.at_).mono ?_
          rintro e u7 ⟨rfl, hb⟩
          have VA := Lib.hid (VA.out.on hb)
          have VB := Lib.hid (VB.out.on hb)
          have VP := Lib.hid (VP.out.on hb)
          have VQ := Lib.hid (VQ.out.on hb)
          have B := Lib.hid (B.out.trans (hb.mono B.out.size))
          clear hb  p0 p1 p2 p3 p4 HCp
          obtain ⟨p0, p1, p2, p3, p4⟩ := VQ.out.box
          go_wp2_with fail
          refine (HCq.out _ _ VQ.out.at_).mono ?_
          rintro e u8 ⟨rfl, hb⟩
          have VA := Lib.hid (VA.out.on hb)
          have VB := Lib.hid (VB.out.on hb)
          have VP := Lib.hid (VP.out.on hb)
          have VQ := Lib.hid (VQ.out.on hb)
          have B := Lib.hid (B.out.trans (hb.mono B.out.size))
          clear hb  p0 p1 p2 p3 p4 HCq
          go_wp2
          go_ret
          exact ⟨rfl, B.out⟩
  · obtain ⟨E, hE⟩ := errV_bad ga
    have HCa := Lib.hid (fun W v (h : DfaAt W W.heap.size v d0) => count_gives (n := a2) h ⟨l2, h2⟩ (r := 0) (k := (countOut d0 a2).2) (by rw [← countOut_zero ga]) hE)
    clear ga hE
    obtain ⟨L0, s0, A0, n0, c0, F0, m0, k0, rfl⟩ := h0.form
    obtain ⟨L1, s1, A1, n1, c1, F1, m1, k1, rfl⟩ := h1.form
    obtain ⟨u0, hu0, hb0, VA0, VB0⟩ := vars_two w h0 h1
    have VA := Lib.hid VA0
    have VB := Lib.hid VB0
    have B := Lib.hid hb0
    have W0 := Lib.hid hu0
    clear VA0 VB0 hb0 hu0 h0 h1
    go_enter Try.func5, Try.ntmps5
    obtain ⟨p0, p1, p2, p3, p4⟩ := VA.out.box
    go_wp2_with fail
    rw [← W0.out]
    clear W0
    refine (HCa.out _ _ VA.out.at_).mono ?_
    rintro e u1 ⟨rfl, hb⟩
    have VA := Lib.hid (VA.out.on hb)
    have VB := Lib.hid (VB.out.on hb)
    have B := Lib.hid (B.out.trans (hb.mono B.out.size))
    clear hb  p0 p1 p2 p3 p4 HCa
    go_wp2
    go_ret
    exact ⟨rfl, B.out⟩


set_option maxRecDepth 100000 in
theorem lifted (os : Os) (started : os.Started) (H : Type) (enc : TypeId × Value → H) :
    ReturnsInHanded {} Try.checked os 5 .any (Rows.reachAddsSpec.pre6 enc Try.prog Try.f5 Rows.reachAddsRow.domain false) (Rows.reachAddsSpec.post enc Try.prog Try.f5 false true false false) := by
  refine returnsInHanded_of_change_sized (C := Try.checked) own started (by kernel_rfl) Try.func5
    (ChangeSpec.witness6 (enc := enc) (C := Try.checked) false ⟨#[], #[.agg #[.int .i64 0, .int .i64 0, .slice none 0 0, .slice none 0 0], .agg #[.int .i64 0, .int .i64 0, .slice none 0 0, .slice none 0 0], .int .i64 0], []⟩ 8 (by kernel_rfl) (by kernel_rfl) (by kernel_rfl) (by kernel_rfl)) ?_
  intro W base args ds gs before hval0 hW hcnd hsz0 _
  have hval : ∀ (j : Nat) t v, Try.f5.params[j]? = some t → args[j]? = some v → Value.okWide Try.prog W .any base t v := hval0
  have hsz : (DataW.weightsEach Try.prog (Try.f5.params.toList ++ Rows.reachAddsSpec.plain.varTypes Try.prog) (ds ++ gs)).all (· ≤ reachBytes) = true := hsz0
  have hW' := hW
  obtain ⟨p, q, hA0, hV0, rfl, hfz, hnd⟩ := hW
  have hV : DataW.TrodVars enc Try.prog W (fun _ => true) [] gs q := hV0
  have hA : DataW.TrodAll enc Try.prog W 0 (fun _ => true) true Try.f5.params.toList args.toList ds p := hA0
  rw [Try.params5] at hA hval hsz
  obtain ⟨v0, vs0, d0, ds0, p0, q0, hargs, rfl, rfl, h0, rr0⟩ := trodAll_cons hA
  obtain ⟨v1, vs1, d1, ds1, p1, q1, rfl, rfl, rfl, h1, rr1⟩ := trodAll_cons rr0
  obtain ⟨v2, vs2, d2, ds2, p2, q2, rfl, rfl, rfl, h2, rr2⟩ := trodAll_cons rr1
  obtain ⟨rfl, rfl, rfl⟩ := trodAll_nil rr2
  obtain rfl : args = #[v0, v1, v2] := by cases args; simp_all
  obtain ⟨rfl, rfl⟩ := trodVars_none hV
  have k0 := h0
  have lt0 : ∀ x ∈ p0, x.block < W.heap.size := by obtain ⟨m, hm⟩ := k0; exact DataW.trod_lt m _ _ _ hm
  have k1 := h1
  have lt1 : ∀ x ∈ p1, x.block < W.heap.size := by obtain ⟨m, hm⟩ := k1; exact DataW.trod_lt m _ _ _ hm
  have k2 := h2
  have lt2 : ∀ x ∈ p2, x.block < W.heap.size := by obtain ⟨m, hm⟩ := k2; exact DataW.trod_lt m _ _ _ hm
  obtain ⟨D0, x0⟩ : ∃ d : Df.Aut, Df.DfaAt W W.heap.size v0 d := Df.dfa_open (hval 0 25 v0 rfl rfl) h0
  obtain ⟨D1, x1⟩ : ∃ d : Df.Aut, Df.DfaAt W W.heap.size v1 d := Df.dfa_open (hval 1 25 v1 rfl rfl) h1
  obtain ⟨a2, rfl, rfl, rfl, w2⟩ := open_int Try.underlying3 (hval 2 3 v2 rfl rfl) h2
  obtain ⟨l2, hh2⟩ := bounds_i64 w2
  clear hA0 hval0
  refine (walk v0 D0 v1 D1 a2 W x0 x1 l2 hh2).mono fun e W' ⟨he, bel⟩ => ?_
  subst he
  exact ⟨_, rfl, _, _, _, [], _, [], hW', trodAll_mk1 (shut_bool Try.underlying4 _), (trodAll_cons_mk (Below.trod laidOut (by kernel_rfl) (of_decide_eq_true (by kernel_rfl)) k0 bel lt0) (trodAll_cons_mk (Below.trod laidOut (by kernel_rfl) (of_decide_eq_true (by kernel_rfl)) k1 bel lt1) (trodAll_cons_mk (Below.trod laidOut (by kernel_rfl) (of_decide_eq_true (by kernel_rfl)) k2 bel lt2) trodAll_mk0))), rfl, bel.frame _, fun h => by cases h⟩

theorem over : Rows.reachAddsRow.holds Try.pinned (OpenSpec.ofChange Rows.reachAddsSpec) :=
  OpenClaim.holds_of_wide 5 Try.f5 rfl rfl rfl rfl rfl rfl rfl ⟨rfl, rfl, rfl, rfl, rfl⟩ rfl rfl rfl rfl rfl (by kernel_rfl) Try.func5 (by kernel_rfl)
    (of_decide_eq_true (by kernel_rfl)) (by unfold Func.isWrapper; rw [if_neg (of_decide_eq_false (by kernel_rfl))]; exact ⟨rfl, rfl⟩)
    (fun os started H enc _ => lifted os started H enc)
theorem proved : Rows.ReachAddsSaid := over
#print axioms proved
end Go.Proofs.Ytloihkoamccacaa.reachAdds
