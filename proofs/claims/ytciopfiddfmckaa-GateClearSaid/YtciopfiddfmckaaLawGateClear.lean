/-
  The statement GateClearSaid of this seat, proved: for every input the law returns true and its arguments read behind the call as before. Conditions: none but the row's own (each argument within the reach).
-/
import Derived.Test.YtciopfiddfmckaaRows
import Derived.Test.YtciopfiddfmckaaWords
import Derived.WalkKit
import Derived.ProofKit
import Derived.OpenShut
import Derived.ShutString
import Derived.ChangeOld
import Derived.Below
import Derived.SizedLaws
import Derived.Lib.Hide
import Derived.Test.YtciopfiddfmckaaGateL
namespace Go.Proofs.Ytciopfiddfmckaa.gateClear
open Go.ChangeShapes Go.WideShapes Go.ChangeAt Go.RowKit Go.IntWalk Go.Proofs.Ytciopfiddfmckaa.Wd
open Go.ChangeMaps (open_string shut_string)
set_option linter.unusedVariables false

theorem own : ownKnob Try.prog.godebug = none := by kernel_rfl
theorem laidOut : laidOutB Try.prog = true := by kernel_rfl
open Go.Proofs.Ytciopfiddfmckaa.Wo Go.Proofs.Ytciopfiddfmckaa.Df Go.Proofs.Ytciopfiddfmckaa.Rc Go.Proofs.Ytciopfiddfmckaa.Sm Go.Proofs.Ytciopfiddfmckaa.Sa Go.Proofs.Ytciopfiddfmckaa.Ga

set_option maxRecDepth 100000 in
set_option maxHeartbeats 4000000 in
theorem walk (v0 : Value) (d0 : Df.Aut) (A1 : Option Addr) (c1 : Nat) (z1 : List Int) (w : World) (h0 : Df.DfaAt w w.heap.size v0 d0) (v1 : IntsAt w w.heap.size A1 z1) (r1 : z1.length ≤ 17592186043904) (m1 : z1.length ≤ c1) :
    Calls Try.prog 5 #[v0, .slice A1 z1.length c1] w fun e w' => e = .returned (.bool true) ∧ Below w.heap.size w w' := by
  have hr : z1.length ≤ 17592186044416 := by omega
  obtain ⟨L0, s0, A0, n0, c0, F0, m0, k0, rfl⟩ := h0.form
  have hN0 := h0.eqs.2.2.1
  obtain ⟨b0, hu0, hb0, VA0⟩ := var_new w h0
  have VA := Lib.hid VA0
  have B := Lib.hid hb0
  have W0 := Lib.hid hu0
  have HN0 := Lib.hid hN0
  have Z := Lib.hid (v1.on hb0)
  clear VA0 hb0 hu0 h0 hN0 v1
  clear m1 r1 HN0
  have HF := Lib.hid few_any
  have HFG := Lib.hid few_gated
  have HFO := Lib.hid (fun W g (h : GateR W g fewA fewG) => few_out h)
  have HFS := Lib.hid (fun W A c (h : IntsAt W W.heap.size A [1, 0, 1]) => few_same (c := c) h)
  by_cases hg : gchk d0 = 0
  · have gg := gchk_iff.1 hg
    have hd := gg.good
    obtain ⟨hG1, hG2⟩ := offers_all d0 (z1.take 80) (g := gate0 d0) rfl (by show (gate0 d0).out.length + (z1.take 80).length ≤ 80; rw [List.length_take]; simp [gate0]; omega)
    have hGk := gok_offers (gok_start gg) (z1.take 80)
    have hI80 : (lets d0 (z1.take 80)).length ≤ 80 := by have := lets_len d0 (z1.take 80); rw [List.length_take] at this; omega
    have hIw := lets_word d0 (z1.take 80)
    obtain ⟨hp1, hp2⟩ := pass_longest gg hIw
    have hpn := pass_le d0 d0.s.toNat (lets d0 (z1.take 80))
    have HGA := Lib.hid (fun W v (h : DfaAt W W.heap.size v d0) (hZ : IntsAt W W.heap.size A1 z1) => gated_gives (c := c1) h hZ hr gg)
    change (offers d0 (gate0 d0) (z1.take 80)).out = [] ++ List.take (pass d0 d0.s.toNat (lets d0 (z1.take 80))) (lets d0 (z1.take 80)) at hG1
    change (offers d0 (gate0 d0) (z1.take 80)).shut = decide (pass d0 d0.s.toNat (lets d0 (z1.take 80)) < (lets d0 (z1.take 80)).length) at hG2
    rw [List.nil_append] at hG1
    generalize lets d0 (z1.take 80) = I at *
    generalize offers d0 (gate0 d0) (z1.take 80) = G at *
    generalize pass d0 d0.s.toNat I = p at *
    obtain ⟨n, hn⟩ : ∃ n, I.length = n := ⟨_, rfl⟩
    have hpl : (I.take p).length = p := by rw [List.length_take]; omega
    have HOu : Hid (∀ W g, GateR W g d0 G → Calls Try.prog 18 #[.pointer (some ⟨g, 0, none⟩)] W fun e w' => ∃ A c, e = .returned (.slice A p c) ∧ Hid (IntsAt w' w'.heap.size A (I.take p)) ∧ Below W.heap.size W w') := fun W g h => (rout_gives h hd hGk).mono fun e w' ⟨A, c, k1, k2, _, k3⟩ => by
      rw [hG1] at k1 k2
      rw [hpl] at k1
      exact ⟨A, c, k1, k2, k3⟩
    have HBe : Hid (∀ W A B ca cb, IntsAt W W.heap.size A (I.take p) → IntsAt W W.heap.size B I → n ≤ cb → Calls Try.prog 22 #[.slice A p ca, .slice B n cb] W fun e w' => e = .returned (.bool true) ∧ Below W.heap.size W w') := fun W A B ca cb k1 k2 k3 => by
      have h := begins_any A B ca cb (I.take p) I W k1 k2 (by rw [hpl]; omega) (by omega)
      rw [hpl, hn] at h
      exact h.mono fun e w' ⟨k4, k5⟩ => ⟨by rw [k4.out, decide_eq_true rfl], k5⟩
    have HAc : Hid (∀ W v B cb, DfaAt W W.heap.size v d0 → IntsAt W W.heap.size B I → Calls Try.prog 20 #[v, .slice B n cb] W fun e w' => e = .returned (.tuple #[.bool (accA d0 I), .nilIface]) ∧ Below W.heap.size W w') := fun W v B cb k1 k2 => by
      have h := acc_is (cz := cb) k1 k2 hd hIw hI80
      rwa [hn] at h
    have HSh := Lib.hid (fun W g (h : GateR W g d0 G) => rshut_gives h)
    rw [hG2] at HSh
    rw [hn] at HGA HSh hpn
    by_cases hlt : p < n
    · have hacc : accA d0 I = false := by have h := hp2 I.length (by omega) (Nat.le_refl _); rwa [List.take_length] at h
      rw [hacc] at HAc
      rw [decide_eq_true hlt] at HSh
      have HAu : Hid (∀ k, p + 1 ≤ k → k ≤ n → ∀ W v B cb, DfaAt W W.heap.size v d0 → IntsAt W W.heap.size B I → Calls Try.prog 20 #[v, .slice B k cb] W fun e w' => e = .returned (.tuple #[.bool false, .nilIface]) ∧ Below W.heap.size W w') := fun k hk1 hk2 W v B cb k1 k2 => by
        have h := acc_upto (cz := cb) (k := k) k1 k2 hd hIw hI80 (by omega)
        rwa [hp2 k (by omega) (by omega)] at h
      have e7 : (p : Int) < (n : Int) := by omega
      have e8 : ((p : Int) == (n : Int)) = false := by simp; omega
      have e9 : p + 1 ≤ n := by omega
      have hn80 : n ≤ 80 := by omega
      clear hg hG1 hG2 hGk hp1 hp2 hIw gg hd hn hpl hacc hI80 hpn hlt
      go_enter Try.func5, Try.ntmps5
      go_wp2_with fail
      rw [← W0.out]
      clear W0
      refine (HF.out _).mono ?_
      rintro e b1 he
      obtain ⟨xf, rfl, hof⟩ := he.out
      have hb := hof.below
      have HX0 := Lib.hid hof.at_
      have Z := Lib.hid (Z.out.on hb)
      have VA := Lib.hid (VA.out.on hb)
      have B := Lib.hid (B.out.trans (hb.mono B.out.size))
      clear he hof hb HF
      go_wp2_with fail
      refine (HFG.out _ _ HX0.out).mono ?_
      rintro e b2 ⟨gf, Af, cf, rfl, HGF, hb⟩
      have Z := Lib.hid (Z.out.on hb)
      have VA := Lib.hid (VA.out.on hb)
      have B := Lib.hid (B.out.trans (hb.mono B.out.size))
      clear hb  HX0 HFG
      go_wp2_with fail
      refine (HFO.out _ _ HGF.out).mono ?_
      rintro e b3 ⟨Ao, co, rfl, HI, _, hb⟩
      have Z := Lib.hid (Z.out.on hb)
      have VA := Lib.hid (VA.out.on hb)
      have B := Lib.hid (B.out.trans (hb.mono B.out.size))
      clear hb  HFO HGF
      go_wp2_with fail
      refine (HFS.out _ _ _ HI.out).mono ?_
      rintro e b4 ⟨rfl, hb⟩
      have Z := Lib.hid (Z.out.on hb)
      have VA := Lib.hid (VA.out.on hb)
      have B := Lib.hid (B.out.trans (hb.mono B.out.size))
      clear hb  HFS HI
      obtain ⟨p0, p1, p2, p3, p4⟩ := VA.out.box
      go_wp2_with fail
      refine (HGA.out _ _ VA.out.at_ Z.out).mono ?_
      rintro e b5 ⟨g, Ai, ci, rfl, HR, HIn, hci, hb⟩
      have Z := Lib.hid (Z.out.on hb)
      have VA := Lib.hid (VA.out.on hb)
      have B := Lib.hid (B.out.trans (hb.mono B.out.size))
      clear hb p0 p1 p2 p3 p4 HGA
      have HCi := Lib.hid hci.out
      clear Z
      go_wp2_with fail
      refine (HOu.out _ _ HR.out).mono ?_
      rintro e b6 ⟨Ao, co, rfl, HO, hb⟩
      have HR := Lib.hid (HR.out.on hb)
      have HIn := Lib.hid (HIn.out.on hb)
      have VA := Lib.hid (VA.out.on hb)
      have B := Lib.hid (B.out.trans (hb.mono B.out.size))
      clear hb  HOu
      go_wp2_with fail
      refine (HBe.out _ _ _ _ _ HO.out HIn.out HCi.out).mono ?_
      rintro e b7 ⟨rfl, hb⟩
      have HR := Lib.hid (HR.out.on hb)
      have HIn := Lib.hid (HIn.out.on hb)
      have HO := Lib.hid (HO.out.on hb)
      have VA := Lib.hid (VA.out.on hb)
      have B := Lib.hid (B.out.trans (hb.mono B.out.size))
      clear hb  HBe
      go_wp2_with fail
      refine (HSh.out _ _ HR.out).mono ?_
      rintro e b8 ⟨rfl, rfl⟩
      clear HR
      obtain ⟨p0, p1, p2, p3, p4⟩ := VA.out.box
      go_wp2_with fail
      refine (HAc.out _ _ _ _ VA.out.at_ HIn.out).mono ?_
      rintro e b9 ⟨rfl, hb⟩
      have HIn := Lib.hid (HIn.out.on hb)
      have HO := Lib.hid (HO.out.on hb)
      have VA := Lib.hid (VA.out.on hb)
      have B := Lib.hid (B.out.trans (hb.mono B.out.size))
      clear hb p0 p1 p2 p3 p4 HAc
      skip
      go_wp2
      go_loopw [13] (fun i wr => ∃ k : Nat, p + 1 ≤ k ∧ k ≤ n + 1 ∧ i = .int .i64 k ∧ Hid (Below b9.heap.size b9 wr)) (fun i _ => n + 1 - (intOf i).toNat)
      case atStart => exact ⟨p + 1, by omega, by omega, by go_num, Lib.hid (Below.refl _ _)⟩
      case round =>
        obtain ⟨k, hk1, hk2, rfl, HBw⟩ := hrel
        have VA := Lib.hid (VA.out.on HBw.out)
        have HIn := Lib.hid (HIn.out.on HBw.out)
        have B := Lib.hid (B.out.trans (HBw.out.mono B.out.size))
        by_cases hlt : k ≤ n
        · obtain ⟨q0, q1, q2, q3, q4⟩ := VA.out.box
          have HC := Lib.hid (HAu.out k hk1 hlt _ _ _ ci (VA.out.at_.on (Below.refl _ _).drew) (HIn.out.on (Below.refl _ _).drew))
          have e1 : (k : Int) ≤ (n : Int) := by omega
          have hcc := HCi.out
          have e2 : k ≤ ci := by omega
          have e3 : (k : Int) ≤ (ci : Int) := by omega
          clear VA HIn
          go_wp2_with fail
          go_region_with ((go_at_call 20; refine HC.out.mono ?_; rintro e w5 ⟨rfl, hb5⟩))
          all_goals
            have hdr : Below wr.heap.size wr wr.drew := (Below.refl _ _).drew
            have HB5 := Lib.hid (HBw.out.trans ((hdr.trans (hb5.mono hdr.size)).mono HBw.out.size))
            clear hb5 HC q0 q1 q2 q3 q4
            go_wp2
            go_roundw
            case rel => exact ⟨k + 1, by omega, by omega, by go_num, HB5⟩
            case measure => simp [intOf]; omega
        · obtain rfl : k = n + 1 := by omega
          have e1 : ¬ ((n + 1 : Nat) : Int) ≤ (n : Int) := by omega
          clear VA HIn HBw
          go_wp2
          go_ret
          exact ⟨rfl, B.out⟩
    · obtain rfl : p = n := by omega
      have hacc : accA d0 I = true := by have h := hp1 p (Nat.le_refl _); rwa [← hn, List.take_length] at h
      rw [hacc] at HAc
      rw [decide_eq_false hlt] at HSh
      have hn80 : p ≤ 80 := by omega
      clear hg hG1 hG2 hGk hp1 hp2 hIw gg hd hn hpl hacc hI80 hpn hlt
      obtain ⟨n, hpp⟩ : ∃ n, p = n := ⟨_, rfl⟩
      subst hpp
      go_enter Try.func5, Try.ntmps5
      go_wp2_with fail
      rw [← W0.out]
      clear W0
      refine (HF.out _).mono ?_
      rintro e b1 he
      obtain ⟨xf, rfl, hof⟩ := he.out
      have hb := hof.below
      have HX0 := Lib.hid hof.at_
      have Z := Lib.hid (Z.out.on hb)
      have VA := Lib.hid (VA.out.on hb)
      have B := Lib.hid (B.out.trans (hb.mono B.out.size))
      clear he hof hb HF
      go_wp2_with fail
      refine (HFG.out _ _ HX0.out).mono ?_
      rintro e b2 ⟨gf, Af, cf, rfl, HGF, hb⟩
      have Z := Lib.hid (Z.out.on hb)
      have VA := Lib.hid (VA.out.on hb)
      have B := Lib.hid (B.out.trans (hb.mono B.out.size))
      clear hb  HX0 HFG
      go_wp2_with fail
      refine (HFO.out _ _ HGF.out).mono ?_
      rintro e b3 ⟨Ao, co, rfl, HI, _, hb⟩
      have Z := Lib.hid (Z.out.on hb)
      have VA := Lib.hid (VA.out.on hb)
      have B := Lib.hid (B.out.trans (hb.mono B.out.size))
      clear hb  HFO HGF
      go_wp2_with fail
      refine (HFS.out _ _ _ HI.out).mono ?_
      rintro e b4 ⟨rfl, hb⟩
      have Z := Lib.hid (Z.out.on hb)
      have VA := Lib.hid (VA.out.on hb)
      have B := Lib.hid (B.out.trans (hb.mono B.out.size))
      clear hb  HFS HI
      obtain ⟨p0, p1, p2, p3, p4⟩ := VA.out.box
      go_wp2_with fail
      refine (HGA.out _ _ VA.out.at_ Z.out).mono ?_
      rintro e b5 ⟨g, Ai, ci, rfl, HR, HIn, hci, hb⟩
      have Z := Lib.hid (Z.out.on hb)
      have VA := Lib.hid (VA.out.on hb)
      have B := Lib.hid (B.out.trans (hb.mono B.out.size))
      clear hb p0 p1 p2 p3 p4 HGA
      have HCi := Lib.hid hci.out
      clear Z
      go_wp2_with fail
      refine (HOu.out _ _ HR.out).mono ?_
      rintro e b6 ⟨Ao, co, rfl, HO, hb⟩
      have HR := Lib.hid (HR.out.on hb)
      have HIn := Lib.hid (HIn.out.on hb)
      have VA := Lib.hid (VA.out.on hb)
      have B := Lib.hid (B.out.trans (hb.mono B.out.size))
      clear hb  HOu
      go_wp2_with fail
      refine (HBe.out _ _ _ _ _ HO.out HIn.out HCi.out).mono ?_
      rintro e b7 ⟨rfl, hb⟩
      have HR := Lib.hid (HR.out.on hb)
      have HIn := Lib.hid (HIn.out.on hb)
      have HO := Lib.hid (HO.out.on hb)
      have VA := Lib.hid (VA.out.on hb)
      have B := Lib.hid (B.out.trans (hb.mono B.out.size))
      clear hb  HBe
      go_wp2_with fail
      refine (HSh.out _ _ HR.out).mono ?_
      rintro e b8 ⟨rfl, rfl⟩
      clear HR
      obtain ⟨p0, p1, p2, p3, p4⟩ := VA.out.box
      go_wp2_with fail
      refine (HAc.out _ _ _ _ VA.out.at_ HIn.out).mono ?_
      rintro e b9 ⟨rfl, hb⟩
      have HIn := Lib.hid (HIn.out.on hb)
      have HO := Lib.hid (HO.out.on hb)
      have VA := Lib.hid (VA.out.on hb)
      have B := Lib.hid (B.out.trans (hb.mono B.out.size))
      clear hb p0 p1 p2 p3 p4 HAc
      skip
      go_wp2
      go_loopw [13] (fun i wr => ∃ k : Nat, p + 1 ≤ k ∧ k ≤ p + 1 ∧ i = .int .i64 k ∧ Hid (Below b9.heap.size b9 wr)) (fun i _ => p + 1 - (intOf i).toNat)
      case atStart => exact ⟨p + 1, by omega, by omega, by go_num, Lib.hid (Below.refl _ _)⟩
      case round =>
        obtain ⟨k, hk1, hk2, rfl, HBw⟩ := hrel
        have VA := Lib.hid (VA.out.on HBw.out)
        have HIn := Lib.hid (HIn.out.on HBw.out)
        have B := Lib.hid (B.out.trans (HBw.out.mono B.out.size))
        obtain rfl : k = p + 1 := by omega
        have e1 : ¬ ((p + 1 : Nat) : Int) ≤ (p : Int) := by omega
        clear VA HIn HBw
        go_wp2
        go_ret
        exact ⟨rfl, B.out⟩
  · have HGB := Lib.hid (fun W v (h : DfaAt W W.heap.size v d0) => gated_bad v d0 A1 z1.length c1 W h hg)
    clear hg
    go_enter Try.func5, Try.ntmps5
    go_wp2_with fail
    rw [← W0.out]
    clear W0
    refine (HF.out _).mono ?_
    rintro e b1 he
    obtain ⟨xf, rfl, hof⟩ := he.out
    have hb := hof.below
    have HX0 := Lib.hid hof.at_
    have Z := Lib.hid (Z.out.on hb)
    have VA := Lib.hid (VA.out.on hb)
    have B := Lib.hid (B.out.trans (hb.mono B.out.size))
    clear he hof hb HF
    go_wp2_with fail
    refine (HFG.out _ _ HX0.out).mono ?_
    rintro e b2 ⟨gf, Af, cf, rfl, HGF, hb⟩
    have Z := Lib.hid (Z.out.on hb)
    have VA := Lib.hid (VA.out.on hb)
    have B := Lib.hid (B.out.trans (hb.mono B.out.size))
    clear hb  HX0 HFG
    go_wp2_with fail
    refine (HFO.out _ _ HGF.out).mono ?_
    rintro e b3 ⟨Ao, co, rfl, HI, _, hb⟩
    have Z := Lib.hid (Z.out.on hb)
    have VA := Lib.hid (VA.out.on hb)
    have B := Lib.hid (B.out.trans (hb.mono B.out.size))
    clear hb  HFO HGF
    go_wp2_with fail
    refine (HFS.out _ _ _ HI.out).mono ?_
    rintro e b4 ⟨rfl, hb⟩
    have Z := Lib.hid (Z.out.on hb)
    have VA := Lib.hid (VA.out.on hb)
    have B := Lib.hid (B.out.trans (hb.mono B.out.size))
    clear hb  HFS HI
    obtain ⟨p0, p1, p2, p3, p4⟩ := VA.out.box
    go_wp2_with fail
    refine (HGB.out _ _ VA.out.at_).mono ?_
    rintro e b5 ⟨rfl, hb⟩
    have Z := Lib.hid (Z.out.on hb)
    have VA := Lib.hid (VA.out.on hb)
    have B := Lib.hid (B.out.trans (hb.mono B.out.size))
    clear hb p0 p1 p2 p3 p4 HGB
    go_wp2
    go_ret
    exact ⟨rfl, B.out⟩


set_option maxRecDepth 100000 in
theorem lifted (os : Os) (started : os.Started) (H : Type) (enc : TypeId × Value → H) :
    ReturnsInHanded {} Try.checked os 5 .any (Rows.gateClearSpec.pre6 enc Try.prog Try.f5 Rows.gateClearRow.domain false) (Rows.gateClearSpec.post enc Try.prog Try.f5 false true false false) := by
  refine returnsInHanded_of_change_sized (C := Try.checked) own started (by kernel_rfl) Try.func5
    (ChangeSpec.witness6 (enc := enc) (C := Try.checked) false ⟨#[], #[.agg #[.int .i64 0, .int .i64 0, .slice none 0 0, .slice none 0 0], .slice none 0 0], []⟩ 8 (by kernel_rfl) (by kernel_rfl) (by kernel_rfl) (by kernel_rfl)) ?_
  intro W base args ds gs before hval0 hW hcnd hsz0 _
  have hval : ∀ (j : Nat) t v, Try.f5.params[j]? = some t → args[j]? = some v → Value.okWide Try.prog W .any base t v := hval0
  have hsz : (DataW.weightsEach Try.prog (Try.f5.params.toList ++ Rows.gateClearSpec.plain.varTypes Try.prog) (ds ++ gs)).all (· ≤ reachBytes) = true := hsz0
  have hW' := hW
  obtain ⟨p, q, hA0, hV0, rfl, hfz, hnd⟩ := hW
  have hV : DataW.TrodVars enc Try.prog W (fun _ => true) [] gs q := hV0
  have hA : DataW.TrodAll enc Try.prog W 0 (fun _ => true) true Try.f5.params.toList args.toList ds p := hA0
  rw [Try.params5] at hA hval hsz
  obtain ⟨v0, vs0, d0, ds0, p0, q0, hargs, rfl, rfl, h0, rr0⟩ := trodAll_cons hA
  obtain ⟨v1, vs1, d1, ds1, p1, q1, rfl, rfl, rfl, h1, rr1⟩ := trodAll_cons rr0
  obtain ⟨rfl, rfl, rfl⟩ := trodAll_nil rr1
  obtain rfl : args = #[v0, v1] := by cases args; simp_all
  obtain ⟨rfl, rfl⟩ := trodVars_none hV
  have k0 := h0
  have lt0 : ∀ x ∈ p0, x.block < W.heap.size := by obtain ⟨m, hm⟩ := k0; exact DataW.trod_lt m _ _ _ hm
  have k1 := h1
  have lt1 : ∀ x ∈ p1, x.block < W.heap.size := by obtain ⟨m, hm⟩ := k1; exact DataW.trod_lt m _ _ _ hm
  obtain ⟨D0, x0⟩ : ∃ d : Df.Aut, Df.DfaAt W W.heap.size v0 d := Df.dfa_open (hval 0 25 v0 rfl rfl) h0
  obtain ⟨A1, len1, c1, rfl⟩ := okWide_slice Try.underlying33 (hval 1 33 v1 rfl rfl)
  obtain ⟨z1, rfl, x1, r1, m1⟩ : ∃ zs : List Int, len1 = zs.length ∧ IntsAt W W.heap.size A1 zs ∧ zs.length ≤ 17592186043904 ∧ zs.length ≤ c1 := by
    obtain ⟨fuel, hf⟩ := h1
    rcases open_ints Try.underlying33 Try.underlying3 (by kernel_rfl) hf with ⟨hcs, _⟩ | ⟨x, l, c, zs, hcs, _, hl, hm, hz, hx, hcell, hwz⟩
    · simp [Value.cells] at hcs
      obtain ⟨rfl, rfl, rfl⟩ := hcs
      exact ⟨[], rfl, IntsAt.nil _ _ _, by simp, by simp⟩
    · simp [Value.cells] at hcs
      obtain ⟨rfl, rfl, rfl⟩ := hcs
      have hd := congrArg Prod.fst hx
      simp only at hd
      have := sized_slice hsz (j := 1) (t := 33) (e := 3) rfl (by rw [hd]; rfl) Try.underlying33
      rw [(show Try.prog.bytesOf 3 = 8 by kernel_rfl)] at this
      simp only [reachBytes, lits, List.length_map, List.length_take, List.length_drop] at this
      have hz' : zs.length = c1 := by simpa using hz
      exact ⟨zs.take len1, by rw [List.length_take]; omega, intsAt_of_open hcell hwz len1, by rw [List.length_take]; omega, by rw [List.length_take]; omega⟩
  clear hA0 hval0
  refine (walk v0 D0 A1 c1 z1 W x0 x1 r1 m1).mono fun e W' ⟨he, bel⟩ => ?_
  subst he
  exact ⟨_, rfl, _, _, _, [], _, [], hW', trodAll_mk1 (shut_bool Try.underlying4 _), (trodAll_cons_mk (Below.trod laidOut (by kernel_rfl) (of_decide_eq_true (by kernel_rfl)) k0 bel lt0) (trodAll_cons_mk (Below.trod laidOut (by kernel_rfl) (of_decide_eq_true (by kernel_rfl)) k1 bel lt1) trodAll_mk0)), rfl, bel.frame _, fun h => by cases h⟩

theorem over : Rows.gateClearRow.holds Try.pinned (OpenSpec.ofChange Rows.gateClearSpec) :=
  OpenClaim.holds_of_wide 5 Try.f5 rfl rfl rfl rfl rfl rfl rfl ⟨rfl, rfl, rfl, rfl, rfl⟩ rfl rfl rfl rfl rfl (by kernel_rfl) Try.func5 (by kernel_rfl)
    (of_decide_eq_true (by kernel_rfl)) (by unfold Func.isWrapper; rw [if_neg (of_decide_eq_false (by kernel_rfl))]; exact ⟨rfl, rfl⟩)
    (fun os started H enc _ => lifted os started H enc)
theorem proved : Rows.GateClearSaid := over
#print axioms proved
end Go.Proofs.Ytciopfiddfmckaa.gateClear
