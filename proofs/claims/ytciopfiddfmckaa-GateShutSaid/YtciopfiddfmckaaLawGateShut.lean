/-
  The statement GateShutSaid of this seat, proved: for every input the law returns true and its arguments read behind the call as before. Conditions: none but the row's own (each argument within the reach).
-/
import Derived.Test.YtciopfiddfmckaaRows
import Derived.Test.YtciopfiddfmckaaWords
import Derived.WalkKit
import Derived.ProofKit
import Derived.OpenShut
import Derived.ShutString
import Derived.ChangeOld
import Derived.Below
import Derived.SizedLaws
import Derived.Lib.Hide
import Derived.Test.YtciopfiddfmckaaGateL
namespace Go.Proofs.Ytciopfiddfmckaa.gateShut
open Go.ChangeShapes Go.WideShapes Go.ChangeAt Go.RowKit Go.IntWalk Go.Proofs.Ytciopfiddfmckaa.Wd
open Go.ChangeMaps (open_string shut_string)
set_option linter.unusedVariables false

theorem own : ownKnob Try.prog.godebug = none := by kernel_rfl
theorem laidOut : laidOutB Try.prog = true := by kernel_rfl
open Go.Proofs.Ytciopfiddfmckaa.Wo Go.Proofs.Ytciopfiddfmckaa.Df Go.Proofs.Ytciopfiddfmckaa.Rc Go.Proofs.Ytciopfiddfmckaa.Sm Go.Proofs.Ytciopfiddfmckaa.Sa Go.Proofs.Ytciopfiddfmckaa.Ga
set_option linter.unusedSimpArgs false in

set_option maxRecDepth 100000 in
set_option maxHeartbeats 4000000 in
theorem walk (v0 : Value) (d0 : Df.Aut) (A1 : Option Addr) (c1 : Nat) (z1 : List Int) (A2 : Option Addr) (c2 : Nat) (z2 : List Int) (w : World) (h0 : Df.DfaAt w w.heap.size v0 d0) (v1 : IntsAt w w.heap.size A1 z1) (r1 : z1.length ≤ 17592186043904) (m1 : z1.length ≤ c1) (v2 : IntsAt w w.heap.size A2 z2) (r2 : z2.length ≤ 17592186043904) (m2 : z2.length ≤ c2) :
    Calls Try.prog 6 #[v0, .slice A1 z1.length c1, .slice A2 z2.length c2] w fun e w' => e = .returned (.bool true) ∧ Below w.heap.size w w' := by
  have hr : z1.length ≤ 17592186044416 := by omega
  obtain ⟨L0, s0, A0, n0, c0, F0, m0, k0, rfl⟩ := h0.form
  have hN0 := h0.eqs.2.2.1
  have heL := h0.eqs.1
  obtain ⟨b0, hu0, hb0, VA0⟩ := var_new w h0
  have VA := Lib.hid VA0
  have B := Lib.hid hb0
  have W0 := Lib.hid hu0
  have HN0 := Lib.hid hN0
  have Z := Lib.hid (v1.on hb0)
  have Y := Lib.hid (v2.on hb0)
  clear VA0 hb0 hu0 h0 hN0 v1 v2
  clear m1 r1 m2 HN0
  have HF := Lib.hid few_any
  have HFG := Lib.hid few_gated
  by_cases hg : gchk d0 = 0
  · have gg := gchk_iff.1 hg
    have hd := gg.good
    have hGk := gok_offers (gok_start gg) (z1.take 80)
    have HGA := Lib.hid (fun W v (h : DfaAt W W.heap.size v d0) (hZ : IntsAt W W.heap.size A1 z1) => gated_gives (c := c1) h hZ hr gg)
    generalize offers d0 (gate0 d0) (z1.take 80) = G at *
    have HSh := Lib.hid (fun W g (h : GateR W g d0 G) => rshut_gives h)
    generalize (lets d0 (z1.take 80)).length = il at *
    generalize lets d0 (z1.take 80) = I at *
    rcases hsh : G.shut with _ | _
    · rw [hsh] at HSh
      clear hg gg hd hGk hsh
      go_enter Try.func6, Try.ntmps6
      go_wp2_with fail
      rw [← W0.out]
      clear W0
      refine (HF.out _).mono ?_
      rintro e b1 he
      obtain ⟨xf, rfl, hof⟩ := he.out
      have hb := hof.below
      have HX0 := Lib.hid hof.at_
      have Z := Lib.hid (Z.out.on hb)
      have Y := Lib.hid (Y.out.on hb)
      have VA := Lib.hid (VA.out.on hb)
      have B := Lib.hid (B.out.trans (hb.mono B.out.size))
      clear he hof hb HF
      go_wp2_with fail
      refine (HFG.out _ _ HX0.out).mono ?_
      rintro e b2 ⟨gf, Af, cf, rfl, HGF, hb⟩
      have Z := Lib.hid (Z.out.on hb)
      have Y := Lib.hid (Y.out.on hb)
      have VA := Lib.hid (VA.out.on hb)
      have B := Lib.hid (B.out.trans (hb.mono B.out.size))
      clear hb  HX0 HFG
      go_wp2_with fail
      refine (rshut_gives HGF.out).mono ?_
      rintro e b3 ⟨rfl, rfl⟩
      clear HGF
      obtain ⟨p0, p1, p2, p3, p4⟩ := VA.out.box
      go_wp2_with fail
      refine (HGA.out _ _ VA.out.at_ Z.out).mono ?_
      rintro e b4 ⟨g, Ai, ci, rfl, HR, _, _, hb⟩
      have Z := Lib.hid (Z.out.on hb)
      have Y := Lib.hid (Y.out.on hb)
      have VA := Lib.hid (VA.out.on hb)
      have B := Lib.hid (B.out.trans (hb.mono B.out.size))
      clear hb p0 p1 p2 p3 p4 HGA
      clear Z
      go_wp2_with fail
      refine (HSh.out _ _ HR.out).mono ?_
      rintro e b5 ⟨rfl, rfl⟩
      go_wp2
      go_ret
      exact ⟨rfl, B.out⟩
    · rw [hsh] at HSh
      have HSt : Hid (∀ W g, GateR W g d0 G → ∀ a, Small a → Calls Try.prog 21 #[.pointer (some ⟨g, 0, none⟩), .int .i64 a] W fun e w' => e = .returned (.tuple #[.bool false, errV (if isL d0 a = true then 0 else 1)]) ∧ Below W.heap.size W w') := fun W g h a ha => rstill_gives h hd hsh ha
      obtain ⟨n, hn⟩ : ∃ n, G.out.length = n := ⟨_, rfl⟩
      have hn8 := hGk.len
      have HOu : Hid (∀ W g, GateR W g d0 G → Calls Try.prog 18 #[.pointer (some ⟨g, 0, none⟩)] W fun e w' => ∃ A c, e = .returned (.slice A n c) ∧ Hid (IntsAt w' w'.heap.size A G.out) ∧ Below W.heap.size W w') := fun W g h => (rout_gives h hd hGk).mono fun e w' ⟨A, c, k1, k2, _, k3⟩ => by
        rw [hn] at k1
        exact ⟨A, c, k1, k2, k3⟩
      have HIn : Hid (∀ W A B ca cb, IntsAt W W.heap.size A G.out → IntsAt W W.heap.size B G.out → Calls Try.prog 17 #[.slice A n ca, .slice B n cb] W fun e w' => e = .returned (.bool true) ∧ Below W.heap.size W w') := fun W A B ca cb k1 k2 => by
        have h := same_ints (ca := ca) (cb := cb) k1 k2 (by omega)
        rwa [hn] at h
      have HLL := Lib.hid heL
      obtain ⟨yl, hyl⟩ : ∃ yl, z2.length = yl := ⟨_, rfl⟩
      rw [hyl]
      have HYL := Lib.hid hyl
      clear hg gg hd hGk hsh hn hn8 hyl heL
      go_enter Try.func6, Try.ntmps6
      go_wp2_with fail
      rw [← W0.out]
      clear W0
      refine (HF.out _).mono ?_
      rintro e b1 he
      obtain ⟨xf, rfl, hof⟩ := he.out
      have hb := hof.below
      have HX0 := Lib.hid hof.at_
      have Z := Lib.hid (Z.out.on hb)
      have Y := Lib.hid (Y.out.on hb)
      have VA := Lib.hid (VA.out.on hb)
      have B := Lib.hid (B.out.trans (hb.mono B.out.size))
      clear he hof hb HF
      go_wp2_with fail
      refine (HFG.out _ _ HX0.out).mono ?_
      rintro e b2 ⟨gf, Af, cf, rfl, HGF, hb⟩
      have Z := Lib.hid (Z.out.on hb)
      have Y := Lib.hid (Y.out.on hb)
      have VA := Lib.hid (VA.out.on hb)
      have B := Lib.hid (B.out.trans (hb.mono B.out.size))
      clear hb  HX0 HFG
      go_wp2_with fail
      refine (rshut_gives HGF.out).mono ?_
      rintro e b3 ⟨rfl, rfl⟩
      clear HGF
      obtain ⟨p0, p1, p2, p3, p4⟩ := VA.out.box
      go_wp2_with fail
      refine (HGA.out _ _ VA.out.at_ Z.out).mono ?_
      rintro e b4 ⟨g, Ai, ci, rfl, HR, _, _, hb⟩
      have Z := Lib.hid (Z.out.on hb)
      have Y := Lib.hid (Y.out.on hb)
      have VA := Lib.hid (VA.out.on hb)
      have B := Lib.hid (B.out.trans (hb.mono B.out.size))
      clear hb p0 p1 p2 p3 p4 HGA
      clear Z
      go_wp2_with fail
      refine (HSh.out _ _ HR.out).mono ?_
      rintro e b5 ⟨rfl, rfl⟩
      go_wp2_with fail
      refine (HOu.out _ _ HR.out).mono ?_
      rintro e b6 ⟨Ao, co, rfl, HO, hb⟩
      have Y := Lib.hid (Y.out.on hb)
      have HR := Lib.hid (HR.out.on hb)
      have VA := Lib.hid (VA.out.on hb)
      have B := Lib.hid (B.out.trans (hb.mono B.out.size))
      clear hb  
      go_wp2
      go_loopw [13] (fun i wr => ∃ k : Nat, k ≤ yl ∧ k ≤ 100 ∧ i = .int .i64 k ∧ Hid (Below b6.heap.size b6 wr)) (fun i _ => 100 - (intOf i).toNat)
      case atStart => exact ⟨0, by omega, by omega, rfl, Lib.hid (Below.refl _ _)⟩
      case round =>
        obtain ⟨k, hk, hk1, rfl, HBw⟩ := hrel
        have VA := Lib.hid (VA.out.on HBw.out)
        have HR := Lib.hid (HR.out.on HBw.out)
        have HO := Lib.hid (HO.out.on HBw.out)
        have Y := Lib.hid (Y.out.on HBw.out)
        have B := Lib.hid (B.out.trans (HBw.out.mono B.out.size))
        by_cases hlt : k < yl
        · by_cases h8 : k < 100
          · have hkz : k < z2.length := by rw [HYL.out]; exact hlt
            obtain ⟨ada, rfl, hab, hac, _⟩ := Y.out.get (List.getElem?_eq_getElem hkz)
            have hsa : Small z2[k] := Y.out.2 _ (List.getElem_mem hkz)
            have HK0 : Hid (z2[k]? = some z2[k]) := List.getElem?_eq_getElem hkz
            have e1 : (k : Int) < (yl : Int) := by omega
            have e2 : (k : Int) < 100 := by omega
            have HOf := Lib.hid (HSt.out _ _ HR.out z2[k] hsa)
            generalize z2[k] = a at *
            clear hkz hab hsa
            have hway : isL d0 a = true ∧ 0 ≤ a ∧ a < L0 ∨ isL d0 a = false ∧ a < 0 ∨ isL d0 a = false ∧ 0 ≤ a ∧ L0 ≤ a := by
              have hL := HLL.out
              rcases hl : isL d0 a with _ | _
              · by_cases h0 : a < 0
                · exact .inr (.inl ⟨rfl, h0⟩)
                · refine .inr (.inr ⟨rfl, by omega, ?_⟩)
                  rw [← hL]
                  exact Int.not_lt.1 fun h1 => by rw [isL_iff.2 ⟨by omega, h1⟩] at hl; cases hl
              · have h := isL_iff.1 hl
                rw [hL] at h
                exact .inl ⟨rfl, h.1, h.2⟩
            rcases hway with ⟨hl, hw1, hw2⟩ | ⟨hl, hw1⟩ | ⟨hl, hw1, hw2⟩
            · rw [hl] at HOf
              go_wp2_with fail
              refine HOf.out.mono ?_
              rintro e w5 ⟨he, hb⟩
              obtain rfl : e = .returned (.tuple #[.bool false, .nilIface]) := he
              have HR := Lib.hid (HR.out.on hb)
              have HO := Lib.hid (HO.out.on hb)
              have Y := Lib.hid (Y.out.on hb)
              have VA := Lib.hid (VA.out.on hb)
              have HBw := Lib.hid (HBw.out.trans (hb.mono HBw.out.size))
              obtain ⟨ada2, e5, _, hac2, _⟩ := Y.out.get HK0.out
              obtain rfl := Option.some.inj e5
              clear e5 hb HOf hac hl
              have HK : Hid (∀ W, Below w5.heap.size w5 W → W.cell? (ada.add k) = some (.int .i64 a) ∧ W.cell? ⟨w.heap.size, 0, none⟩ = some (.int .i64 L0)) := fun W hW => by
                obtain ⟨ad3, e6, _, h7, _⟩ := (Y.out.on hW).get HK0.out
                obtain rfl := Option.some.inj e6
                exact ⟨h7, (VA.out.box.on hW).c0⟩
              have HD : Hid (Below w5.heap.size w5 w5.drew) := (Below.refl _ _).drew
              have t1 : decide (0 ≤ a) = true := decide_eq_true hw1
              have t2 : decide (a < L0) = true := decide_eq_true hw2
              clear hac2
              go_wp2_with fail
              go_region_held3 (fun W => W.cell? (ada.add k) = some (.int .i64 a) ∧ W.cell? ⟨w.heap.size, 0, none⟩ = some (.int .i64 L0))
                (first | exact HK.out _ HB7.out | exact HK.out _ HB6.out | exact HK.out _ HD.out)
                (first | (go_at_call 17; refine (HIn.out _ _ _ _ _ HI6.out (HO.out.on HB6.out)).mono ?_; rintro e w7 ⟨rfl, hb⟩; have HB7 := Lib.hid (HB6.out.trans (hb.mono HB6.out.size)); clear hb) | (go_at_call 18; refine (HOu.out _ _ (HR.out.on HD.out)).mono ?_; rintro e w6 ⟨A6, c6, rfl, HI6, hb⟩; have HB6 := Lib.hid (HD.out.trans (hb.mono HD.out.size)); clear hb) | (go_at_call 23; refine (HSh.out _ _ (HR.out.on HD.out)).mono ?_; rintro e w8 ⟨rfl, rfl⟩))
              all_goals
                have HBn := Lib.hid (HBw.out.trans (HB7.out.mono HBw.out.size))
                clear HB6 HB7 HI6 HK HD HR HO VA Y HBw
                go_wp2
                go_roundw
                case rel => exact ⟨k + 1, by omega, by omega, by go_num, HBn⟩
                case measure => simp [intOf]; omega
            · rw [hl] at HOf
              go_wp2_with fail
              refine HOf.out.mono ?_
              rintro e w5 ⟨he, hb⟩
              obtain rfl : e = .returned (.tuple #[.bool false, errI 1]) := he
              have HR := Lib.hid (HR.out.on hb)
              have HO := Lib.hid (HO.out.on hb)
              have Y := Lib.hid (Y.out.on hb)
              have VA := Lib.hid (VA.out.on hb)
              have HBw := Lib.hid (HBw.out.trans (hb.mono HBw.out.size))
              obtain ⟨ada2, e5, _, hac2, _⟩ := Y.out.get HK0.out
              obtain rfl := Option.some.inj e5
              clear e5 hb HOf hac hl
              have HK : Hid (∀ W, Below w5.heap.size w5 W → W.cell? (ada.add k) = some (.int .i64 a) ∧ W.cell? ⟨w.heap.size, 0, none⟩ = some (.int .i64 L0)) := fun W hW => by
                obtain ⟨ad3, e6, _, h7, _⟩ := (Y.out.on hW).get HK0.out
                obtain rfl := Option.some.inj e6
                exact ⟨h7, (VA.out.box.on hW).c0⟩
              have HD : Hid (Below w5.heap.size w5 w5.drew) := (Below.refl _ _).drew
              have t1 : decide (0 ≤ a) = false := decide_eq_false (by omega)
              clear hac2
              go_wp2_with fail
              refine wp_region_held_drew (S := fun W => W.cell? (ada.add k) = some (.int .i64 a) ∧ W.cell? ⟨w.heap.size, 0, none⟩ = some (.int .i64 L0)) (by kernel_rfl) (HK.out _ HD.out) (fun hHeld => ?_)
              refine wpAnyH_takeD (some 65) (i := 0) (v := ?_) rfl rfl (by kernel_rfl) (by kernel_rfl) (by kernel_rfl) (fun _ _ _ h => h) (Or.inl ⟨by rfl, ?_⟩) hHeld ?_
              rotate_left
              · (go_light; intro w9 hSw; (try dsimp only at hSw); go_simp; try with_reducible rfl)
              try simp only [Act.put, List.setIfInBounds_toArray, List.set_cons_zero, List.set_cons_succ]
              refine wpAnyH_takeD (some 66) (i := 1) (v := ?_) rfl rfl (by kernel_rfl) (by kernel_rfl) (by kernel_rfl) (fun _ _ _ h => h) (Or.inl ⟨by rfl, ?_⟩) hHeld ?_
              rotate_left
              · (go_light; intro w9 hSw; (try dsimp only at hSw); go_simp; try with_reducible rfl)
              try simp only [Act.put, List.setIfInBounds_toArray, List.set_cons_zero, List.set_cons_succ]
              refine wpAnyH_takeD (some 67) (i := 2) (v := ?_) rfl rfl (by kernel_rfl) (by kernel_rfl) (by kernel_rfl) (fun _ _ _ h => h) (Or.inl ⟨by rfl, ?_⟩) hHeld ?_
              rotate_left
              · (go_light; intro w9 hSw; (try dsimp only at hSw); go_simp; try with_reducible rfl)
              try simp only [Act.put, List.setIfInBounds_toArray, List.set_cons_zero, List.set_cons_succ]
              refine wpAnyH_ready (rs := [3]) (by kernel_rfl) (by simp) ?_
              refine AllReadyH.cons (i := 3) rfl (fun K hK => ?_) AllReadyH.nil
              go_simp
              refine (HSh.out _ _ (HR.out.on HD.out)).mono ?_
              rintro e w8 ⟨rfl, rfl⟩
              try simp only []
              refine hK.out _ _ (HK.out _ HD.out) (fun hHeld9 => ?_)
              replace hHeld := hHeld9
              clear hHeld9
              clear hK K
              try simp only [Act.put, List.setIfInBounds_toArray, List.set_cons_zero, List.set_cons_succ]
              refine wpAnyH_takeD (some 69) (i := 4) (v := ?_) rfl rfl (by kernel_rfl) (by kernel_rfl) (by kernel_rfl) (fun _ _ _ h => h) (Or.inl ⟨by rfl, ?_⟩) hHeld ?_
              rotate_left
              · (go_light; intro w9 hSw; (try dsimp only at hSw); go_simp; try with_reducible rfl)
              try simp only [Act.put, List.setIfInBounds_toArray, List.set_cons_zero, List.set_cons_succ]
              refine wpAnyH_takeD (some 70) (i := 5) (v := ?_) rfl rfl (by kernel_rfl) (by kernel_rfl) (by kernel_rfl) (fun _ _ _ h => h) (Or.inl ⟨by rfl, ?_⟩) hHeld ?_
              rotate_left
              · (go_light; intro w9 hSw; (try dsimp only at hSw); go_simp; try with_reducible rfl)
              try simp only [Act.put, List.setIfInBounds_toArray, List.set_cons_zero, List.set_cons_succ]
              refine wpAnyH_takeD (some 71) (i := 6) (v := ?_) rfl rfl (by kernel_rfl) (by kernel_rfl) (by kernel_rfl) (fun _ _ _ h => h) (Or.inl ⟨by rfl, ?_⟩) hHeld ?_
              rotate_left
              · (go_light; intro w9 hSw; (try dsimp only at hSw); go_simp; try with_reducible rfl)
              try simp only [Act.put, List.setIfInBounds_toArray, List.set_cons_zero, List.set_cons_succ]
              refine wpAnyH_takeD (some 72) (i := 7) (v := ?_) rfl rfl (by kernel_rfl) (by kernel_rfl) (by kernel_rfl) (fun _ _ _ h => h) (Or.inl ⟨by rfl, ?_⟩) hHeld ?_
              rotate_left
              · (go_light; intro w9 hSw; (try dsimp only at hSw); go_simp; try with_reducible rfl)
              try simp only [Act.put, List.setIfInBounds_toArray, List.set_cons_zero, List.set_cons_succ]
              refine wpAnyH_takeD (some 74) (i := 9) (v := ?_) rfl rfl (by kernel_rfl) (by kernel_rfl) (by kernel_rfl) (fun _ _ _ h => h) (Or.inl ⟨by rfl, ?_⟩) hHeld ?_
              rotate_left
              · (go_light; intro w9 hSw; (try dsimp only at hSw); go_simp; try with_reducible rfl)
              try simp only [Act.put, List.setIfInBounds_toArray, List.set_cons_zero, List.set_cons_succ]
              refine wpAnyH_ready (rs := [8]) (by kernel_rfl) (by simp) ?_
              refine AllReadyH.cons (i := 8) rfl (fun K hK => ?_) AllReadyH.nil
              go_simp
              refine (HOu.out _ _ (HR.out.on HD.out)).mono ?_
              rintro e w6 ⟨A6, c6, rfl, HI6, hb⟩
              have HB6 := Lib.hid (HD.out.trans (hb.mono HD.out.size))
              clear hb
              try simp only []
              refine hK.out _ _ (HK.out _ HB6.out) (fun hHeld9 => ?_)
              replace hHeld := hHeld9
              clear hHeld9
              clear hK K
              try simp only [Act.put, List.setIfInBounds_toArray, List.set_cons_zero, List.set_cons_succ]
              refine wpAnyH_ready (rs := [10]) (by kernel_rfl) (by simp) ?_
              refine AllReadyH.cons (i := 10) rfl (fun K hK => ?_) AllReadyH.nil
              go_simp
              refine (HIn.out _ _ _ _ _ HI6.out (HO.out.on HB6.out)).mono ?_
              rintro e w7 ⟨rfl, hb⟩
              have HB7 := Lib.hid (HB6.out.trans (hb.mono HB6.out.size))
              clear hb
              try simp only []
              refine hK.out _ _ (HK.out _ HB7.out) (fun hHeld9 => ?_)
              replace hHeld := hHeld9
              clear hHeld9
              clear hK K
              try simp only [Act.put, List.setIfInBounds_toArray, List.set_cons_zero, List.set_cons_succ]
              refine wpAnyH_takeD (some 76) (i := 11) (v := ?_) rfl rfl (by kernel_rfl) (by kernel_rfl) (by kernel_rfl) (fun _ _ _ h => h) (Or.inl ⟨by rfl, ?_⟩) hHeld ?_
              rotate_left
              · (go_light; intro w9 hSw; (try dsimp only at hSw); go_simp; try with_reducible rfl)
              try simp only [Act.put, List.setIfInBounds_toArray, List.set_cons_zero, List.set_cons_succ]
              refine wpAnyH_takeD (some 77) (i := 12) (v := ?_) rfl rfl (by kernel_rfl) (by kernel_rfl) (by kernel_rfl) (fun _ _ _ h => h) (Or.inl ⟨by rfl, ?_⟩) hHeld ?_
              rotate_left
              · (go_light; intro w9 hSw; (try dsimp only at hSw); go_simp; try with_reducible rfl)
              try simp only [Act.put, List.setIfInBounds_toArray, List.set_cons_zero, List.set_cons_succ]
              refine wpAnyH_takeD (some 78) (i := 13) (v := ?_) rfl rfl (by kernel_rfl) (by kernel_rfl) (by kernel_rfl) (fun _ _ _ h => h) (Or.inl ⟨by rfl, ?_⟩) hHeld ?_
              rotate_left
              · (go_light; intro w9 hSw; (try dsimp only at hSw); go_simp; try with_reducible rfl)
              try simp only [Act.put, List.setIfInBounds_toArray, List.set_cons_zero, List.set_cons_succ]
              refine wpAnyH_takeD (some 79) (i := 14) (v := ?_) rfl rfl (by kernel_rfl) (by kernel_rfl) (by kernel_rfl) (fun _ _ _ h => h) (Or.inl ⟨by rfl, ?_⟩) hHeld ?_
              rotate_left
              · (go_light; intro w9 hSw; (try dsimp only at hSw); go_simp; try with_reducible rfl)
              try simp only [Act.put, List.setIfInBounds_toArray, List.set_cons_zero, List.set_cons_succ]
              refine wpAnyH_takeD (some 80) (i := 15) (v := ?_) rfl rfl (by kernel_rfl) (by kernel_rfl) (by kernel_rfl) (fun _ _ _ h => h) (Or.inl ⟨by rfl, ?_⟩) hHeld ?_
              rotate_left
              · (go_light; intro w9 hSw; (try dsimp only at hSw); go_simp; try with_reducible rfl)
              try simp only [Act.put, List.setIfInBounds_toArray, List.set_cons_zero, List.set_cons_succ]
              refine wpAnyH_takeD (some 81) (i := 16) (v := ?_) rfl rfl (by kernel_rfl) (by kernel_rfl) (by kernel_rfl) (fun _ _ _ h => h) (Or.inl ⟨by rfl, ?_⟩) hHeld ?_
              rotate_left
              · (go_light; intro w9 hSw; (try dsimp only at hSw); go_simp; try with_reducible rfl)
              try simp only [Act.put, List.setIfInBounds_toArray, List.set_cons_zero, List.set_cons_succ]
              refine wpAnyH_takeD (some 82) (i := 17) (v := ?_) rfl rfl (by kernel_rfl) (by kernel_rfl) (by kernel_rfl) (fun _ _ _ h => h) (Or.inl ⟨by rfl, ?_⟩) hHeld ?_
              rotate_left
              · (go_light; intro w9 hSw; (try dsimp only at hSw); go_simp; try with_reducible rfl)
              try simp only [Act.put, List.setIfInBounds_toArray, List.set_cons_zero, List.set_cons_succ]
              refine wpAnyH_takeD (some 83) (i := 18) (v := ?_) rfl rfl (by kernel_rfl) (by kernel_rfl) (by kernel_rfl) (fun _ _ _ h => h) (Or.inl ⟨by rfl, ?_⟩) hHeld ?_
              rotate_left
              · (go_light; intro w9 hSw; (try dsimp only at hSw); go_simp; try with_reducible rfl)
              try simp only [Act.put, List.setIfInBounds_toArray, List.set_cons_zero, List.set_cons_succ]
              refine wpAnyH_takeD (some 84) (i := 19) (v := ?_) rfl rfl (by kernel_rfl) (by kernel_rfl) (by kernel_rfl) (fun _ _ _ h => h) (Or.inl ⟨by rfl, ?_⟩) hHeld ?_
              rotate_left
              · (go_light; intro w9 hSw; (try dsimp only at hSw); go_simp; try with_reducible rfl)
              try simp only [Act.put, List.setIfInBounds_toArray, List.set_cons_zero, List.set_cons_succ]
              refine wpAnyH_takeD (some 85) (i := 20) (v := ?_) rfl rfl (by kernel_rfl) (by kernel_rfl) (by kernel_rfl) (fun _ _ _ h => h) (Or.inl ⟨by rfl, ?_⟩) hHeld ?_
              rotate_left
              · (go_light; intro w9 hSw; (try dsimp only at hSw); go_simp; try with_reducible rfl)
              try simp only [Act.put, List.setIfInBounds_toArray, List.set_cons_zero, List.set_cons_succ]
              refine wpAnyH_takeD (some 86) (i := 21) (v := ?_) rfl rfl (by kernel_rfl) (by kernel_rfl) (by kernel_rfl) (fun _ _ _ h => h) (Or.inl ⟨by rfl, ?_⟩) hHeld ?_
              rotate_left
              · (go_light; intro w9 hSw; (try dsimp only at hSw); go_simp; try with_reducible rfl)
              try simp only [Act.put, List.setIfInBounds_toArray, List.set_cons_zero, List.set_cons_succ]
              refine wpAnyH_takeD (some 87) (i := 22) (v := undef) rfl rfl (by kernel_rfl) (by kernel_rfl) (by kernel_rfl) (fun _ _ _ h => h) (Or.inr ⟨by rfl, rfl⟩) hHeld ?_
              try simp only [Act.put, List.setIfInBounds_toArray, List.set_cons_zero, List.set_cons_succ]
              refine wpAnyH_takeD (some 88) (i := 23) (v := undef) rfl rfl (by kernel_rfl) (by kernel_rfl) (by kernel_rfl) (fun _ _ _ h => h) (Or.inr ⟨by rfl, rfl⟩) hHeld ?_
              try simp only [Act.put, List.setIfInBounds_toArray, List.set_cons_zero, List.set_cons_succ]
              refine wpAnyH_takeD (some 89) (i := 24) (v := undef) rfl rfl (by kernel_rfl) (by kernel_rfl) (by kernel_rfl) (fun _ _ _ h => h) (Or.inr ⟨by rfl, rfl⟩) hHeld ?_
              try simp only [Act.put, List.setIfInBounds_toArray, List.set_cons_zero, List.set_cons_succ]
              refine wpAnyH_takeD (some 90) (i := 25) (v := undef) rfl rfl (by kernel_rfl) (by kernel_rfl) (by kernel_rfl) (fun _ _ _ h => h) (Or.inr ⟨by rfl, rfl⟩) hHeld ?_
              try simp only [Act.put, List.setIfInBounds_toArray, List.set_cons_zero, List.set_cons_succ]
              refine wpAnyH_takeD (some 91) (i := 26) (v := undef) rfl rfl (by kernel_rfl) (by kernel_rfl) (by kernel_rfl) (fun _ _ _ h => h) (Or.inr ⟨by rfl, rfl⟩) hHeld ?_
              try simp only [Act.put, List.setIfInBounds_toArray, List.set_cons_zero, List.set_cons_succ]
              refine wpAnyH_takeD (some 92) (i := 27) (v := undef) rfl rfl (by kernel_rfl) (by kernel_rfl) (by kernel_rfl) (fun _ _ _ h => h) (Or.inr ⟨by rfl, rfl⟩) hHeld ?_
              try simp only [Act.put, List.setIfInBounds_toArray, List.set_cons_zero, List.set_cons_succ]
              refine wpAnyH_takeD (some 93) (i := 28) (v := undef) rfl rfl (by kernel_rfl) (by kernel_rfl) (by kernel_rfl) (fun _ _ _ h => h) (Or.inr ⟨by rfl, rfl⟩) hHeld ?_
              try simp only [Act.put, List.setIfInBounds_toArray, List.set_cons_zero, List.set_cons_succ]
              refine wpAnyH_takeD (some 94) (i := 29) (v := ?_) rfl rfl (by kernel_rfl) (by kernel_rfl) (by kernel_rfl) (fun _ _ _ h => h) (Or.inl ⟨by rfl, ?_⟩) hHeld ?_
              rotate_left
              · (go_light; intro w9 hSw; (try dsimp only at hSw); go_simp; try with_reducible rfl)
              try simp only [Act.put, List.setIfInBounds_toArray, List.set_cons_zero, List.set_cons_succ]
              refine wpAnyH_takeD (some 95) (i := 30) (v := ?_) rfl rfl (by kernel_rfl) (by kernel_rfl) (by kernel_rfl) (fun _ _ _ h => h) (Or.inl ⟨by rfl, ?_⟩) hHeld ?_
              rotate_left
              · (go_light; intro w9 hSw; (try dsimp only at hSw); go_simp; try with_reducible rfl)
              try simp only [Act.put, List.setIfInBounds_toArray, List.set_cons_zero, List.set_cons_succ]
              refine wpAnyH_takeD (some 96) (i := 31) (v := ?_) rfl rfl (by kernel_rfl) (by kernel_rfl) (by kernel_rfl) (fun _ _ _ h => h) (Or.inl ⟨by rfl, ?_⟩) hHeld ?_
              rotate_left
              · (go_light; intro w9 hSw; (try dsimp only at hSw); go_simp; try with_reducible rfl)
              try simp only [Act.put, List.setIfInBounds_toArray, List.set_cons_zero, List.set_cons_succ]
              refine wpAnyH_done (by kernel_rfl) ?_ _
              have HBn := Lib.hid (HBw.out.trans (HB7.out.mono HBw.out.size))
              clear HB6 HB7 HI6 HK HD HR HO VA Y HBw hHeld
              go_wp2
              go_roundw
              case rel => exact ⟨k + 1, by omega, by omega, by go_num, HBn⟩
              case measure => simp [intOf]; omega
            · rw [hl] at HOf
              go_wp2_with fail
              refine HOf.out.mono ?_
              rintro e w5 ⟨he, hb⟩
              obtain rfl : e = .returned (.tuple #[.bool false, errI 1]) := he
              have HR := Lib.hid (HR.out.on hb)
              have HO := Lib.hid (HO.out.on hb)
              have Y := Lib.hid (Y.out.on hb)
              have VA := Lib.hid (VA.out.on hb)
              have HBw := Lib.hid (HBw.out.trans (hb.mono HBw.out.size))
              obtain ⟨ada2, e5, _, hac2, _⟩ := Y.out.get HK0.out
              obtain rfl := Option.some.inj e5
              clear e5 hb HOf hac hl
              have HK : Hid (∀ W, Below w5.heap.size w5 W → W.cell? (ada.add k) = some (.int .i64 a) ∧ W.cell? ⟨w.heap.size, 0, none⟩ = some (.int .i64 L0)) := fun W hW => by
                obtain ⟨ad3, e6, _, h7, _⟩ := (Y.out.on hW).get HK0.out
                obtain rfl := Option.some.inj e6
                exact ⟨h7, (VA.out.box.on hW).c0⟩
              have HD : Hid (Below w5.heap.size w5 w5.drew) := (Below.refl _ _).drew
              have t1 : decide (0 ≤ a) = true := decide_eq_true hw1
              have t2 : decide (a < L0) = false := decide_eq_false (by omega)
              clear hac2
              go_wp2_with fail
              go_region_held3 (fun W => W.cell? (ada.add k) = some (.int .i64 a) ∧ W.cell? ⟨w.heap.size, 0, none⟩ = some (.int .i64 L0))
                (first | exact HK.out _ HB7.out | exact HK.out _ HB6.out | exact HK.out _ HD.out)
                (first | (go_at_call 17; refine (HIn.out _ _ _ _ _ HI6.out (HO.out.on HB6.out)).mono ?_; rintro e w7 ⟨rfl, hb⟩; have HB7 := Lib.hid (HB6.out.trans (hb.mono HB6.out.size)); clear hb) | (go_at_call 18; refine (HOu.out _ _ (HR.out.on HD.out)).mono ?_; rintro e w6 ⟨A6, c6, rfl, HI6, hb⟩; have HB6 := Lib.hid (HD.out.trans (hb.mono HD.out.size)); clear hb) | (go_at_call 23; refine (HSh.out _ _ (HR.out.on HD.out)).mono ?_; rintro e w8 ⟨rfl, rfl⟩))
              all_goals
                have HBn := Lib.hid (HBw.out.trans (HB7.out.mono HBw.out.size))
                clear HB6 HB7 HI6 HK HD HR HO VA Y HBw
                go_wp2
                go_roundw
                case rel => exact ⟨k + 1, by omega, by omega, by go_num, HBn⟩
                case measure => simp [intOf]; omega
          · obtain rfl : k = 100 := by omega
            have e1 : ((100 : Nat) : Int) < (yl : Int) := by omega
            clear VA HR HO Y HBw
            go_wp2
            go_ret
            exact ⟨rfl, B.out⟩
        · obtain rfl : k = yl := by omega
          clear VA HR HO Y HBw
          go_wp2
          go_ret
          exact ⟨rfl, B.out⟩
  · have HGB := Lib.hid (fun W v (h : DfaAt W W.heap.size v d0) => gated_bad v d0 A1 z1.length c1 W h hg)
    clear hg
    go_enter Try.func6, Try.ntmps6
    go_wp2_with fail
    rw [← W0.out]
    clear W0
    refine (HF.out _).mono ?_
    rintro e b1 he
    obtain ⟨xf, rfl, hof⟩ := he.out
    have hb := hof.below
    have HX0 := Lib.hid hof.at_
    have Z := Lib.hid (Z.out.on hb)
    have Y := Lib.hid (Y.out.on hb)
    have VA := Lib.hid (VA.out.on hb)
    have B := Lib.hid (B.out.trans (hb.mono B.out.size))
    clear he hof hb HF
    go_wp2_with fail
    refine (HFG.out _ _ HX0.out).mono ?_
    rintro e b2 ⟨gf, Af, cf, rfl, HGF, hb⟩
    have Z := Lib.hid (Z.out.on hb)
    have Y := Lib.hid (Y.out.on hb)
    have VA := Lib.hid (VA.out.on hb)
    have B := Lib.hid (B.out.trans (hb.mono B.out.size))
    clear hb  HX0 HFG
    go_wp2_with fail
    refine (rshut_gives HGF.out).mono ?_
    rintro e b3 ⟨rfl, rfl⟩
    clear HGF
    obtain ⟨p0, p1, p2, p3, p4⟩ := VA.out.box
    go_wp2_with fail
    refine (HGB.out _ _ VA.out.at_).mono ?_
    rintro e b4 ⟨rfl, hb⟩
    have Z := Lib.hid (Z.out.on hb)
    have Y := Lib.hid (Y.out.on hb)
    have VA := Lib.hid (VA.out.on hb)
    have B := Lib.hid (B.out.trans (hb.mono B.out.size))
    clear hb p0 p1 p2 p3 p4 HGB
    go_wp2
    go_ret
    exact ⟨rfl, B.out⟩


set_option maxRecDepth 100000 in
theorem lifted (os : Os) (started : os.Started) (H : Type) (enc : TypeId × Value → H) :
    ReturnsInHanded {} Try.checked os 6 .any (Rows.gateShutSpec.pre6 enc Try.prog Try.f6 Rows.gateShutRow.domain false) (Rows.gateShutSpec.post enc Try.prog Try.f6 false true false false) := by
  refine returnsInHanded_of_change_sized (C := Try.checked) own started (by kernel_rfl) Try.func6
    (ChangeSpec.witness6 (enc := enc) (C := Try.checked) false ⟨#[], #[.agg #[.int .i64 0, .int .i64 0, .slice none 0 0, .slice none 0 0], .slice none 0 0, .slice none 0 0], []⟩ 8 (by kernel_rfl) (by kernel_rfl) (by kernel_rfl) (by kernel_rfl)) ?_
  intro W base args ds gs before hval0 hW hcnd hsz0 _
  have hval : ∀ (j : Nat) t v, Try.f6.params[j]? = some t → args[j]? = some v → Value.okWide Try.prog W .any base t v := hval0
  have hsz : (DataW.weightsEach Try.prog (Try.f6.params.toList ++ Rows.gateShutSpec.plain.varTypes Try.prog) (ds ++ gs)).all (· ≤ reachBytes) = true := hsz0
  have hW' := hW
  obtain ⟨p, q, hA0, hV0, rfl, hfz, hnd⟩ := hW
  have hV : DataW.TrodVars enc Try.prog W (fun _ => true) [] gs q := hV0
  have hA : DataW.TrodAll enc Try.prog W 0 (fun _ => true) true Try.f6.params.toList args.toList ds p := hA0
  rw [Try.params6] at hA hval hsz
  obtain ⟨v0, vs0, d0, ds0, p0, q0, hargs, rfl, rfl, h0, rr0⟩ := trodAll_cons hA
  obtain ⟨v1, vs1, d1, ds1, p1, q1, rfl, rfl, rfl, h1, rr1⟩ := trodAll_cons rr0
  obtain ⟨v2, vs2, d2, ds2, p2, q2, rfl, rfl, rfl, h2, rr2⟩ := trodAll_cons rr1
  obtain ⟨rfl, rfl, rfl⟩ := trodAll_nil rr2
  obtain rfl : args = #[v0, v1, v2] := by cases args; simp_all
  obtain ⟨rfl, rfl⟩ := trodVars_none hV
  have k0 := h0
  have lt0 : ∀ x ∈ p0, x.block < W.heap.size := by obtain ⟨m, hm⟩ := k0; exact DataW.trod_lt m _ _ _ hm
  have k1 := h1
  have lt1 : ∀ x ∈ p1, x.block < W.heap.size := by obtain ⟨m, hm⟩ := k1; exact DataW.trod_lt m _ _ _ hm
  have k2 := h2
  have lt2 : ∀ x ∈ p2, x.block < W.heap.size := by obtain ⟨m, hm⟩ := k2; exact DataW.trod_lt m _ _ _ hm
  obtain ⟨D0, x0⟩ : ∃ d : Df.Aut, Df.DfaAt W W.heap.size v0 d := Df.dfa_open (hval 0 25 v0 rfl rfl) h0
  obtain ⟨A1, len1, c1, rfl⟩ := okWide_slice Try.underlying33 (hval 1 33 v1 rfl rfl)
  obtain ⟨z1, rfl, x1, r1, m1⟩ : ∃ zs : List Int, len1 = zs.length ∧ IntsAt W W.heap.size A1 zs ∧ zs.length ≤ 17592186043904 ∧ zs.length ≤ c1 := by
    obtain ⟨fuel, hf⟩ := h1
    rcases open_ints Try.underlying33 Try.underlying3 (by kernel_rfl) hf with ⟨hcs, _⟩ | ⟨x, l, c, zs, hcs, _, hl, hm, hz, hx, hcell, hwz⟩
    · simp [Value.cells] at hcs
      obtain ⟨rfl, rfl, rfl⟩ := hcs
      exact ⟨[], rfl, IntsAt.nil _ _ _, by simp, by simp⟩
    · simp [Value.cells] at hcs
      obtain ⟨rfl, rfl, rfl⟩ := hcs
      have hd := congrArg Prod.fst hx
      simp only at hd
      have := sized_slice hsz (j := 1) (t := 33) (e := 3) rfl (by rw [hd]; rfl) Try.underlying33
      rw [(show Try.prog.bytesOf 3 = 8 by kernel_rfl)] at this
      simp only [reachBytes, lits, List.length_map, List.length_take, List.length_drop] at this
      have hz' : zs.length = c1 := by simpa using hz
      exact ⟨zs.take len1, by rw [List.length_take]; omega, intsAt_of_open hcell hwz len1, by rw [List.length_take]; omega, by rw [List.length_take]; omega⟩
  obtain ⟨A2, len2, c2, rfl⟩ := okWide_slice Try.underlying33 (hval 2 33 v2 rfl rfl)
  obtain ⟨z2, rfl, x2, r2, m2⟩ : ∃ zs : List Int, len2 = zs.length ∧ IntsAt W W.heap.size A2 zs ∧ zs.length ≤ 17592186043904 ∧ zs.length ≤ c2 := by
    obtain ⟨fuel, hf⟩ := h2
    rcases open_ints Try.underlying33 Try.underlying3 (by kernel_rfl) hf with ⟨hcs, _⟩ | ⟨x, l, c, zs, hcs, _, hl, hm, hz, hx, hcell, hwz⟩
    · simp [Value.cells] at hcs
      obtain ⟨rfl, rfl, rfl⟩ := hcs
      exact ⟨[], rfl, IntsAt.nil _ _ _, by simp, by simp⟩
    · simp [Value.cells] at hcs
      obtain ⟨rfl, rfl, rfl⟩ := hcs
      have hd := congrArg Prod.fst hx
      simp only at hd
      have := sized_slice hsz (j := 2) (t := 33) (e := 3) rfl (by rw [hd]; rfl) Try.underlying33
      rw [(show Try.prog.bytesOf 3 = 8 by kernel_rfl)] at this
      simp only [reachBytes, lits, List.length_map, List.length_take, List.length_drop] at this
      have hz' : zs.length = c2 := by simpa using hz
      exact ⟨zs.take len2, by rw [List.length_take]; omega, intsAt_of_open hcell hwz len2, by rw [List.length_take]; omega, by rw [List.length_take]; omega⟩
  clear hA0 hval0
  refine (walk v0 D0 A1 c1 z1 A2 c2 z2 W x0 x1 r1 m1 x2 r2 m2).mono fun e W' ⟨he, bel⟩ => ?_
  subst he
  exact ⟨_, rfl, _, _, _, [], _, [], hW', trodAll_mk1 (shut_bool Try.underlying4 _), (trodAll_cons_mk (Below.trod laidOut (by kernel_rfl) (of_decide_eq_true (by kernel_rfl)) k0 bel lt0) (trodAll_cons_mk (Below.trod laidOut (by kernel_rfl) (of_decide_eq_true (by kernel_rfl)) k1 bel lt1) (trodAll_cons_mk (Below.trod laidOut (by kernel_rfl) (of_decide_eq_true (by kernel_rfl)) k2 bel lt2) trodAll_mk0))), rfl, bel.frame _, fun h => by cases h⟩

theorem over : Rows.gateShutRow.holds Try.pinned (OpenSpec.ofChange Rows.gateShutSpec) :=
  OpenClaim.holds_of_wide 6 Try.f6 rfl rfl rfl rfl rfl rfl rfl ⟨rfl, rfl, rfl, rfl, rfl⟩ rfl rfl rfl rfl rfl (by kernel_rfl) Try.func6 (by kernel_rfl)
    (of_decide_eq_true (by kernel_rfl)) (by unfold Func.isWrapper; rw [if_neg (of_decide_eq_false (by kernel_rfl))]; exact ⟨rfl, rfl⟩)
    (fun os started H enc _ => lifted os started H enc)
theorem proved : Rows.GateShutSaid := over
#print axioms proved
end Go.Proofs.Ytciopfiddfmckaa.gateShut
