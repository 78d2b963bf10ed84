/-
  The statement ReachSplitsSaid of this seat, proved: for every input the law returns true and its arguments read behind the call as before. Conditions: none but the row's own (each argument within the reach).
-/
import Derived.Test.YtinehjfanabegaaRows
import Derived.Test.YtinehjfanabegaaWords
import Derived.WalkKit
import Derived.ProofKit
import Derived.OpenShut
import Derived.ShutString
import Derived.ChangeOld
import Derived.Below
import Derived.SizedLaws
import Derived.Lib.Hide
import Derived.Test.YtinehjfanabegaaReachV
import Derived.Test.YtinehjfanabegaaDfaK
namespace Go.Proofs.Ytinehjfanabegaa.reachSplits
open Go.ChangeShapes Go.WideShapes Go.ChangeAt Go.RowKit Go.IntWalk Go.Proofs.Ytinehjfanabegaa.Wd
open Go.ChangeMaps (open_string shut_string)
set_option linter.unusedVariables false

theorem own : ownKnob Try.prog.godebug = none := by kernel_rfl
theorem laidOut : laidOutB Try.prog = true := by kernel_rfl
open Go.Proofs.Ytinehjfanabegaa.Wo Go.Proofs.Ytinehjfanabegaa.Df Go.Proofs.Ytinehjfanabegaa.Rc
theorem evenCount : countOut evenA 2 = (2, 0) := by decide

set_option maxRecDepth 100000 in
set_option maxHeartbeats 4000000 in
theorem walk (v0 : Value) (d0 : Df.Aut) (a1 : Int) (w : World) (h0 : Df.DfaAt w w.heap.size v0 d0) (l1 : -9223372036854775808 ≤ a1) (h1 : a1 ≤ 9223372036854775807) :
    Calls Try.prog 9 #[v0, .int .i64 a1] w fun e w' => e = .returned (.bool true) ∧ Below w.heap.size w w' := by
  obtain ⟨L0, s0, A0, n0, c0, F0, m0, k0, rfl⟩ := h0.form
  obtain ⟨hL0, hs0, hN0, hM0⟩ := h0.eqs
  obtain ⟨u0, hu0, hb0, VA0⟩ := var_new w h0
  have VA := Lib.hid VA0
  have B := Lib.hid hb0
  have W0 := Lib.hid hu0
  have HV := Lib.hid (fun W => even_any W)
  have HCe := Lib.hid (fun W v (h : DfaAt W W.heap.size v evenA) => count_gives (n := 2) (E := .nilIface) h ⟨by omega, by omega⟩ evenCount rfl)
  have HC := Lib.hid (fun W v (h : DfaAt W W.heap.size v d0) => count_any v d0 a1 W h ⟨l1, h1⟩)
  have HK := Lib.hid (fun W v (h : DfaAt W W.heap.size v d0) => dcheck_any v d0 W h)
  clear hu0 hb0 VA0 h0
  rcases g1 : dchk d0 with _ | x
  · have Ga := dchk_iff.1 g1
    by_cases g2 : 0 ≤ a1
    · by_cases g3 : a1 ≤ 20
      · obtain ⟨k, rfl⟩ := Int.eq_ofNat_of_zero_le g2
        have hk : k ≤ 20 := by omega
        have HG := Lib.hid Ga
        rw [countOut_ok g1 hk] at HC
        rcases k with _ | k
        · have HA := Lib.hid (fun W v (h : DfaAt W W.heap.size v d0) => acc_gives (E := .nilIface) (cz := 0) (Z := none) (z := []) h (IntsAt.nil _ _ _) (by simp) (accOut_ok Ga (fine_nil Ga.l1 Ga.l6)) (congrArg errV (accErr_ok Ga (fine_nil Ga.l1 Ga.l6))))
          have hacc : accA d0 [] = finA d0 d0.s.toNat := rfl
          have hcnt : ((cnt d0 0 d0.s.toNat : Nat) : Int) = if finA d0 d0.s.toNat = true then 1 else 0 := by unfold cnt; split <;> rfl
          rw [hcnt] at HC
          rw [hacc] at HA
          clear Ga g1 g2 g3 hL0 hs0 hN0 hM0 hacc hcnt l1 h1 HK HG
          rcases hfin : finA d0 d0.s.toNat with _ | _
          · rw [hfin] at HA HC
            rw [if_neg (by decide)] at HC
            clear hfin
            go_enter Try.func9, Try.ntmps9
            go_wp2_with fail
            rw [← W0.out]
            clear W0
            refine (HV.out _).mono ?_
            rintro e u1 he
            obtain ⟨x, rfl, ho⟩ := he.out
            have hb := ho.below
            have HEv := Lib.hid ho.at_
            have VA := Lib.hid (VA.out.on hb)
            have B := Lib.hid (B.out.trans (hb.mono B.out.size))
            clear he ho hb HV
            go_wp2_with fail
            refine (HCe.out _ _ HEv.out).mono ?_
            rintro e u2 ⟨rfl, hb⟩
            have VA := Lib.hid (VA.out.on hb)
            have B := Lib.hid (B.out.trans (hb.mono B.out.size))
            clear hb
            clear HCe
            clear HEv
            obtain ⟨p0, p1, p2, p3, p4⟩ := VA.out.box
            go_wp2_with fail
            refine (HC.out _ _ VA.out.at_).mono ?_
            rintro e u3 ⟨he, hb⟩
            obtain rfl : e = .returned (.tuple #[.int .i64 0, .nilIface]) := he.out
            clear he
            have VA := Lib.hid (VA.out.on hb)
            have B := Lib.hid (B.out.trans (hb.mono B.out.size))
            clear hb
            clear p0 p1 p2 p3 p4
            obtain ⟨p0, p1, p2, p3, p4⟩ := VA.out.box
            go_wp2_with fail
            refine (HA.out _ _ VA.out.at_).mono ?_
            rintro e u4 ⟨rfl, hb⟩
            have VA := Lib.hid (VA.out.on hb)
            have B := Lib.hid (B.out.trans (hb.mono B.out.size))
            clear hb
            clear HA p0 p1 p2 p3 p4
            go_wp2
            go_ret
            exact ⟨rfl, B.out⟩
          · rw [hfin] at HA HC
            rw [if_pos rfl] at HC
            clear hfin
            go_enter Try.func9, Try.ntmps9
            go_wp2_with fail
            rw [← W0.out]
            clear W0
            refine (HV.out _).mono ?_
            rintro e u1 he
            obtain ⟨x, rfl, ho⟩ := he.out
            have hb := ho.below
            have HEv := Lib.hid ho.at_
            have VA := Lib.hid (VA.out.on hb)
            have B := Lib.hid (B.out.trans (hb.mono B.out.size))
            clear he ho hb HV
            go_wp2_with fail
            refine (HCe.out _ _ HEv.out).mono ?_
            rintro e u2 ⟨rfl, hb⟩
            have VA := Lib.hid (VA.out.on hb)
            have B := Lib.hid (B.out.trans (hb.mono B.out.size))
            clear hb
            clear HCe
            clear HEv
            obtain ⟨p0, p1, p2, p3, p4⟩ := VA.out.box
            go_wp2_with fail
            refine (HC.out _ _ VA.out.at_).mono ?_
            rintro e u3 ⟨he, hb⟩
            obtain rfl : e = .returned (.tuple #[.int .i64 1, .nilIface]) := he.out
            clear he
            have VA := Lib.hid (VA.out.on hb)
            have B := Lib.hid (B.out.trans (hb.mono B.out.size))
            clear hb
            clear p0 p1 p2 p3 p4
            obtain ⟨p0, p1, p2, p3, p4⟩ := VA.out.box
            go_wp2_with fail
            refine (HA.out _ _ VA.out.at_).mono ?_
            rintro e u4 ⟨rfl, hb⟩
            have VA := Lib.hid (VA.out.on hb)
            have B := Lib.hid (B.out.trans (hb.mono B.out.size))
            clear hb
            clear HA p0 p1 p2 p3 p4
            go_wp2
            go_ret
            exact ⟨rfl, B.out⟩
        · obtain ⟨p, hp⟩ := Int.eq_ofNat_of_zero_le (show 0 ≤ s0 by have := Ga.st.1; omega)
          obtain ⟨l, hl⟩ := Int.eq_ofNat_of_zero_le (show 0 ≤ L0 by have := Ga.l1; omega)
          subst hp hl
          have hl6 : l ≤ 6 := by have := Ga.l6; omega
          have hpn : p < d0.next.length := by have := Ga.s_lt; omega
          have HL : Hid (d0.L = (l : Int)) := hL0
          have HP : Hid (d0.s.toNat = p) := by unfold Hid; omega
          have HN := Lib.hid hN0
          have HCk := Lib.hid (fun W v q (hq : q < d0.next.length) (h : DfaAt W W.heap.size v (fromA d0 q)) => count_gives (E := .nilIface) (n := (k : Int)) h ⟨by omega, by omega⟩ (countOut_ok (n := k) (dchk_iff.2 (fromA_good Ga hq)) (by omega)) rfl)
          have HS0 : Hid (backTo d0 (cnt d0 k) p 0 = 0) := rfl
          rw [HP.out] at HC
          have hkn : ((k : Int) + 1 == 0) = false := int_ne (by omega)
          have h40 : d0.next.length ≤ 40 := Ga.n40
          have hm40 : m0 ≤ 40 := by have := Ga.fin; omega
          rw [hN0] at hpn h40
          clear Ga g1 g2 g3 hL0 hs0 hN0 hM0 l1 h1 HK
          generalize hX : ((cnt d0 (k + 1) p : Nat) : Int) = X at *
          have HX := Lib.hid hX
          clear hX
          go_enter Try.func9, Try.ntmps9
          go_wp2_with fail
          rw [← W0.out]
          clear W0
          refine (HV.out _).mono ?_
          rintro e u1 he
          obtain ⟨x, rfl, ho⟩ := he.out
          have hb := ho.below
          have HEv := Lib.hid ho.at_
          have VA := Lib.hid (VA.out.on hb)
          have B := Lib.hid (B.out.trans (hb.mono B.out.size))
          clear he ho hb HV
          go_wp2_with fail
          refine (HCe.out _ _ HEv.out).mono ?_
          rintro e u2 ⟨rfl, hb⟩
          have VA := Lib.hid (VA.out.on hb)
          have B := Lib.hid (B.out.trans (hb.mono B.out.size))
          clear hb
          clear HCe
          clear HEv
          obtain ⟨p0, p1, p2, p3, p4⟩ := VA.out.box
          go_wp2_with fail
          refine (HC.out _ _ VA.out.at_).mono ?_
          rintro e u3 ⟨he, hb⟩
          obtain rfl : e = .returned (.tuple #[.int .i64 X, .nilIface]) := he.out
          clear he
          have VA := Lib.hid (VA.out.on hb)
          have B := Lib.hid (B.out.trans (hb.mono B.out.size))
          clear hb
          clear p0 p1 p2 p3 p4
          obtain ⟨p0, p1, p2, p3, p4⟩ := VA.out.box
          go_wp2
          clear p0 p1 p2 p3 p4
          go_loopw [11, 12] (fun sv i wr => ∃ (q acc : Nat), q ≤ l ∧ i = .int .i64 q ∧ sv = .int .i64 acc ∧ Hid (backTo d0 (cnt d0 k) p q = acc) ∧ Hid (Below u3.heap.size u3 wr)) (fun _ i _ => l - (intOf i).toNat)
          case atStart => exact ⟨0, 0, by omega, rfl, rfl, HS0, Below.refl _ _⟩
          case round =>
            clear HS0
            obtain ⟨q, acc, hq, rfl, rfl, HS, HBr⟩ := hrel
            have VAr := Lib.hid (VA.out.on HBr.out)
            have Br := Lib.hid (B.out.trans (HBr.out.mono B.out.size))
            obtain ⟨p0, p1, p2, p3, p4⟩ := VAr.out.box
            by_cases hql : q < l
            · as_aux_lemma =>
              have hps : p < d0.next.length := by rw [HN.out]; exact hpn
              obtain ⟨ad, ar, mr, cr, e0, hadb, hcell, hjm, harb, hac⟩ := at_step VAr.out.at_ HG.out hps (i := q) (by rw [HL.out]; omega)
              subst e0
              have hst := HG.out.step_lt hps (a := q) (by rw [HL.out]; omega)
              have hxs : cnt d0 k (Df.step d0 p q) ≤ 3656158440062976 := cnt_small HG.out (by omega)
              have hys : backTo d0 (cnt d0 k) p q ≤ 3656158440062976 := backTo_small HG.out (by omega) (by rw [HL.out]; simpa using hq)
              rw [HS.out] at hys
              have HS1 : Hid (backTo d0 (cnt d0 k) p (q + 1) = acc + cnt d0 k (Df.step d0 p q)) := by unfold Hid; rw [backTo_succ, HS.out]
              have HC2 := Lib.hid (fun W v h => HCk.out W v (Df.step d0 p q) hst h)
              have HF := Lib.hid (fun W (h : Below wr.heap.size wr W) => fromA_at (VAr.out.at_.on h) (q := Df.step d0 p q) (by have := HN.out; omega))
              have HCN : Hid (((cnt (fromA d0 (Df.step d0 p q)) k (fromA d0 (Df.step d0 p q)).s.toNat : Nat) : Int) = ((cnt d0 k (Df.step d0 p q) : Nat) : Int)) := by unfold Hid; rw [fromA_cnt]; rfl
              rw [HCN.out] at HC2
              have e1 : (q : Int) < (mr : Int) := by omega
              have e2 : (p : Int) < (n0 : Int) := by omega
              clear HCN hst hps
              generalize cnt d0 k (Df.step d0 p q) = y at *
              generalize Df.step d0 p q = t at *
              have hW2 : Below wr.heap.size wr ((wr.alloc (.cells #[.int .i64 0, .int .i64 0, .slice none 0 0, .slice none 0 0] 25)).drew) := (below_alloc _ _).drew
              have hcell2 := (hW2.cell (p := ad.add p) (by rw [Wd.block_add]; exact hadb)).trans hcell
              have hac2 := (hW2.cell (p := ar.add q) (by rw [Wd.block_add]; exact harb)).trans hac
              clear hW2
              go_wp2_with fail
              go_region
              clear hcell hac hcell2 hac2
              obtain ⟨w9, hw9⟩ : ∃ w9, w9 = (wr.alloc (.cells #[.int .i64 (l : Int), .int .i64 (t : Int), .slice (some ad) n0 c0, .slice F0 m0 k0] 25)).drew := ⟨_, rfl⟩
              have hB9 : Below wr.heap.size wr w9 := by rw [hw9]; exact (below_alloc _ _).drew
              have hX9 : Boxed w9 wr.heap.size (l : Int) (t : Int) (some ad) n0 c0 F0 m0 k0 := by
                rw [hw9]; exact (boxed_new wr _ _ _ _ _ _ _ _ _).on (Below.refl _ _).drew
              have hF9 := HF.out w9 hB9
              have HB9 := Lib.hid (HBr.out.trans (hB9.mono HBr.out.size))
              have VA9 := Lib.hid (VAr.out.on hB9)
              rw [← hw9]
              clear hw9 p0 p1 p2 p3 p4
              have k0' := hX9.c0
              have k1' := hX9.c1
              have k2' := hX9.c2
              have k3' := hX9.c3
              have HF9 := Lib.hid hF9
              clear hF9 hX9 hB9 HF HC HCk
              go_wp2_with fail
              refine (HC2.out _ _ HF9.out).mono ?_
              rintro e w10 ⟨rfl, hb⟩
              have HB10 := Lib.hid (HB9.out.trans (hb.mono HB9.out.size))
              clear hb HC2 HF9 k0' k1' k2' k3'
              have hy0 : ¬ (y : Int) < 0 := by omega
              go_wp2
              go_roundw
              case rel => exact ⟨q + 1, acc + y, by omega, by go_num, by go_num, HS1, HB10⟩
              case measure => simp [intOf]; omega
            · as_aux_lemma =>
              obtain rfl : q = l := by omega
              have e1 : ((acc : Int) == X) = true := by
                refine int_eq ?_
                rw [← HX.out, cnt_step, HL.out]
                exact congrArg _ HS.out.symm
              clear HC HCk
              go_wp2
              go_ret
              exact ⟨rfl, Br.out⟩
      · rw [countOut_far g1 (.inr (show 20 < a1 by omega))] at HC
        clear Ga g1 hL0 hs0 hN0 hM0 HK
        go_enter Try.func9, Try.ntmps9
        go_wp2_with fail
        rw [← W0.out]
        clear W0
        refine (HV.out _).mono ?_
        rintro e u1 he
        obtain ⟨x, rfl, ho⟩ := he.out
        have hb := ho.below
        have HEv := Lib.hid ho.at_
        have VA := Lib.hid (VA.out.on hb)
        have B := Lib.hid (B.out.trans (hb.mono B.out.size))
        clear he ho hb HV
        go_wp2_with fail
        refine (HCe.out _ _ HEv.out).mono ?_
        rintro e u2 ⟨rfl, hb⟩
        have VA := Lib.hid (VA.out.on hb)
        have B := Lib.hid (B.out.trans (hb.mono B.out.size))
        clear hb
        clear HCe
        clear HEv
        obtain ⟨p0, p1, p2, p3, p4⟩ := VA.out.box
        go_wp2_with fail
        refine (HC.out _ _ VA.out.at_).mono ?_
        rintro e u3 ⟨he, hb⟩
        obtain rfl : e = .returned (.tuple #[.int .i64 0, errI 1]) := he.out
        clear he
        have VA := Lib.hid (VA.out.on hb)
        have B := Lib.hid (B.out.trans (hb.mono B.out.size))
        clear hb
        clear p0 p1 p2 p3 p4
        go_wp2
        go_ret
        exact ⟨rfl, B.out⟩
    · rw [countOut_far g1 (.inl (show a1 < 0 by omega))] at HC
      clear Ga g1 hL0 hs0 hN0 hM0 HK
      go_enter Try.func9, Try.ntmps9
      go_wp2_with fail
      rw [← W0.out]
      clear W0
      refine (HV.out _).mono ?_
      rintro e u1 he
      obtain ⟨x, rfl, ho⟩ := he.out
      have hb := ho.below
      have HEv := Lib.hid ho.at_
      have VA := Lib.hid (VA.out.on hb)
      have B := Lib.hid (B.out.trans (hb.mono B.out.size))
      clear he ho hb HV
      go_wp2_with fail
      refine (HCe.out _ _ HEv.out).mono ?_
      rintro e u2 ⟨rfl, hb⟩
      have VA := Lib.hid (VA.out.on hb)
      have B := Lib.hid (B.out.trans (hb.mono B.out.size))
      clear hb
      clear HCe
      clear HEv
      obtain ⟨p0, p1, p2, p3, p4⟩ := VA.out.box
      go_wp2_with fail
      refine (HC.out _ _ VA.out.at_).mono ?_
      rintro e u3 ⟨he, hb⟩
      obtain rfl : e = .returned (.tuple #[.int .i64 0, errI 1]) := he.out
      clear he
      have VA := Lib.hid (VA.out.on hb)
      have B := Lib.hid (B.out.trans (hb.mono B.out.size))
      clear hb
      clear p0 p1 p2 p3 p4
      go_wp2
      go_ret
      exact ⟨rfl, B.out⟩
  · rw [countOut_bad (by omega), g1, errV_succ] at HC
    rw [g1, errV_succ] at HK
    clear g1 hL0 hs0 hN0 hM0
    generalize ((x + 1 : Nat) : Int) = E at *
    by_cases g2 : 0 ≤ a1
    · by_cases g3 : a1 ≤ 20
      · go_enter Try.func9, Try.ntmps9
        go_wp2_with fail
        rw [← W0.out]
        clear W0
        refine (HV.out _).mono ?_
        rintro e u1 he
        obtain ⟨x, rfl, ho⟩ := he.out
        have hb := ho.below
        have HEv := Lib.hid ho.at_
        have VA := Lib.hid (VA.out.on hb)
        have B := Lib.hid (B.out.trans (hb.mono B.out.size))
        clear he ho hb HV
        go_wp2_with fail
        refine (HCe.out _ _ HEv.out).mono ?_
        rintro e u2 ⟨rfl, hb⟩
        have VA := Lib.hid (VA.out.on hb)
        have B := Lib.hid (B.out.trans (hb.mono B.out.size))
        clear hb
        clear HCe
        clear HEv
        obtain ⟨p0, p1, p2, p3, p4⟩ := VA.out.box
        go_wp2_with fail
        refine (HC.out _ _ VA.out.at_).mono ?_
        rintro e u3 ⟨he, hb⟩
        obtain rfl : e = .returned (.tuple #[.int .i64 0, errI E]) := he.out
        clear he
        have VA := Lib.hid (VA.out.on hb)
        have B := Lib.hid (B.out.trans (hb.mono B.out.size))
        clear hb
        clear p0 p1 p2 p3 p4
        obtain ⟨p0, p1, p2, p3, p4⟩ := VA.out.box
        go_wp2_with fail
        refine (HK.out _ _ VA.out.at_).mono ?_
        rintro e u4 ⟨he, hb⟩
        obtain rfl : e = .returned (errI E) := he.out
        clear he
        have VA := Lib.hid (VA.out.on hb)
        have B := Lib.hid (B.out.trans (hb.mono B.out.size))
        clear hb
        clear HK p0 p1 p2 p3 p4
        go_wp2
        go_ret
        exact ⟨rfl, B.out⟩
      · have g4 : 20 < a1 := by omega
        clear HK g3
        go_enter Try.func9, Try.ntmps9
        go_wp2_with fail
        rw [← W0.out]
        clear W0
        refine (HV.out _).mono ?_
        rintro e u1 he
        obtain ⟨x, rfl, ho⟩ := he.out
        have hb := ho.below
        have HEv := Lib.hid ho.at_
        have VA := Lib.hid (VA.out.on hb)
        have B := Lib.hid (B.out.trans (hb.mono B.out.size))
        clear he ho hb HV
        go_wp2_with fail
        refine (HCe.out _ _ HEv.out).mono ?_
        rintro e u2 ⟨rfl, hb⟩
        have VA := Lib.hid (VA.out.on hb)
        have B := Lib.hid (B.out.trans (hb.mono B.out.size))
        clear hb
        clear HCe
        clear HEv
        obtain ⟨p0, p1, p2, p3, p4⟩ := VA.out.box
        go_wp2_with fail
        refine (HC.out _ _ VA.out.at_).mono ?_
        rintro e u3 ⟨he, hb⟩
        obtain rfl : e = .returned (.tuple #[.int .i64 0, errI E]) := he.out
        clear he
        have VA := Lib.hid (VA.out.on hb)
        have B := Lib.hid (B.out.trans (hb.mono B.out.size))
        clear hb
        clear p0 p1 p2 p3 p4
        go_wp2
        go_ret
        exact ⟨rfl, B.out⟩
    · have g4 : a1 < 0 := by omega
      clear HK g2
      go_enter Try.func9, Try.ntmps9
      go_wp2_with fail
      rw [← W0.out]
      clear W0
      refine (HV.out _).mono ?_
      rintro e u1 he
      obtain ⟨x, rfl, ho⟩ := he.out
      have hb := ho.below
      have HEv := Lib.hid ho.at_
      have VA := Lib.hid (VA.out.on hb)
      have B := Lib.hid (B.out.trans (hb.mono B.out.size))
      clear he ho hb HV
      go_wp2_with fail
      refine (HCe.out _ _ HEv.out).mono ?_
      rintro e u2 ⟨rfl, hb⟩
      have VA := Lib.hid (VA.out.on hb)
      have B := Lib.hid (B.out.trans (hb.mono B.out.size))
      clear hb
      clear HCe
      clear HEv
      obtain ⟨p0, p1, p2, p3, p4⟩ := VA.out.box
      go_wp2_with fail
      refine (HC.out _ _ VA.out.at_).mono ?_
      rintro e u3 ⟨he, hb⟩
      obtain rfl : e = .returned (.tuple #[.int .i64 0, errI E]) := he.out
      clear he
      have VA := Lib.hid (VA.out.on hb)
      have B := Lib.hid (B.out.trans (hb.mono B.out.size))
      clear hb
      clear p0 p1 p2 p3 p4
      go_wp2
      go_ret
      exact ⟨rfl, B.out⟩


set_option maxRecDepth 100000 in
theorem lifted (os : Os) (started : os.Started) (H : Type) (enc : TypeId × Value → H) :
    ReturnsInHanded {} Try.checked os 9 .any (Rows.reachSplitsSpec.pre6 enc Try.prog Try.f9 Rows.reachSplitsRow.domain false) (Rows.reachSplitsSpec.post enc Try.prog Try.f9 false true false false) := by
  refine returnsInHanded_of_change_sized (C := Try.checked) own started (by kernel_rfl) Try.func9
    (ChangeSpec.witness6 (enc := enc) (C := Try.checked) false ⟨#[], #[.agg #[.int .i64 0, .int .i64 0, .slice none 0 0, .slice none 0 0], .int .i64 0], []⟩ 8 (by kernel_rfl) (by kernel_rfl) (by kernel_rfl) (by kernel_rfl)) ?_
  intro W base args ds gs before hval0 hW hcnd hsz0 _
  have hval : ∀ (j : Nat) t v, Try.f9.params[j]? = some t → args[j]? = some v → Value.okWide Try.prog W .any base t v := hval0
  have hsz : (DataW.weightsEach Try.prog (Try.f9.params.toList ++ Rows.reachSplitsSpec.plain.varTypes Try.prog) (ds ++ gs)).all (· ≤ reachBytes) = true := hsz0
  have hW' := hW
  obtain ⟨p, q, hA0, hV0, rfl, hfz, hnd⟩ := hW
  have hV : DataW.TrodVars enc Try.prog W (fun _ => true) [] gs q := hV0
  have hA : DataW.TrodAll enc Try.prog W 0 (fun _ => true) true Try.f9.params.toList args.toList ds p := hA0
  rw [Try.params9] at hA hval hsz
  obtain ⟨v0, vs0, d0, ds0, p0, q0, hargs, rfl, rfl, h0, rr0⟩ := trodAll_cons hA
  obtain ⟨v1, vs1, d1, ds1, p1, q1, rfl, rfl, rfl, h1, rr1⟩ := trodAll_cons rr0
  obtain ⟨rfl, rfl, rfl⟩ := trodAll_nil rr1
  obtain rfl : args = #[v0, v1] := by cases args; simp_all
  obtain ⟨rfl, rfl⟩ := trodVars_none hV
  have k0 := h0
  have lt0 : ∀ x ∈ p0, x.block < W.heap.size := by obtain ⟨m, hm⟩ := k0; exact DataW.trod_lt m _ _ _ hm
  have k1 := h1
  have lt1 : ∀ x ∈ p1, x.block < W.heap.size := by obtain ⟨m, hm⟩ := k1; exact DataW.trod_lt m _ _ _ hm
  obtain ⟨D0, x0⟩ : ∃ d : Df.Aut, Df.DfaAt W W.heap.size v0 d := Df.dfa_open (hval 0 25 v0 rfl rfl) h0
  obtain ⟨a1, rfl, rfl, rfl, w1⟩ := open_int Try.underlying3 (hval 1 3 v1 rfl rfl) h1
  obtain ⟨l1, hh1⟩ := bounds_i64 w1
  clear hA0 hval0
  refine (walk v0 D0 a1 W x0 l1 hh1).mono fun e W' ⟨he, bel⟩ => ?_
  subst he
  exact ⟨_, rfl, _, _, _, [], _, [], hW', trodAll_mk1 (shut_bool Try.underlying4 _), (trodAll_cons_mk (Below.trod laidOut (by kernel_rfl) (of_decide_eq_true (by kernel_rfl)) k0 bel lt0) (trodAll_cons_mk (Below.trod laidOut (by kernel_rfl) (of_decide_eq_true (by kernel_rfl)) k1 bel lt1) trodAll_mk0)), rfl, bel.frame _, fun h => by cases h⟩

theorem over : Rows.reachSplitsRow.holds Try.pinned (OpenSpec.ofChange Rows.reachSplitsSpec) :=
  OpenClaim.holds_of_wide 9 Try.f9 rfl rfl rfl rfl rfl rfl rfl ⟨rfl, rfl, rfl, rfl, rfl⟩ rfl rfl rfl rfl rfl (by kernel_rfl) Try.func9 (by kernel_rfl)
    (of_decide_eq_true (by kernel_rfl)) (by unfold Func.isWrapper; rw [if_neg (of_decide_eq_false (by kernel_rfl))]; exact ⟨rfl, rfl⟩)
    (fun os started H enc _ => lifted os started H enc)
theorem proved : Rows.ReachSplitsSaid := over
#print axioms proved
end Go.Proofs.Ytinehjfanabegaa.reachSplits
