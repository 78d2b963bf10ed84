/-
  The statement TopSuperSaid of this seat, proved: for every input the law returns true and its arguments read behind the call as before. Conditions: none but the row's own (each argument within the reach).
-/
import Derived.Test.YtbciefeipiphiaaRows
import Derived.Test.YtbciefeipiphiaaWords
import Derived.WalkKit
import Derived.ProofKit
import Derived.OpenShut
import Derived.ShutString
import Derived.ChangeOld
import Derived.Below
import Derived.SizedLaws
import Derived.Lib.Hide
import Derived.Test.YtbciefeipiphiaaSuperL
import Derived.Test.YtbciefeipiphiaaGateL
import Derived.Test.YtbciefeipiphiaaTopM
import Derived.Test.YtbciefeipiphiaaTopV
import Derived.Test.YtbciefeipiphiaaTwo
import Derived.Test.YtbciefeipiphiaaRefWord
namespace Go.Proofs.Ytbciefeipiphiaa.topSuper
open Go.ChangeShapes Go.WideShapes Go.ChangeAt Go.RowKit Go.IntWalk Go.Proofs.Ytbciefeipiphiaa.Wd
open Go.ChangeMaps (open_string shut_string)
set_option linter.unusedVariables false

theorem own : ownKnob Try.prog.godebug = none := by kernel_rfl
theorem laidOut : laidOutB Try.prog = true := by kernel_rfl
open Go.Proofs.Ytbciefeipiphiaa.Wo Go.Proofs.Ytbciefeipiphiaa.Df Go.Proofs.Ytbciefeipiphiaa.Rc Go.Proofs.Ytbciefeipiphiaa.Sm Go.Proofs.Ytbciefeipiphiaa.Mp Go.Proofs.Ytbciefeipiphiaa.Sa Go.Proofs.Ytbciefeipiphiaa.Su Go.Proofs.Ytbciefeipiphiaa.Ga
theorem two_ones (W : World) : IntsAt (W.alloc (.cells #[.int .i64 1, .int .i64 1] 3)) (W.alloc (.cells #[.int .i64 1, .int .i64 1] 3)).heap.size (some ⟨W.heap.size, 0, none⟩) [1, 1] :=
  ⟨fun k u hk => ⟨⟨W.heap.size, 0, none⟩, rfl, by simp, World.news_of_block (heap_alloc_new W _) k u hk⟩, fun x hx => by
    simp only [List.mem_cons, List.not_mem_nil, or_false] at hx
    rcases hx with rfl | rfl <;> exact ⟨by decide, by decide⟩⟩
theorem fact_gives (W : World) (v : Value) (h : DfaAt W W.heap.size v pairsA) : Calls Try.prog 11 #[v, .slice (some ⟨W.heap.size, 0, none⟩) 2 2] (W.alloc (.cells #[.int .i64 1, .int .i64 1] 3)) fun e w' => e = .returned (.tuple #[.bool true, .nilIface]) ∧ Below W.heap.size W w' :=
  (acc_gives (cz := 2) (b := true) (E := .nilIface) (h.on (below_alloc _ _)) (two_ones W) (by simp) (by decide) (congrArg errV (show accErr pairsA [1, 1] = 0 by decide))).mono fun e w' ⟨h1, h2⟩ => ⟨h1, (below_alloc _ _).trans (h2.mono (by simp))⟩

set_option maxRecDepth 100000 in
set_option maxHeartbeats 16000000 in
theorem walk (v0 : Value) (d0 : Df.Aut) (v1 : Value) (d1 : Df.Aut) (a2 : Int) (A3 : Option Addr) (c3 : Nat) (z3 : List Int) (w : World) (h0 : Df.DfaAt w w.heap.size v0 d0) (h1 : Df.DfaAt w w.heap.size v1 d1) (l2 : -9223372036854775808 ≤ a2) (h2 : a2 ≤ 9223372036854775807) (v3 : IntsAt w w.heap.size A3 z3) (r3 : z3.length ≤ 17592186043904) (m3 : z3.length ≤ c3) :
    Calls Try.prog 7 #[v0, v1, .int .i64 a2, .slice A3 z3.length c3] w fun e w' => e = .returned (.bool true) ∧ Below w.heap.size w w' := by
  have hr : z3.length ≤ 17592186044416 := by omega
  obtain ⟨L0, s0, A0, n0, c0, F0, m0, k0, rfl⟩ := h0.form
  have hN0 := h0.eqs.2.2.1
  obtain ⟨L1, s1, A1, n1, c1, F1, m1, k1, rfl⟩ := h1.form
  have hN1 := h1.eqs.2.2.1
  obtain ⟨b0, hu0, hb0, VA0, VB0⟩ := vars_two w h0 h1
  have VA := Lib.hid VA0
  have VB := Lib.hid VB0
  have B := Lib.hid hb0
  have W0 := Lib.hid hu0
  have HN0 := Lib.hid hN0
  have HN1 := Lib.hid hN1
  have Z := Lib.hid (v3.on hb0)
  clear VA0 hb0 hu0 h0 hN0 VB0 h1 hN1 v3
  clear HN0 HN1
  have HF := Lib.hid pairs_any
  have HFact := Lib.hid fact_gives
  obtain ⟨zl, hzl⟩ : ∃ zl, z3.length = zl := ⟨_, rfl⟩
  obtain ⟨r, k, hs⟩ := supI_ex d0 d1 a2
  rcases supI_two hs with ⟨rfl, ho⟩ | ⟨hk, rfl⟩
  · obtain ⟨w9, hw9, ha9⟩ := ho.ex
    have hGG : GGood (preA r) := gate_pre ho.gr (by rw [ho.eL]; exact hw9) ha9
    have HM := Lib.hid (fun W v z (h : DfaAt W W.heap.size v d0) (h2 : DfaAt W W.heap.size z d1) => smake_gives (E := .nilIface) h h2 hs rfl)
    have HP := Lib.hid (fun W v (h : DfaAt W W.heap.size v r) => pre_gives (E := .nilIface) h (mkO_ok ho.gr) rfl)
    have HQ := Lib.hid (fun W v (h : DfaAt W W.heap.size v d0) => pre_gives (E := .nilIface) h (mkO_ok ho.g.ga) rfl)
    have HN := Lib.hid (fun W v (h : DfaAt W W.heap.size v (preA r)) => gnew_ok v (preA r) W h hGG)
    have HPQ : Hid (Df.Good (preA d0) ∧ (preA d0).L = d0.L) := ⟨judge_good ho.g.ga, rfl⟩
    have HGG : Hid (GGood (preA r) ∧ d0.L ≤ 6 ∧ 1 ≤ d0.L) := ⟨hGG, ho.g.ga.l6, ho.g.ga.l1⟩
    have HGG2 : Hid ((preA r).L = d0.L) := ho.eL
    have HEm : Hid (accA (preA r) [] = true) := hGG.empty
    have HNx : Hid (0 < r.next.length) := ho.gr.n1
    have HA2 : Hid (0 ≤ a2 ∧ a2 < 64) := ⟨ho.f0, ho.f1⟩
    have HSG : Hid (∀ v a, Word d0.L (v ++ [a]) → accA (preA r) v = true → accA (preA d0) (v ++ [a]) = true → has a2 a = true → accA (preA r) (v ++ [a]) = true) := fun v a hva hp hq hf => super_gate ho.g.ga ho.gr ho.eL (isSup_ctl ho.is) hva hp hq hf
    have HL := Lib.hid hzl
    rw [hzl] at m3
    clear hw9 ha9 hGG hs ho hzl
    generalize preA r = PR at *
    generalize preA d0 = PQ at *
    rw [HL.out]
    go_enter Try.func7, Try.ntmps7
    go_wp2_with fail
    rw [← W0.out]
    clear W0
    refine (HF.out _).mono ?_
    rintro e b1 he
    obtain ⟨xf, rfl, hof⟩ := he.out
    have hb := hof.below
    have HX0 := Lib.hid hof.at_
    have Z := Lib.hid (Z.out.on hb)
    have VA := Lib.hid (VA.out.on hb)
    have VB := Lib.hid (VB.out.on hb)
    have B := Lib.hid (B.out.trans (hb.mono B.out.size))
    clear he hof hb HF
    go_wp2_with fail
    refine (HFact.out _ _ HX0.out).mono ?_
    rintro e b2 ⟨rfl, hb⟩
    have Z := Lib.hid (Z.out.on hb)
    have VA := Lib.hid (VA.out.on hb)
    have VB := Lib.hid (VB.out.on hb)
    have B := Lib.hid (B.out.trans (hb.mono B.out.size))
    clear hb  HX0 HFact
    obtain ⟨p0, p1, p2, p3, p4⟩ := VA.out.box
    obtain ⟨q0, q1, q2, q3, q4⟩ := VB.out.box
    go_wp2_with fail
    refine (HM.out _ _ _ VA.out.at_ VB.out.at_).mono ?_
    rintro e b3 ⟨L13, s13, A13, n13, c13, F13, m13, k13, rfl, hd, hb⟩
    have Z := Lib.hid (Z.out.on hb)
    have VA := Lib.hid (VA.out.on hb)
    have VB := Lib.hid (VB.out.on hb)
    have B := Lib.hid (B.out.trans (hb.mono B.out.size))
    clear hb p0 p1 p2 p3 p4 q0 q1 q2 q3 q4 HM
    obtain ⟨x3, hx3, hbn, Vn⟩ := var_new b3 hd.out
    have VX := Lib.hid Vn
    have Z := Lib.hid (Z.out.on hbn)
    have VA := Lib.hid (VA.out.on hbn)
    have VB := Lib.hid (VB.out.on hbn)
    have B := Lib.hid (B.out.trans (hbn.mono B.out.size))
    clear hbn Vn hd
    obtain ⟨p0, p1, p2, p3, p4⟩ := VX.out.box
    rw [hx3] at p1 p2 p3 p4
    have HX := Lib.hid hx3
    clear hx3
    go_wp2_with fail
    rw [← HX.out]
    clear HX
    refine (HP.out _ _ VX.out.at_).mono ?_
    rintro e b4 ⟨L14, s14, A14, n14, c14, F14, m14, k14, rfl, hd, hb⟩
    have Z := Lib.hid (Z.out.on hb)
    have VA := Lib.hid (VA.out.on hb)
    have VB := Lib.hid (VB.out.on hb)
    have VX := Lib.hid (VX.out.on hb)
    have B := Lib.hid (B.out.trans (hb.mono B.out.size))
    clear hb p0 p1 p2 p3 p4 HP
    obtain ⟨x4, hx4, hbn, Vn⟩ := var_new b4 hd.out
    have VP := Lib.hid Vn
    have Z := Lib.hid (Z.out.on hbn)
    have VA := Lib.hid (VA.out.on hbn)
    have VB := Lib.hid (VB.out.on hbn)
    have VX := Lib.hid (VX.out.on hbn)
    have B := Lib.hid (B.out.trans (hbn.mono B.out.size))
    clear hbn Vn hd
    obtain ⟨p0, p1, p2, p3, p4⟩ := VA.out.box
    rw [hx4] at p1 p2 p3 p4
    have HX := Lib.hid hx4
    clear hx4
    go_wp2_with fail
    rw [← HX.out]
    clear HX
    refine (HQ.out _ _ VA.out.at_).mono ?_
    rintro e b5 ⟨L15, s15, A15, n15, c15, F15, m15, k15, rfl, hd, hb⟩
    have Z := Lib.hid (Z.out.on hb)
    have VA := Lib.hid (VA.out.on hb)
    have VB := Lib.hid (VB.out.on hb)
    have VX := Lib.hid (VX.out.on hb)
    have VP := Lib.hid (VP.out.on hb)
    have B := Lib.hid (B.out.trans (hb.mono B.out.size))
    clear hb p0 p1 p2 p3 p4 HQ
    obtain ⟨x5, hx5, hbn, Vn⟩ := var_new b5 hd.out
    have VQ := Lib.hid Vn
    have Z := Lib.hid (Z.out.on hbn)
    have VA := Lib.hid (VA.out.on hbn)
    have VB := Lib.hid (VB.out.on hbn)
    have VX := Lib.hid (VX.out.on hbn)
    have VP := Lib.hid (VP.out.on hbn)
    have B := Lib.hid (B.out.trans (hbn.mono B.out.size))
    clear hbn Vn hd
    obtain ⟨p0, p1, p2, p3, p4⟩ := VP.out.box
    rw [hx5] at p1 p2 p3 p4
    have HX := Lib.hid hx5
    clear hx5
    go_wp2_with fail
    rw [← HX.out]
    clear HX
    refine (HN.out _ _ VP.out.at_).mono ?_
    rintro e y1 he
    obtain ⟨g, rfl, hG⟩ := he.out
    have HS : Hid (GateW x5 y1 g PR (offers PR (gate0 PR) (z3.take 0)) [] []) := hG
    have HW0 : Hid (Word d0.L (z3.take 0)) := fun a ha => by simp at ha
    have HA0 : Hid (accA PR (z3.take 0) = true) := HEm.out
    have hnx : 0 < n13 := by have := VX.out.at_.eqs.2.2.1; have := HNx.out; omega
    have hnx2 : (0 : Int) < (n13 : Int) := by omega
    clear he hG HN HEm HNx p0 p1 p2 p3 p4
    clear VA VB VP
    go_wp2
    go_loopw [19] (fun i wr => ∃ k : Nat, k ≤ zl ∧ k ≤ 80 ∧ i = .int .i64 k ∧ Hid (Word d0.L (z3.take k)) ∧ Hid (accA PR (z3.take k) = true) ∧ Hid (GateW x5 wr g PR (offers PR (gate0 PR) (z3.take k)) [] [])) (fun i _ => 80 - (intOf i).toNat)
    case atStart => exact ⟨0, by omega, by omega, rfl, HW0, HA0, HS⟩
    case round =>
      clear HS HW0 HA0
      obtain ⟨k, hk, hk1, rfl, HWd, HAc, HS⟩ := hrel
      by_cases hlt : k < zl
      · by_cases h8 : k < 80
        · have hkz : k < z3.length := by rw [HL.out]; exact hlt
          have hZ := Z.out.on HS.out.below
          obtain ⟨ada, rfl, hab, hac, _⟩ := hZ.get (List.getElem?_eq_getElem hkz)
          have hlen : (z3.take (k + 1)).length = k + 1 := by rw [List.length_take]; omega
          have hlast : (z3.take (k + 1))[k]? = some z3[k] := by rw [List.getElem?_take_of_lt (by omega)]; exact List.getElem?_eq_getElem hkz
          have happ : z3.take (k + 1) = z3.take k ++ [z3[k]] := (List.take_append_getElem hkz).symm
          have e1 : (k : Int) < (zl : Int) := by omega
          have e2 : (k : Int) < 80 := by omega
          have e3 : k + 1 ≤ c3 := by omega
          have e4 : (k : Int) + 1 ≤ (c3 : Int) := by omega
          have e5 : IntKind.i64.wrap ((k : Int) + 1) = (k : Int) + 1 := IntWalk.i64_in _ ⟨by omega, by omega⟩
          have e6 : (0 : Int) ≤ (k : Int) + 1 := by omega
          have HK : Hid (∀ W, Below wr.heap.size wr W → W.cell? ⟨b5.heap.size, 0, none⟩ = some (.int .i64 L15) ∧ W.cell? ⟨b5.heap.size, 1, none⟩ = some (.int .i64 s15) ∧ W.cell? ⟨b5.heap.size, 2, none⟩ = some (.slice A15 n15 c15) ∧ W.cell? ⟨b5.heap.size, 3, none⟩ = some (.slice F15 m15 k15)) := fun W hW => by
            have h := (VQ.out.on (HS.out.below.trans (hW.mono HS.out.below.size))).box
            exact ⟨h.c0, h.c1, h.c2, h.c3⟩
          have HD : Hid (Below wr.heap.size wr wr.drew) := (Below.refl _ _).drew
          have hsa : Small z3[k] := hZ.2 _ (List.getElem_mem hkz)
          clear hZ hab hac
          by_cases hl : 0 ≤ z3[k] ∧ z3[k] < d0.L
          · as_aux_lemma =>
            have hw2 : Word d0.L (z3.take (k + 1)) := by
              rw [happ]
              exact word_snoc.2 ⟨HWd.out, hl.1, hl.2⟩
            obtain ⟨bq, hbq⟩ : ∃ b, accA PQ (z3.take (k + 1)) = b := ⟨_, rfl⟩
            have fq : Wo.Fine PQ.L (z3.take (k + 1)) := ⟨by rw [HPQ.out.2]; exact ⟨HGG.out.2.2, HGG.out.2.1⟩, by omega, by rw [HPQ.out.2]; exact hw2⟩
            have HOo : Hid (∀ W v, DfaAt W W.heap.size v PQ → IntsAt W W.heap.size (some ada) z3 → Calls Try.prog 11 #[v, .slice (some ada) (k + 1) c3] W fun e w' => e = .returned (.tuple #[.bool bq, .nilIface]) ∧ Below W.heap.size W w') := fun W v h hZ => by
              have h1 := acc_gives (cz := c3) (E := .nilIface) h (ints_take' hZ (k + 1)) (by omega) ((accOut_ok HPQ.out.1 fq).trans hbq) (congrArg errV (accErr_ok HPQ.out.1 fq))
              rwa [hlen] at h1
            rcases bq with _ | _
            · as_aux_lemma =>
              clear hbq fq hw2 hlen hlast happ hl hsa
              generalize z3[k] = a at *
              go_wp2_with fail
              go_region_held3 (fun W => W.cell? ⟨b5.heap.size, 0, none⟩ = some (.int .i64 L15) ∧ W.cell? ⟨b5.heap.size, 1, none⟩ = some (.int .i64 s15) ∧ W.cell? ⟨b5.heap.size, 2, none⟩ = some (.slice A15 n15 c15) ∧ W.cell? ⟨b5.heap.size, 3, none⟩ = some (.slice F15 m15 k15))
                (first | exact HK.out _ HB6.out | exact HK.out _ HD.out)
                (first | (go_at_call 11; refine (HOo.out _ _ (VQ.out.at_.on (HS.out.below.trans (HD.out.mono HS.out.below.size))) (Z.out.on (HS.out.below.trans (HD.out.mono HS.out.below.size)))).mono ?_; rintro e w6 ⟨rfl, hb⟩; have HB6 := Lib.hid (HD.out.trans (hb.mono HD.out.size)); clear hb))
              all_goals
                have HSB : Hid (Below x5.heap.size x5 w6) := HS.out.below.trans (HB6.out.mono HS.out.below.size)
                have hq2 := (VX.out.on HSB.out).box.c2
                have HE := Lib.hid (B.out.trans (HSB.out.mono B.out.size))
                clear HK HD HOo VX VQ Z HS HSB HB6
                go_wp2
                go_ret
                exact ⟨rfl, HE.out⟩
            · as_aux_lemma =>
              have hok := gok_offers (gok_start HGG.out.1) (z3.take k)
              have hof := offer_acc HGG.out.1 (w := z3.take k) (a := z3[k]) (by rw [HGG2.out, ← happ]; exact hw2) (by rw [List.length_take]; omega)
              rw [← happ] at hof
              obtain ⟨hf1, hf2, _⟩ := hof
              obtain ⟨ok, hok2⟩ : ∃ b, accA PR (z3.take (k + 1)) = b := ⟨_, rfl⟩
              rw [hok2] at hf2
              have HOf : Hid (∀ W, GateW x5 W g PR (offers PR (gate0 PR) (z3.take k)) [] [] → Calls Try.prog 17 #[.pointer (some ⟨g, 0, none⟩), .int .i64 z3[k]] W fun e w' => Hid (e = .returned (.tuple #[.bool ok, .nilIface])) ∧ Hid (GateW x5 w' g PR (offers PR (gate0 PR) (z3.take (k + 1))) [] [])) := fun W h => by
                have h1 := offer_any x5 W g PR _ [] [] z3[k] h HGG.out.1.good hok hsa
                rw [hf1, hf2, ← offers_take PR (gate0 PR) z3 hkz] at h1
                exact h1
              have HFree : Hid (ok = false → has a2 z3[k] = false) := fun h => by
                rcases e : has a2 z3[k] with _ | _
                · rfl
                · have h1 := HSG.out (z3.take k) z3[k] (by rw [← happ]; exact hw2) HAc.out (by rw [← happ]; exact hbq) e
                  rw [← happ, hok2, h] at h1; cases h1
              have HW2 := Lib.hid hw2
              have HOk := Lib.hid hok2
              have hbnd : 0 ≤ z3[k] ∧ z3[k] < 6 := ⟨hl.1, by have := hl.2; have := HGG.out.2.1; omega⟩
              have HCell : Hid (∀ W, Below x5.heap.size x5 W → W.cell? (ada.add k) = some (.int .i64 z3[k])) := fun W hW => by
                obtain ⟨ad, e, _, hc, _⟩ := (Z.out.on hW).get (List.getElem?_eq_getElem hkz)
                obtain rfl := Option.some.inj e
                exact hc
              clear hbq fq hlen hlast happ hl hok hf1 hf2 hok2 hw2 hsa
              generalize z3[k] = a at *
              go_wp2_with fail
              go_region_held3 (fun W => W.cell? ⟨b5.heap.size, 0, none⟩ = some (.int .i64 L15) ∧ W.cell? ⟨b5.heap.size, 1, none⟩ = some (.int .i64 s15) ∧ W.cell? ⟨b5.heap.size, 2, none⟩ = some (.slice A15 n15 c15) ∧ W.cell? ⟨b5.heap.size, 3, none⟩ = some (.slice F15 m15 k15))
                (first | exact HK.out _ HB6.out | exact HK.out _ HD.out)
                (first | (go_at_call 11; refine (HOo.out _ _ (VQ.out.at_.on (HS.out.below.trans (HD.out.mono HS.out.below.size))) (Z.out.on (HS.out.below.trans (HD.out.mono HS.out.below.size)))).mono ?_; rintro e w6 ⟨rfl, hb⟩; have HB6 := Lib.hid (HD.out.trans (hb.mono HD.out.size)); clear hb))
              all_goals
                have HSB : Hid (Below x5.heap.size x5 w6) := HS.out.below.trans (HB6.out.mono HS.out.below.size)
                have hac := HCell.out w6 HSB.out
                have HS6 := Lib.hid (HS.out.on HB6.out)
                clear HK HD HOo VX VQ HS HB6
                go_wp2_with fail
                refine (HOf.out _ HS6.out).mono ?_
                rintro e w7 ⟨he, HS7⟩
                obtain rfl : e = .returned (.tuple #[.bool ok, .nilIface]) := he.out
                have hac := HCell.out w7 HS7.out.below
                have HE := Lib.hid (B.out.trans (HS7.out.below.mono B.out.size))
                clear HOf HS6 he HSB HCell Z
                rcases ok with _ | _
                · have hfr := HFree.out rfl
                  have HBt : Hid (∀ W, Calls Try.prog 14 #[.int .i64 a2, .int .i64 a] W fun e w' => Hid (e = .returned (.bool false)) ∧ W = w') := fun W => by
                    have h3 := bit_any a2 a W HA2.out.1 (by have := HA2.out.2; omega) hbnd.1 (by omega)
                    rwa [hfr] at h3
                  clear hfr HFree HS7
                  go_wp2_with fail
                  refine (HBt.out _).mono ?_
                  rintro e w9 ⟨he, rfl⟩
                  obtain rfl : e = .returned (.bool false) := he.out
                  clear he HBt
                  go_wp2
                  go_ret
                  exact ⟨rfl, HE.out⟩
                · clear HFree
                  go_wp2
                  go_roundw
                  case rel => exact ⟨k + 1, by omega, by omega, by go_num, HW2, HOk, HS7⟩
                  case measure => simp [intOf]; omega
          · as_aux_lemma =>
            have hbad : chk PQ.L (z3.take (k + 1)) = 1 := chk_bad (by rw [HPQ.out.2]; have := HGG.out.2; omega) (by omega) (k := k) (by omega) (by
              obtain ⟨h1, h2⟩ := List.getElem?_eq_some_iff.1 hlast
              rw [h2, HPQ.out.2]
              omega)
            have he : accErr PQ (z3.take (k + 1)) = 1 := by unfold accErr; rw [if_neg (by have := dchk_iff.2 HPQ.out.1; omega), hbad]
            have HOo : Hid (∀ W v, DfaAt W W.heap.size v PQ → IntsAt W W.heap.size (some ada) z3 → Calls Try.prog 11 #[v, .slice (some ada) (k + 1) c3] W fun e w' => e = .returned (.tuple #[.bool false, errI 1]) ∧ Below W.heap.size W w') := fun W v h hZ => by
              have h1 := acc_gives (cz := c3) (b := false) (E := errI 1) h (ints_take' hZ (k + 1)) (by omega) (accOut_bad (by rw [he]; omega)) (by rw [he]; rfl)
              rwa [hlen] at h1
            clear hbad he hlen hlast happ hl hsa
            generalize z3[k] = a at *
            go_wp2_with fail
            go_region_held3 (fun W => W.cell? ⟨b5.heap.size, 0, none⟩ = some (.int .i64 L15) ∧ W.cell? ⟨b5.heap.size, 1, none⟩ = some (.int .i64 s15) ∧ W.cell? ⟨b5.heap.size, 2, none⟩ = some (.slice A15 n15 c15) ∧ W.cell? ⟨b5.heap.size, 3, none⟩ = some (.slice F15 m15 k15))
              (first | exact HK.out _ HB6.out | exact HK.out _ HD.out)
              (first | (go_at_call 11; refine (HOo.out _ _ (VQ.out.at_.on (HS.out.below.trans (HD.out.mono HS.out.below.size))) (Z.out.on (HS.out.below.trans (HD.out.mono HS.out.below.size)))).mono ?_; rintro e w6 ⟨rfl, hb⟩; have HB6 := Lib.hid (HD.out.trans (hb.mono HD.out.size)); clear hb))
            all_goals
              have HSB : Hid (Below x5.heap.size x5 w6) := HS.out.below.trans (HB6.out.mono HS.out.below.size)
              have hq2 := (VX.out.on HSB.out).box.c2
              have HE := Lib.hid (B.out.trans (HSB.out.mono B.out.size))
              clear HK HD HOo VX VQ Z HS HSB HB6
              go_wp2
              go_ret
              exact ⟨rfl, HE.out⟩
        · obtain rfl : k = 80 := by omega
          have e1 : ((80 : Nat) : Int) < (zl : Int) := by omega
          have hq2 := (VX.out.on HS.out.below).box.c2
          have HE := Lib.hid (B.out.trans (HS.out.below.mono B.out.size))
          clear HS VX VQ Z
          go_wp2
          go_ret
          exact ⟨rfl, HE.out⟩
      · obtain rfl : k = zl := by omega
        have hq2 := (VX.out.on HS.out.below).box.c2
        have HE := Lib.hid (B.out.trans (HS.out.below.mono B.out.size))
        clear HS VX VQ Z
        go_wp2
        go_ret
        exact ⟨rfl, HE.out⟩
  · obtain ⟨E, hE⟩ := errV_bad hk
    have HM := Lib.hid (fun W v z (h : DfaAt W W.heap.size v d0) (h2 : DfaAt W W.heap.size z d1) => smake_gives (E := errI E) h h2 hs hE)
    clear hE hk hs m3 hzl
    go_enter Try.func7, Try.ntmps7
    go_wp2_with fail
    rw [← W0.out]
    clear W0
    refine (HF.out _).mono ?_
    rintro e b1 he
    obtain ⟨xf, rfl, hof⟩ := he.out
    have hb := hof.below
    have HX0 := Lib.hid hof.at_
    have Z := Lib.hid (Z.out.on hb)
    have VA := Lib.hid (VA.out.on hb)
    have VB := Lib.hid (VB.out.on hb)
    have B := Lib.hid (B.out.trans (hb.mono B.out.size))
    clear he hof hb HF
    go_wp2_with fail
    refine (HFact.out _ _ HX0.out).mono ?_
    rintro e b2 ⟨rfl, hb⟩
    have Z := Lib.hid (Z.out.on hb)
    have VA := Lib.hid (VA.out.on hb)
    have VB := Lib.hid (VB.out.on hb)
    have B := Lib.hid (B.out.trans (hb.mono B.out.size))
    clear hb  HX0 HFact
    obtain ⟨p0, p1, p2, p3, p4⟩ := VA.out.box
    obtain ⟨q0, q1, q2, q3, q4⟩ := VB.out.box
    go_wp2_with fail
    refine (HM.out _ _ _ VA.out.at_ VB.out.at_).mono ?_
    rintro e b3 ⟨L13, s13, A13, n13, c13, F13, m13, k13, rfl, hd, hb⟩
    have Z := Lib.hid (Z.out.on hb)
    have VA := Lib.hid (VA.out.on hb)
    have VB := Lib.hid (VB.out.on hb)
    have B := Lib.hid (B.out.trans (hb.mono B.out.size))
    clear hb p0 p1 p2 p3 p4 q0 q1 q2 q3 q4 HM
    obtain ⟨x3, hx3, hbn, Vn⟩ := var_new b3 hd.out
    have VX := Lib.hid Vn
    have Z := Lib.hid (Z.out.on hbn)
    have VA := Lib.hid (VA.out.on hbn)
    have VB := Lib.hid (VB.out.on hbn)
    have B := Lib.hid (B.out.trans (hbn.mono B.out.size))
    clear hbn Vn hd
    have hz := VX.out.at_.eqs.2.2.1
    change (0 : Nat) = _ at hz
    subst hz
    obtain ⟨p0, p1, p2, p3, p4⟩ := VX.out.box
    rw [hx3] at p1 p2 p3 p4
    rw [hx3] at B
    clear hx3
    go_wp2
    go_ret
    exact ⟨rfl, B.out⟩


set_option maxRecDepth 100000 in
theorem lifted (os : Os) (started : os.Started) (H : Type) (enc : TypeId × Value → H) :
    ReturnsInHanded {} Try.checked os 7 .any (Rows.topSuperSpec.pre6 enc Try.prog Try.f7 Rows.topSuperRow.domain false) (Rows.topSuperSpec.post enc Try.prog Try.f7 false true false false) := by
  refine returnsInHanded_of_change_sized (C := Try.checked) own started (by kernel_rfl) Try.func7
    (ChangeSpec.witness6 (enc := enc) (C := Try.checked) false ⟨#[], #[.agg #[.int .i64 0, .int .i64 0, .slice none 0 0, .slice none 0 0], .agg #[.int .i64 0, .int .i64 0, .slice none 0 0, .slice none 0 0], .int .i64 0, .slice none 0 0], []⟩ 8 (by kernel_rfl) (by kernel_rfl) (by kernel_rfl) (by kernel_rfl)) ?_
  intro W base args ds gs before hval0 hW hcnd hsz0 _
  have hval : ∀ (j : Nat) t v, Try.f7.params[j]? = some t → args[j]? = some v → Value.okWide Try.prog W .any base t v := hval0
  have hsz : (DataW.weightsEach Try.prog (Try.f7.params.toList ++ Rows.topSuperSpec.plain.varTypes Try.prog) (ds ++ gs)).all (· ≤ reachBytes) = true := hsz0
  have hW' := hW
  obtain ⟨p, q, hA0, hV0, rfl, hfz, hnd⟩ := hW
  have hV : DataW.TrodVars enc Try.prog W (fun _ => true) [] gs q := hV0
  have hA : DataW.TrodAll enc Try.prog W 0 (fun _ => true) true Try.f7.params.toList args.toList ds p := hA0
  rw [Try.params7] at hA hval hsz
  obtain ⟨v0, vs0, d0, ds0, p0, q0, hargs, rfl, rfl, h0, rr0⟩ := trodAll_cons hA
  obtain ⟨v1, vs1, d1, ds1, p1, q1, rfl, rfl, rfl, h1, rr1⟩ := trodAll_cons rr0
  obtain ⟨v2, vs2, d2, ds2, p2, q2, rfl, rfl, rfl, h2, rr2⟩ := trodAll_cons rr1
  obtain ⟨v3, vs3, d3, ds3, p3, q3, rfl, rfl, rfl, h3, rr3⟩ := trodAll_cons rr2
  obtain ⟨rfl, rfl, rfl⟩ := trodAll_nil rr3
  obtain rfl : args = #[v0, v1, v2, v3] := by cases args; simp_all
  obtain ⟨rfl, rfl⟩ := trodVars_none hV
  have k0 := h0
  have lt0 : ∀ x ∈ p0, x.block < W.heap.size := by obtain ⟨m, hm⟩ := k0; exact DataW.trod_lt m _ _ _ hm
  have k1 := h1
  have lt1 : ∀ x ∈ p1, x.block < W.heap.size := by obtain ⟨m, hm⟩ := k1; exact DataW.trod_lt m _ _ _ hm
  have k2 := h2
  have lt2 : ∀ x ∈ p2, x.block < W.heap.size := by obtain ⟨m, hm⟩ := k2; exact DataW.trod_lt m _ _ _ hm
  have k3 := h3
  have lt3 : ∀ x ∈ p3, x.block < W.heap.size := by obtain ⟨m, hm⟩ := k3; exact DataW.trod_lt m _ _ _ hm
  obtain ⟨D0, x0⟩ : ∃ d : Df.Aut, Df.DfaAt W W.heap.size v0 d := Df.dfa_open (hval 0 25 v0 rfl rfl) h0
  obtain ⟨D1, x1⟩ : ∃ d : Df.Aut, Df.DfaAt W W.heap.size v1 d := Df.dfa_open (hval 1 25 v1 rfl rfl) h1
  obtain ⟨a2, rfl, rfl, rfl, w2⟩ := open_int Try.underlying3 (hval 2 3 v2 rfl rfl) h2
  obtain ⟨l2, hh2⟩ := bounds_i64 w2
  obtain ⟨A3, len3, c3, rfl⟩ := okWide_slice Try.underlying26 (hval 3 26 v3 rfl rfl)
  obtain ⟨z3, rfl, x3, r3, m3⟩ : ∃ zs : List Int, len3 = zs.length ∧ IntsAt W W.heap.size A3 zs ∧ zs.length ≤ 17592186043904 ∧ zs.length ≤ c3 := by
    obtain ⟨fuel, hf⟩ := h3
    rcases open_ints Try.underlying26 Try.underlying3 (by kernel_rfl) hf with ⟨hcs, _⟩ | ⟨x, l, c, zs, hcs, _, hl, hm, hz, hx, hcell, hwz⟩
    · simp [Value.cells] at hcs
      obtain ⟨rfl, rfl, rfl⟩ := hcs
      exact ⟨[], rfl, IntsAt.nil _ _ _, by simp, by simp⟩
    · simp [Value.cells] at hcs
      obtain ⟨rfl, rfl, rfl⟩ := hcs
      have hd := congrArg Prod.fst hx
      simp only at hd
      have := sized_slice hsz (j := 3) (t := 26) (e := 3) rfl (by rw [hd]; rfl) Try.underlying26
      rw [(show Try.prog.bytesOf 3 = 8 by kernel_rfl)] at this
      simp only [reachBytes, lits, List.length_map, List.length_take, List.length_drop] at this
      have hz' : zs.length = c3 := by simpa using hz
      exact ⟨zs.take len3, by rw [List.length_take]; omega, intsAt_of_open hcell hwz len3, by rw [List.length_take]; omega, by rw [List.length_take]; omega⟩
  clear hA0 hval0
  refine (walk v0 D0 v1 D1 a2 A3 c3 z3 W x0 x1 l2 hh2 x3 r3 m3).mono fun e W' ⟨he, bel⟩ => ?_
  subst he
  exact ⟨_, rfl, _, _, _, [], _, [], hW', trodAll_mk1 (shut_bool Try.underlying4 _), (trodAll_cons_mk (Below.trod laidOut (by kernel_rfl) (of_decide_eq_true (by kernel_rfl)) k0 bel lt0) (trodAll_cons_mk (Below.trod laidOut (by kernel_rfl) (of_decide_eq_true (by kernel_rfl)) k1 bel lt1) (trodAll_cons_mk (Below.trod laidOut (by kernel_rfl) (of_decide_eq_true (by kernel_rfl)) k2 bel lt2) (trodAll_cons_mk (Below.trod laidOut (by kernel_rfl) (of_decide_eq_true (by kernel_rfl)) k3 bel lt3) trodAll_mk0)))), rfl, bel.frame _, fun h => by cases h⟩

theorem over : Rows.topSuperRow.holds Try.pinned (OpenSpec.ofChange Rows.topSuperSpec) :=
  OpenClaim.holds_of_wide 7 Try.f7 rfl rfl rfl rfl rfl rfl rfl ⟨rfl, rfl, rfl, rfl, rfl⟩ rfl rfl rfl rfl rfl (by kernel_rfl) Try.func7 (by kernel_rfl)
    (of_decide_eq_true (by kernel_rfl)) (by unfold Func.isWrapper; rw [if_neg (of_decide_eq_false (by kernel_rfl))]; exact ⟨rfl, rfl⟩)
    (fun os started H enc _ => lifted os started H enc)
theorem proved : Rows.TopSuperSaid := over
#print axioms proved
end Go.Proofs.Ytbciefeipiphiaa.topSuper
