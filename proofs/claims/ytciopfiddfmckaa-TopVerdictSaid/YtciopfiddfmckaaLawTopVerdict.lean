/-
  The statement TopVerdictSaid of this seat, proved: for every input the law returns true and its arguments read behind the call as before. Conditions: none but the row's own (each argument within the reach).
-/
import Derived.Test.YtciopfiddfmckaaRows
import Derived.Test.YtciopfiddfmckaaWords
import Derived.WalkKit
import Derived.ProofKit
import Derived.OpenShut
import Derived.ShutString
import Derived.ChangeOld
import Derived.Below
import Derived.SizedLaws
import Derived.Lib.Hide
import Derived.Test.YtciopfiddfmckaaGateL
import Derived.Test.YtciopfiddfmckaaTopM
import Derived.Test.YtciopfiddfmckaaVerW
import Derived.Test.YtciopfiddfmckaaTwo
namespace Go.Proofs.Ytciopfiddfmckaa.topVerdict
open Go.ChangeShapes Go.WideShapes Go.ChangeAt Go.RowKit Go.IntWalk Go.Proofs.Ytciopfiddfmckaa.Wd
open Go.ChangeMaps (open_string shut_string)
set_option linter.unusedVariables false

theorem own : ownKnob Try.prog.godebug = none := by kernel_rfl
theorem laidOut : laidOutB Try.prog = true := by kernel_rfl
open Go.Proofs.Ytciopfiddfmckaa.Wo Go.Proofs.Ytciopfiddfmckaa.Df Go.Proofs.Ytciopfiddfmckaa.Rc Go.Proofs.Ytciopfiddfmckaa.Sm Go.Proofs.Ytciopfiddfmckaa.Sa Go.Proofs.Ytciopfiddfmckaa.Ga
open Go.Proofs.Ytciopfiddfmckaa.Ve
set_option maxRecDepth 100000 in
theorem pairs_of : ofOut pairsA [1] = (1, 0) := by decide +kernel
theorem fact_gives (W : World) (v : Value) (h : DfaAt W W.heap.size v pairsA) : Calls Try.prog 25 #[v, .slice (some ⟨W.heap.size, 0, none⟩) 1 1] (W.alloc (.cells #[.int .i64 1] 3)) fun e w' => e = .returned (.tuple #[.int .i64 1, .nilIface]) ∧ Below W.heap.size W w' :=
  (of_gives (cz := 1) (h.on (below_alloc _ _)) (one_at W 1 ⟨by decide, by decide⟩) (by simp) pairs_of rfl).mono fun e w' ⟨h1, h2⟩ => ⟨h1, (below_alloc _ _).trans (h2.mono (by simp))⟩

set_option maxRecDepth 100000 in
set_option maxHeartbeats 4000000 in
theorem walk (v0 : Value) (d0 : Df.Aut) (A1 : Option Addr) (c1 : Nat) (z1 : List Int) (w : World) (h0 : Df.DfaAt w w.heap.size v0 d0) (v1 : IntsAt w w.heap.size A1 z1) (r1 : z1.length ≤ 17592186043904) (m1 : z1.length ≤ c1) :
    Calls Try.prog 9 #[v0, .slice A1 z1.length c1] w fun e w' => e = .returned (.bool true) ∧ Below w.heap.size w w' := by
  have hr : z1.length ≤ 17592186044416 := by omega
  obtain ⟨L0, s0, A0, n0, c0, F0, m0, k0, rfl⟩ := h0.form
  have hN0 := h0.eqs.2.2.1
  obtain ⟨b0, hu0, hb0, VA0⟩ := var_new w h0
  have VA := Lib.hid VA0
  have B := Lib.hid hb0
  have W0 := Lib.hid hu0
  have HN0 := Lib.hid hN0
  have Z := Lib.hid (v1.on hb0)
  clear VA0 hb0 hu0 h0 hN0 v1
  clear HN0
  have HF := Lib.hid pairs_any
  have HFact := Lib.hid fact_gives
  obtain ⟨zl, hzl⟩ : ∃ zl, z1.length = zl := ⟨_, rfl⟩
  rw [hzl] at m1
  by_cases hg : gchk d0 = 0
  · have gg := gchk_iff.1 hg
    have HN := Lib.hid (fun W v (h : DfaAt W W.heap.size v d0) => gnew_ok v d0 W h gg)
    have HGG := Lib.hid gg
    rw [hzl]
    have HL := Lib.hid hzl
    clear hg gg hzl
    go_enter Try.func9, Try.ntmps9
    go_wp2_with fail
    rw [← W0.out]
    clear W0
    refine (HF.out _).mono ?_
    rintro e b1 he
    obtain ⟨xf, rfl, hof⟩ := he.out
    have hb := hof.below
    have HX0 := Lib.hid hof.at_
    have Z := Lib.hid (Z.out.on hb)
    have VA := Lib.hid (VA.out.on hb)
    have B := Lib.hid (B.out.trans (hb.mono B.out.size))
    clear he hof hb HF
    go_wp2_with fail
    refine (HFact.out _ _ HX0.out).mono ?_
    rintro e b2 ⟨rfl, hb⟩
    have Z := Lib.hid (Z.out.on hb)
    have VA := Lib.hid (VA.out.on hb)
    have B := Lib.hid (B.out.trans (hb.mono B.out.size))
    clear hb  HX0 HFact
    obtain ⟨p0, p1, p2, p3, p4⟩ := VA.out.box
    go_wp2_with fail
    refine (HN.out _ _ VA.out.at_).mono ?_
    rintro e x1 he
    obtain ⟨g, rfl, hG⟩ := he.out
    have HS : Hid (GateW b2 x1 g d0 (offers d0 (gate0 d0) (z1.take 0)) [] []) := hG
    have HW0 : Hid (Word d0.L (z1.take 0)) := fun a ha => by simp at ha
    clear he hG HN p0 p1 p2 p3 p4
    go_wp2
    go_loopw [9] (fun i wr => ∃ k : Nat, k ≤ zl ∧ k ≤ 80 ∧ i = .int .i64 k ∧ Hid (Word d0.L (z1.take k)) ∧ Hid (GateW b2 wr g d0 (offers d0 (gate0 d0) (z1.take k)) [] [])) (fun i _ => 80 - (intOf i).toNat)
    case atStart => exact ⟨0, by omega, by omega, rfl, HW0, HS⟩
    case round =>
      clear HS HW0
      obtain ⟨k, hk, hk1, rfl, HWd, HS⟩ := hrel
      by_cases hlt : k < zl
      · by_cases h8 : k < 80
        · have hkz : k < z1.length := by rw [HL.out]; exact hlt
          have hZ := Z.out.on HS.out.below
          obtain ⟨ada, rfl, hab, hac, _⟩ := hZ.get (List.getElem?_eq_getElem hkz)
          have hok := gok_offers (gok_start HGG.out) (z1.take k)
          have hol := offers_len d0 (z1.take k) (gate0 d0)
          have h80 : (offers d0 (gate0 d0) (z1.take k)).out.length < 80 := by rw [List.length_take, show (gate0 d0).out.length = 0 from rfl] at hol; omega
          have HOf := Lib.hid (offer_any b2 wr g d0 _ [] [] z1[k] HS.out HGG.out.good hok (hZ.2 _ (List.getElem_mem hkz)))
          rw [offer_err h80, ← offers_take d0 (gate0 d0) z1 hkz] at HOf
          have hlen : (z1.take (k + 1)).length = k + 1 := by rw [List.length_take]; omega
          have hlast : (z1.take (k + 1))[k]? = some z1[k] := by rw [List.getElem?_take_of_lt (by omega)]; exact List.getElem?_eq_getElem hkz
          have happ : z1.take (k + 1) = z1.take k ++ [z1[k]] := (List.take_append_getElem hkz).symm
          have e1 : (k : Int) < (zl : Int) := by omega
          have e2 : (k : Int) < 80 := by omega
          have e3 : k + 1 ≤ c1 := by omega
          have e4 : (k : Int) + 1 ≤ (c1 : Int) := by omega
          have e5 : IntKind.i64.wrap ((k : Int) + 1) = (k : Int) + 1 := IntWalk.i64_in _ ⟨by omega, by omega⟩
          have e6 : (0 : Int) ≤ (k : Int) + 1 := by omega
          rcases hl : isL d0 z1[k] with _ | _
          · rw [hl] at HOf
            have hof : ofOut d0 (z1.take (k + 1)) = (0, 1) := by
              have hz0 : dchk d0 = 0 := dchk_iff.2 HGG.out.good
              have hL1 := HGG.out.good.l1
              have hL6 := HGG.out.good.l6
              have hbad : chk d0.L (z1.take (k + 1)) = 1 := chk_bad (by omega) (by omega) (k := k) (by omega) (by
                obtain ⟨h1, h2⟩ := List.getElem?_eq_some_iff.1 hlast
                rw [h2]
                exact Decidable.byContradiction fun h3 => by rw [isL_iff.2 ⟨by omega, by omega⟩] at hl; cases hl)
              have he : accErr d0 (z1.take (k + 1)) = 1 := by unfold accErr; rw [if_neg (by omega), hbad]
              rw [ofOut_bad (by omega), he]
            have HOo : Hid (∀ W v, DfaAt W W.heap.size v d0 → IntsAt W W.heap.size (some ada) z1 → Calls Try.prog 25 #[v, .slice (some ada) (k + 1) c1] W fun e w' => e = .returned (.tuple #[.int .i64 0, errI 1]) ∧ Below W.heap.size W w') := fun W v h hZ => by
              have h1 := of_gives (cz := c1) (E := errI 1) h (ints_take' hZ (k + 1)) (by omega) hof rfl
              rwa [hlen] at h1
            clear hof hok hol h80 hl hlen hlast happ hab
            generalize (offer d0 (offers d0 (gate0 d0) (z1.take k)) z1[k]).2.1 = b at *
            generalize z1[k] = a at *
            clear hkz HWd
            have VAw := Lib.hid (VA.out.on HS.out.below)
            clear HS hZ
            go_wp2_with fail
            refine HOf.out.mono ?_
            rintro e w3 ⟨he, HG⟩
            obtain rfl : e = .returned (.tuple #[.bool b, errI 1]) := he.out
            clear hac HOf VAw
            have VA := Lib.hid (VA.out.on HG.out.below)
            have Z := Lib.hid (Z.out.on HG.out.below)
            have HK : Hid (∀ W, Below w3.heap.size w3 W → W.cell? ⟨w.heap.size, 0, none⟩ = some (.int .i64 L0) ∧ W.cell? ⟨w.heap.size, 1, none⟩ = some (.int .i64 s0) ∧ W.cell? ⟨w.heap.size, 2, none⟩ = some (.slice A0 n0 c0) ∧ W.cell? ⟨w.heap.size, 3, none⟩ = some (.slice F0 m0 k0)) := fun W hW => ⟨(VA.out.box.on hW).c0, (VA.out.box.on hW).c1, (VA.out.box.on hW).c2, (VA.out.box.on hW).c3⟩
            have HD : Hid (Below w3.heap.size w3 w3.drew) := (Below.refl _ _).drew
            go_wp2_with fail
            go_region_held3 (fun W => W.cell? ⟨w.heap.size, 0, none⟩ = some (.int .i64 L0) ∧ W.cell? ⟨w.heap.size, 1, none⟩ = some (.int .i64 s0) ∧ W.cell? ⟨w.heap.size, 2, none⟩ = some (.slice A0 n0 c0) ∧ W.cell? ⟨w.heap.size, 3, none⟩ = some (.slice F0 m0 k0))
              (first | exact HK.out _ HB6.out | exact HK.out _ HD.out)
              (first | (go_at_call 25; refine (HOo.out _ _ (VA.out.at_.on HD.out) (Z.out.on HD.out)).mono ?_; rintro e w6 ⟨rfl, hb⟩; have HB6 := Lib.hid (HD.out.trans (hb.mono HD.out.size)); clear hb))
            all_goals
              have HG := Lib.hid (HG.out.on HB6.out)
              clear HK HD HOo VA Z HB6
              have HE := Lib.hid (B.out.trans (HG.out.below.mono B.out.size))
              clear HG
              go_wp2
              go_ret
              exact ⟨rfl, HE.out⟩
          · rw [hl] at HOf
            have hw2 : Word d0.L (z1.take (k + 1)) := by
              rw [happ]
              exact word_one HWd.out (isL_iff.1 hl).1 (isL_iff.1 hl).2
            obtain ⟨hv1, hv2⟩ := verd_shut HGG.out hw2 (by omega)
            have hof : ofOut d0 (z1.take (k + 1)) = (((verd d0 (runA d0 d0.s.toNat (z1.take (k + 1))) : Nat) : Int), 0) := ofOut_ok (acc_word HGG.out.good hw2 (by omega)).1
            have hv3 := verd_le d0 (runA d0 d0.s.toNat (z1.take (k + 1)))
            generalize verd d0 (runA d0 d0.s.toNat (z1.take (k + 1))) = y at *
            have HW2 := Lib.hid hw2
            have HOo : Hid (∀ W v, DfaAt W W.heap.size v d0 → IntsAt W W.heap.size (some ada) z1 → Calls Try.prog 25 #[v, .slice (some ada) (k + 1) c1] W fun e w' => e = .returned (.tuple #[.int .i64 (y : Int), .nilIface]) ∧ Below W.heap.size W w') := fun W v h hZ => by
              have h1 := of_gives (cz := c1) (E := .nilIface) h (ints_take' hZ (k + 1)) (by omega) hof rfl
              rwa [hlen] at h1
            have hy : y = 0 ∨ y = 2 ∨ y = 3 := by omega
            obtain ⟨sh, hsh⟩ : ∃ sh, (offers d0 (gate0 d0) (z1.take (k + 1))).shut = sh := ⟨_, rfl⟩
            rw [hsh] at hv2
            have HSh : Hid (∀ W, GateW b2 W g d0 (offers d0 (gate0 d0) (z1.take (k + 1))) [] [] → Calls Try.prog 23 #[.pointer (some ⟨g, 0, none⟩)] W fun e w' => e = .returned (.bool sh) ∧ w' = W) := fun W h => by
              have h1 := shut_any _ _ _ _ _ _ _ h
              rwa [hsh] at h1
            clear hv1 hv3 hsh hw2
            clear hof hok hol h80 hl hlen hlast happ hab
            generalize (offer d0 (offers d0 (gate0 d0) (z1.take k)) z1[k]).2.1 = b at *
            generalize z1[k] = a at *
            clear hkz HWd
            have VAw := Lib.hid (VA.out.on HS.out.below)
            clear HS hZ
            go_wp2_with fail
            refine HOf.out.mono ?_
            rintro e w3 ⟨he, HG⟩
            obtain rfl : e = .returned (.tuple #[.bool b, .nilIface]) := he.out
            clear hac HOf VAw
            have VA := Lib.hid (VA.out.on HG.out.below)
            have Z := Lib.hid (Z.out.on HG.out.below)
            have HK : Hid (∀ W, Below w3.heap.size w3 W → W.cell? ⟨w.heap.size, 0, none⟩ = some (.int .i64 L0) ∧ W.cell? ⟨w.heap.size, 1, none⟩ = some (.int .i64 s0) ∧ W.cell? ⟨w.heap.size, 2, none⟩ = some (.slice A0 n0 c0) ∧ W.cell? ⟨w.heap.size, 3, none⟩ = some (.slice F0 m0 k0)) := fun W hW => ⟨(VA.out.box.on hW).c0, (VA.out.box.on hW).c1, (VA.out.box.on hW).c2, (VA.out.box.on hW).c3⟩
            have HD : Hid (Below w3.heap.size w3 w3.drew) := (Below.refl _ _).drew
            go_wp2_with fail
            go_region_held3 (fun W => W.cell? ⟨w.heap.size, 0, none⟩ = some (.int .i64 L0) ∧ W.cell? ⟨w.heap.size, 1, none⟩ = some (.int .i64 s0) ∧ W.cell? ⟨w.heap.size, 2, none⟩ = some (.slice A0 n0 c0) ∧ W.cell? ⟨w.heap.size, 3, none⟩ = some (.slice F0 m0 k0))
              (first | exact HK.out _ HB6.out | exact HK.out _ HD.out)
              (first | (go_at_call 25; refine (HOo.out _ _ (VA.out.at_.on HD.out) (Z.out.on HD.out)).mono ?_; rintro e w6 ⟨rfl, hb⟩; have HB6 := Lib.hid (HD.out.trans (hb.mono HD.out.size)); clear hb))
            all_goals
              have HG := Lib.hid (HG.out.on HB6.out)
              clear HK HD HOo VA Z HB6
              rcases hy with rfl | rfl | rfl
              · obtain rfl : sh = true := by exact hv2.2 rfl
                clear hv2
                go_wp2_with fail
                refine (HSh.out _ HG.out).mono ?_
                rintro e w7 ⟨rfl, rfl⟩
                clear HSh
                go_wp2
                go_roundw
                case rel => exact ⟨k + 1, by omega, by omega, by go_num, HW2, HG⟩
                case measure => simp [intOf]; omega
              · obtain rfl : sh = false := by rcases sh with _ | _ <;> simp_all
                clear hv2
                go_wp2_with fail
                refine (HSh.out _ HG.out).mono ?_
                rintro e w7 ⟨rfl, rfl⟩
                clear HSh
                go_wp2
                go_roundw
                case rel => exact ⟨k + 1, by omega, by omega, by go_num, HW2, HG⟩
                case measure => simp [intOf]; omega
              · obtain rfl : sh = false := by rcases sh with _ | _ <;> simp_all
                clear hv2
                go_wp2_with fail
                refine (HSh.out _ HG.out).mono ?_
                rintro e w7 ⟨rfl, rfl⟩
                clear HSh
                go_wp2
                go_roundw
                case rel => exact ⟨k + 1, by omega, by omega, by go_num, HW2, HG⟩
                case measure => simp [intOf]; omega
        · obtain rfl : k = 80 := by omega
          have e1 : ((80 : Nat) : Int) < (zl : Int) := by omega
          have HE := Lib.hid (B.out.trans (HS.out.below.mono B.out.size))
          clear HS
          go_wp2
          go_ret
          exact ⟨rfl, HE.out⟩
      · obtain rfl : k = zl := by omega
        have HE := Lib.hid (B.out.trans (HS.out.below.mono B.out.size))
        clear HS
        go_wp2
        go_ret
        exact ⟨rfl, HE.out⟩
  · obtain ⟨E, hE⟩ := errV_bad hg
    have HN := Lib.hid (fun W v (h : DfaAt W W.heap.size v d0) => gnew_gives (E := errI E) h rfl hE)
    clear hg hE m1
    go_enter Try.func9, Try.ntmps9
    go_wp2_with fail
    rw [← W0.out]
    clear W0
    refine (HF.out _).mono ?_
    rintro e b1 he
    obtain ⟨xf, rfl, hof⟩ := he.out
    have hb := hof.below
    have HX0 := Lib.hid hof.at_
    have Z := Lib.hid (Z.out.on hb)
    have VA := Lib.hid (VA.out.on hb)
    have B := Lib.hid (B.out.trans (hb.mono B.out.size))
    clear he hof hb HF
    go_wp2_with fail
    refine (HFact.out _ _ HX0.out).mono ?_
    rintro e b2 ⟨rfl, hb⟩
    have Z := Lib.hid (Z.out.on hb)
    have VA := Lib.hid (VA.out.on hb)
    have B := Lib.hid (B.out.trans (hb.mono B.out.size))
    clear hb  HX0 HFact
    obtain ⟨p0, p1, p2, p3, p4⟩ := VA.out.box
    go_wp2_with fail
    refine (HN.out _ _ VA.out.at_).mono ?_
    rintro e b3 ⟨pn, rfl, hb⟩
    have Z := Lib.hid (Z.out.on hb)
    have VA := Lib.hid (VA.out.on hb)
    have B := Lib.hid (B.out.trans (hb.mono B.out.size))
    clear hb p0 p1 p2 p3 p4 HN
    go_wp2
    go_ret
    exact ⟨rfl, B.out⟩


set_option maxRecDepth 100000 in
theorem lifted (os : Os) (started : os.Started) (H : Type) (enc : TypeId × Value → H) :
    ReturnsInHanded {} Try.checked os 9 .any (Rows.topVerdictSpec.pre6 enc Try.prog Try.f9 Rows.topVerdictRow.domain false) (Rows.topVerdictSpec.post enc Try.prog Try.f9 false true false false) := by
  refine returnsInHanded_of_change_sized (C := Try.checked) own started (by kernel_rfl) Try.func9
    (ChangeSpec.witness6 (enc := enc) (C := Try.checked) false ⟨#[], #[.agg #[.int .i64 0, .int .i64 0, .slice none 0 0, .slice none 0 0], .slice none 0 0], []⟩ 8 (by kernel_rfl) (by kernel_rfl) (by kernel_rfl) (by kernel_rfl)) ?_
  intro W base args ds gs before hval0 hW hcnd hsz0 _
  have hval : ∀ (j : Nat) t v, Try.f9.params[j]? = some t → args[j]? = some v → Value.okWide Try.prog W .any base t v := hval0
  have hsz : (DataW.weightsEach Try.prog (Try.f9.params.toList ++ Rows.topVerdictSpec.plain.varTypes Try.prog) (ds ++ gs)).all (· ≤ reachBytes) = true := hsz0
  have hW' := hW
  obtain ⟨p, q, hA0, hV0, rfl, hfz, hnd⟩ := hW
  have hV : DataW.TrodVars enc Try.prog W (fun _ => true) [] gs q := hV0
  have hA : DataW.TrodAll enc Try.prog W 0 (fun _ => true) true Try.f9.params.toList args.toList ds p := hA0
  rw [Try.params9] at hA hval hsz
  obtain ⟨v0, vs0, d0, ds0, p0, q0, hargs, rfl, rfl, h0, rr0⟩ := trodAll_cons hA
  obtain ⟨v1, vs1, d1, ds1, p1, q1, rfl, rfl, rfl, h1, rr1⟩ := trodAll_cons rr0
  obtain ⟨rfl, rfl, rfl⟩ := trodAll_nil rr1
  obtain rfl : args = #[v0, v1] := by cases args; simp_all
  obtain ⟨rfl, rfl⟩ := trodVars_none hV
  have k0 := h0
  have lt0 : ∀ x ∈ p0, x.block < W.heap.size := by obtain ⟨m, hm⟩ := k0; exact DataW.trod_lt m _ _ _ hm
  have k1 := h1
  have lt1 : ∀ x ∈ p1, x.block < W.heap.size := by obtain ⟨m, hm⟩ := k1; exact DataW.trod_lt m _ _ _ hm
  obtain ⟨D0, x0⟩ : ∃ d : Df.Aut, Df.DfaAt W W.heap.size v0 d := Df.dfa_open (hval 0 25 v0 rfl rfl) h0
  obtain ⟨A1, len1, c1, rfl⟩ := okWide_slice Try.underlying33 (hval 1 33 v1 rfl rfl)
  obtain ⟨z1, rfl, x1, r1, m1⟩ : ∃ zs : List Int, len1 = zs.length ∧ IntsAt W W.heap.size A1 zs ∧ zs.length ≤ 17592186043904 ∧ zs.length ≤ c1 := by
    obtain ⟨fuel, hf⟩ := h1
    rcases open_ints Try.underlying33 Try.underlying3 (by kernel_rfl) hf with ⟨hcs, _⟩ | ⟨x, l, c, zs, hcs, _, hl, hm, hz, hx, hcell, hwz⟩
    · simp [Value.cells] at hcs
      obtain ⟨rfl, rfl, rfl⟩ := hcs
      exact ⟨[], rfl, IntsAt.nil _ _ _, by simp, by simp⟩
    · simp [Value.cells] at hcs
      obtain ⟨rfl, rfl, rfl⟩ := hcs
      have hd := congrArg Prod.fst hx
      simp only at hd
      have := sized_slice hsz (j := 1) (t := 33) (e := 3) rfl (by rw [hd]; rfl) Try.underlying33
      rw [(show Try.prog.bytesOf 3 = 8 by kernel_rfl)] at this
      simp only [reachBytes, lits, List.length_map, List.length_take, List.length_drop] at this
      have hz' : zs.length = c1 := by simpa using hz
      exact ⟨zs.take len1, by rw [List.length_take]; omega, intsAt_of_open hcell hwz len1, by rw [List.length_take]; omega, by rw [List.length_take]; omega⟩
  clear hA0 hval0
  refine (walk v0 D0 A1 c1 z1 W x0 x1 r1 m1).mono fun e W' ⟨he, bel⟩ => ?_
  subst he
  exact ⟨_, rfl, _, _, _, [], _, [], hW', trodAll_mk1 (shut_bool Try.underlying4 _), (trodAll_cons_mk (Below.trod laidOut (by kernel_rfl) (of_decide_eq_true (by kernel_rfl)) k0 bel lt0) (trodAll_cons_mk (Below.trod laidOut (by kernel_rfl) (of_decide_eq_true (by kernel_rfl)) k1 bel lt1) trodAll_mk0)), rfl, bel.frame _, fun h => by cases h⟩

theorem over : Rows.topVerdictRow.holds Try.pinned (OpenSpec.ofChange Rows.topVerdictSpec) :=
  OpenClaim.holds_of_wide 9 Try.f9 rfl rfl rfl rfl rfl rfl rfl ⟨rfl, rfl, rfl, rfl, rfl⟩ rfl rfl rfl rfl rfl (by kernel_rfl) Try.func9 (by kernel_rfl)
    (of_decide_eq_true (by kernel_rfl)) (by unfold Func.isWrapper; rw [if_neg (of_decide_eq_false (by kernel_rfl))]; exact ⟨rfl, rfl⟩)
    (fun os started H enc _ => lifted os started H enc)
theorem proved : Rows.TopVerdictSaid := over
#print axioms proved
end Go.Proofs.Ytciopfiddfmckaa.topVerdict
