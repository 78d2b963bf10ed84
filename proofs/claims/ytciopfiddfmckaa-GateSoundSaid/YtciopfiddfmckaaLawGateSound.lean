/-
  The statement GateSoundSaid of this seat, proved: for every input the law returns true and its arguments read behind the call as before. Conditions: none but the row's own (each argument within the reach).
-/
import Derived.Test.YtciopfiddfmckaaRows
import Derived.Test.YtciopfiddfmckaaWords
import Derived.WalkKit
import Derived.ProofKit
import Derived.OpenShut
import Derived.ShutString
import Derived.ChangeOld
import Derived.Below
import Derived.SizedLaws
import Derived.Lib.Hide
import Derived.Test.YtciopfiddfmckaaGateL
namespace Go.Proofs.Ytciopfiddfmckaa.gateSound
open Go.ChangeShapes Go.WideShapes Go.ChangeAt Go.RowKit Go.IntWalk Go.Proofs.Ytciopfiddfmckaa.Wd
open Go.ChangeMaps (open_string shut_string)
set_option linter.unusedVariables false

theorem own : ownKnob Try.prog.godebug = none := by kernel_rfl
theorem laidOut : laidOutB Try.prog = true := by kernel_rfl
open Go.Proofs.Ytciopfiddfmckaa.Wo Go.Proofs.Ytciopfiddfmckaa.Df Go.Proofs.Ytciopfiddfmckaa.Rc Go.Proofs.Ytciopfiddfmckaa.Sm Go.Proofs.Ytciopfiddfmckaa.Sa Go.Proofs.Ytciopfiddfmckaa.Ga

set_option maxRecDepth 100000 in
set_option maxHeartbeats 4000000 in
theorem walk (v0 : Value) (d0 : Df.Aut) (A1 : Option Addr) (c1 : Nat) (z1 : List Int) (w : World) (h0 : Df.DfaAt w w.heap.size v0 d0) (v1 : IntsAt w w.heap.size A1 z1) (r1 : z1.length ≤ 17592186043904) (m1 : z1.length ≤ c1) :
    Calls Try.prog 4 #[v0, .slice A1 z1.length c1] w fun e w' => e = .returned (.bool true) ∧ Below w.heap.size w w' := by
  obtain ⟨L0, s0, A0, n0, c0, F0, m0, k0, rfl⟩ := h0.form
  obtain ⟨u0, hu0, hb0, VA0⟩ := var_new w h0
  have VA := Lib.hid VA0
  have B := Lib.hid hb0
  have W0 := Lib.hid hu0
  have Z := Lib.hid (v1.on hb0)
  have HF := Lib.hid few_any
  have HFG := Lib.hid few_gated
  clear VA0 hb0 hu0 h0 v1 m1
  obtain ⟨zl, hzl⟩ : ∃ zl, z1.length = zl := ⟨_, rfl⟩
  rw [hzl] at r1 ⊢
  have HL := Lib.hid hzl
  clear hzl
  go_enter Try.func4, Try.ntmps4
  go_wp2_with fail
  rw [← W0.out]
  clear W0
  refine (HF.out _).mono ?_
  rintro e u1 he
  obtain ⟨xf, rfl, hof⟩ := he.out
  have hb := hof.below
  have HX0 := Lib.hid hof.at_
  have VA := Lib.hid (VA.out.on hb)
  have Z := Lib.hid (Z.out.on hb)
  have B := Lib.hid (B.out.trans (hb.mono B.out.size))
  clear hb he hof HF
  go_wp2_with fail
  refine (HFG.out _ _ HX0.out).mono ?_
  rintro e u2 ⟨gf, Af, cf, rfl, HGF, hb⟩
  have VA := Lib.hid (VA.out.on hb)
  have Z := Lib.hid (Z.out.on hb)
  have B := Lib.hid (B.out.trans (hb.mono B.out.size))
  clear hb HX0 HFG
  have HFO := Lib.hid (few_out HGF.out)
  clear HGF
  go_wp2_with fail
  refine HFO.out.mono ?_
  rintro e u3 ⟨Ao, co, rfl, HI, hco, hb⟩
  have VA := Lib.hid (VA.out.on hb)
  have Z := Lib.hid (Z.out.on hb)
  have B := Lib.hid (B.out.trans (hb.mono B.out.size))
  have HFS := Lib.hid (few_same (c := co) HI.out)
  clear hb HFO HI hco
  go_wp2_with fail
  refine HFS.out.mono ?_
  rintro e wb ⟨rfl, hb⟩
  have VA := Lib.hid (VA.out.on hb)
  have Z := Lib.hid (Z.out.on hb)
  have B := Lib.hid (B.out.trans (hb.mono B.out.size))
  clear hb HFS
  obtain ⟨p0, p1, p2, p3, p4⟩ := VA.out.box
  by_cases hg : gchk d0 = 0
  · have hgg := gchk_iff.1 hg
    have HN := Lib.hid (fun W v (h : DfaAt W W.heap.size v d0) => gnew_ok v d0 W h hgg)
    have HGG := Lib.hid hgg
    clear hg hgg
    go_wp2_with fail
    refine (HN.out _ _ VA.out.at_).mono ?_
    rintro e u5 he
    obtain ⟨g, rfl, hG⟩ := he.out
    have HS : Hid (GateW wb u5 g d0 (offers d0 (gate0 d0) (z1.take 0)) [] []) := hG
    clear he hG HN p0 p1 p2 p3 p4
    go_wp2
    go_loopw [10] (fun i wr => ∃ k : Nat, k ≤ zl + 1 ∧ k ≤ 200 ∧ i = .int .i64 k ∧ Hid (GateW wb wr g d0 (offers d0 (gate0 d0) (z1.take k)) [] [])) (fun i _ => 200 - (intOf i).toNat)
    case atStart => exact ⟨0, by omega, by omega, rfl, HS⟩
    case round =>
      clear HS
      obtain ⟨k, hk, hk2, rfl, HS⟩ := hrel
      have hok := gok_offers (gok_start HGG.out) (z1.take k)
      by_cases hlt : k ≤ zl
      · by_cases h8 : k < 200
        · have e1 : (k : Int) ≤ (zl : Int) := by omega
          have e2 : (k : Int) < 200 := by omega
          have HO := Lib.hid (gout_gives HS.out HGG.out.good hok)
          have HK := Lib.hid hok
          have hol : (offers d0 (gate0 d0) (z1.take k)).out.length ≤ 80 := hok.len
          have hacc : accErr d0 (offers d0 (gate0 d0) (z1.take k)).out = 0 ∧ accOut d0 (offers d0 (gate0 d0) (z1.take k)).out = true := by
            have h1 : accErr d0 (offers d0 (gate0 d0) (z1.take k)).out = 0 := accErr_ok HGG.out.good ⟨⟨HGG.out.good.l1, HGG.out.good.l6⟩, hol, hok.word⟩
            exact ⟨h1, by unfold accOut; rw [if_pos h1]; exact hok.acc⟩
          have HA := Lib.hid hacc
          have HAC := Lib.hid (fun v Z cz W (h : DfaAt W W.heap.size v d0) (hZ : IntsAt W W.heap.size Z (offers d0 (gate0 d0) (z1.take k)).out) => acc_any v d0 Z cz _ W h hZ (by omega))
          clear hok hacc
          generalize hGk : offers d0 (gate0 d0) (z1.take k) = G at *
          have HGk := Lib.hid hGk
          clear hGk
          go_wp2_with fail
          refine HO.out.mono ?_
          rintro e w3 ⟨Ap, cp, rfl, HI, _, hb⟩
          have VAr := Lib.hid ((VA.out.on HS.out.below).on hb)
          have HS := Lib.hid (HS.out.on hb)
          obtain ⟨p0, p1, p2, p3, p4⟩ := VAr.out.box
          clear hb HO
          go_wp2_with fail
          refine (HAC.out _ _ _ _ VAr.out.at_ HI.out).mono ?_
          rintro e w4 ⟨he, hb⟩
          rw [HA.out.1, HA.out.2] at he
          obtain rfl : e = .returned (.tuple #[.bool true, .nilIface]) := he.out
          have HS := Lib.hid (HS.out.on hb)
          clear he hb HAC HA VAr HI p0 p1 p2 p3 p4
          by_cases hl2 : k < zl
          · have e3 : (k : Int) < (zl : Int) := by omega
            have hkz : k < z1.length := by rw [HL.out]; exact hl2
            have hZ := (Z.out.on HS.out.below)
            obtain ⟨ada, rfl, hab, hac, _⟩ := hZ.get (List.getElem?_eq_getElem hkz)
            have HOf := Lib.hid (offer_any wb w4 g d0 G [] [] z1[k] HS.out HGG.out.good HK.out (hZ.2 _ (List.getElem_mem hkz)))
            have HT : Hid (offers d0 (gate0 d0) (z1.take (k + 1)) = (offer d0 G z1[k]).2.2) := by unfold Hid; rw [offers_take _ _ _ hkz, HGk.out]
            rw [← HT.out] at HOf
            clear HS hZ hab HT
            generalize (offer d0 G z1[k]).2.1 = b at *
            generalize errV (offer d0 G z1[k]).1 = ev at *
            generalize z1[k] = a at *
            clear hkz
            go_wp2_with fail
            refine HOf.out.mono ?_
            rintro e w5 ⟨he, HG⟩
            obtain rfl := he.out
            clear he HOf hac
            go_wp2
            go_roundw
            case rel => exact ⟨k + 1, by omega, by omega, by go_num, HG⟩
            case measure => simp [intOf]; omega
          · obtain rfl : k = zl := by omega
            have HG : Hid (GateW wb w4 g d0 (offers d0 (gate0 d0) (z1.take (k + 1))) [] []) := by
              unfold Hid
              rw [List.take_of_length_le (by rw [HL.out]; omega), ← List.take_of_length_le (i := k) (l := z1) (by rw [HL.out]; omega), HGk.out]
              exact HS.out
            clear HS
            go_wp2
            go_roundw
            case rel => exact ⟨k + 1, by omega, by omega, by go_num, HG⟩
            case measure => simp [intOf]; omega
        · obtain rfl : k = 200 := by omega
          have e1 : ((200 : Nat) : Int) ≤ (zl : Int) := by omega
          have HE := Lib.hid (B.out.trans (HS.out.below.mono B.out.size))
          clear HS hok
          go_wp2
          go_ret
          exact ⟨rfl, HE.out⟩
      · have e1 : ¬ (k : Int) ≤ (zl : Int) := by omega
        have HE := Lib.hid (B.out.trans (HS.out.below.mono B.out.size))
        clear HS hok
        go_wp2
        go_ret
        exact ⟨rfl, HE.out⟩
  · have HN := Lib.hid (fun W v (h : DfaAt W W.heap.size v d0) => gnew_bad v d0 W h hg)
    obtain ⟨x, hx⟩ : ∃ x, gchk d0 = x + 1 := ⟨gchk d0 - 1, by omega⟩
    rw [hx, errV_succ] at HN
    clear hg hx
    generalize ((x + 1 : Nat) : Int) = E at *
    go_wp2_with fail
    refine (HN.out _ _ VA.out.at_).mono ?_
    rintro e u5 ⟨he, hb⟩
    obtain rfl := he.out
    have B := Lib.hid (B.out.trans (hb.mono B.out.size))
    clear he hb HN p0 p1 p2 p3 p4
    go_wp2
    go_ret
    exact ⟨rfl, B.out⟩


set_option maxRecDepth 100000 in
theorem lifted (os : Os) (started : os.Started) (H : Type) (enc : TypeId × Value → H) :
    ReturnsInHanded {} Try.checked os 4 .any (Rows.gateSoundSpec.pre6 enc Try.prog Try.f4 Rows.gateSoundRow.domain false) (Rows.gateSoundSpec.post enc Try.prog Try.f4 false true false false) := by
  refine returnsInHanded_of_change_sized (C := Try.checked) own started (by kernel_rfl) Try.func4
    (ChangeSpec.witness6 (enc := enc) (C := Try.checked) false ⟨#[], #[.agg #[.int .i64 0, .int .i64 0, .slice none 0 0, .slice none 0 0], .slice none 0 0], []⟩ 8 (by kernel_rfl) (by kernel_rfl) (by kernel_rfl) (by kernel_rfl)) ?_
  intro W base args ds gs before hval0 hW hcnd hsz0 _
  have hval : ∀ (j : Nat) t v, Try.f4.params[j]? = some t → args[j]? = some v → Value.okWide Try.prog W .any base t v := hval0
  have hsz : (DataW.weightsEach Try.prog (Try.f4.params.toList ++ Rows.gateSoundSpec.plain.varTypes Try.prog) (ds ++ gs)).all (· ≤ reachBytes) = true := hsz0
  have hW' := hW
  obtain ⟨p, q, hA0, hV0, rfl, hfz, hnd⟩ := hW
  have hV : DataW.TrodVars enc Try.prog W (fun _ => true) [] gs q := hV0
  have hA : DataW.TrodAll enc Try.prog W 0 (fun _ => true) true Try.f4.params.toList args.toList ds p := hA0
  rw [Try.params4] at hA hval hsz
  obtain ⟨v0, vs0, d0, ds0, p0, q0, hargs, rfl, rfl, h0, rr0⟩ := trodAll_cons hA
  obtain ⟨v1, vs1, d1, ds1, p1, q1, rfl, rfl, rfl, h1, rr1⟩ := trodAll_cons rr0
  obtain ⟨rfl, rfl, rfl⟩ := trodAll_nil rr1
  obtain rfl : args = #[v0, v1] := by cases args; simp_all
  obtain ⟨rfl, rfl⟩ := trodVars_none hV
  have k0 := h0
  have lt0 : ∀ x ∈ p0, x.block < W.heap.size := by obtain ⟨m, hm⟩ := k0; exact DataW.trod_lt m _ _ _ hm
  have k1 := h1
  have lt1 : ∀ x ∈ p1, x.block < W.heap.size := by obtain ⟨m, hm⟩ := k1; exact DataW.trod_lt m _ _ _ hm
  obtain ⟨D0, x0⟩ : ∃ d : Df.Aut, Df.DfaAt W W.heap.size v0 d := Df.dfa_open (hval 0 25 v0 rfl rfl) h0
  obtain ⟨A1, len1, c1, rfl⟩ := okWide_slice Try.underlying33 (hval 1 33 v1 rfl rfl)
  obtain ⟨z1, rfl, x1, r1, m1⟩ : ∃ zs : List Int, len1 = zs.length ∧ IntsAt W W.heap.size A1 zs ∧ zs.length ≤ 17592186043904 ∧ zs.length ≤ c1 := by
    obtain ⟨fuel, hf⟩ := h1
    rcases open_ints Try.underlying33 Try.underlying3 (by kernel_rfl) hf with ⟨hcs, _⟩ | ⟨x, l, c, zs, hcs, _, hl, hm, hz, hx, hcell, hwz⟩
    · simp [Value.cells] at hcs
      obtain ⟨rfl, rfl, rfl⟩ := hcs
      exact ⟨[], rfl, IntsAt.nil _ _ _, by simp, by simp⟩
    · simp [Value.cells] at hcs
      obtain ⟨rfl, rfl, rfl⟩ := hcs
      have hd := congrArg Prod.fst hx
      simp only at hd
      have := sized_slice hsz (j := 1) (t := 33) (e := 3) rfl (by rw [hd]; rfl) Try.underlying33
      rw [(show Try.prog.bytesOf 3 = 8 by kernel_rfl)] at this
      simp only [reachBytes, lits, List.length_map, List.length_take, List.length_drop] at this
      have hz' : zs.length = c1 := by simpa using hz
      exact ⟨zs.take len1, by rw [List.length_take]; omega, intsAt_of_open hcell hwz len1, by rw [List.length_take]; omega, by rw [List.length_take]; omega⟩
  clear hA0 hval0
  refine (walk v0 D0 A1 c1 z1 W x0 x1 r1 m1).mono fun e W' ⟨he, bel⟩ => ?_
  subst he
  exact ⟨_, rfl, _, _, _, [], _, [], hW', trodAll_mk1 (shut_bool Try.underlying4 _), (trodAll_cons_mk (Below.trod laidOut (by kernel_rfl) (of_decide_eq_true (by kernel_rfl)) k0 bel lt0) (trodAll_cons_mk (Below.trod laidOut (by kernel_rfl) (of_decide_eq_true (by kernel_rfl)) k1 bel lt1) trodAll_mk0)), rfl, bel.frame _, fun h => by cases h⟩

theorem over : Rows.gateSoundRow.holds Try.pinned (OpenSpec.ofChange Rows.gateSoundSpec) :=
  OpenClaim.holds_of_wide 4 Try.f4 rfl rfl rfl rfl rfl rfl rfl ⟨rfl, rfl, rfl, rfl, rfl⟩ rfl rfl rfl rfl rfl (by kernel_rfl) Try.func4 (by kernel_rfl)
    (of_decide_eq_true (by kernel_rfl)) (by unfold Func.isWrapper; rw [if_neg (of_decide_eq_false (by kernel_rfl))]; exact ⟨rfl, rfl⟩)
    (fun os started H enc _ => lifted os started H enc)
theorem proved : Rows.GateSoundSaid := over
#print axioms proved
end Go.Proofs.Ytciopfiddfmckaa.gateSound
