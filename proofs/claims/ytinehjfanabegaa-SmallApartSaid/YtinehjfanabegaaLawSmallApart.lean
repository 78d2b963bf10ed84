/-
  The statement SmallApartSaid of this seat, proved: for every input the law returns true and its arguments read behind the call as before. Conditions: none but the row's own (each argument within the reach).
-/
import Derived.Test.YtinehjfanabegaaRows
import Derived.Test.YtinehjfanabegaaWords
import Derived.WalkKit
import Derived.ProofKit
import Derived.OpenShut
import Derived.ShutString
import Derived.ChangeOld
import Derived.Below
import Derived.SizedLaws
import Derived.Lib.Hide
import Derived.Test.YtinehjfanabegaaMinV
import Derived.Test.YtinehjfanabegaaDfaV
import Derived.Test.YtinehjfanabegaaReachV
namespace Go.Proofs.Ytinehjfanabegaa.smallApart
open Go.ChangeShapes Go.WideShapes Go.ChangeAt Go.RowKit Go.IntWalk Go.Proofs.Ytinehjfanabegaa.Wd
open Go.ChangeMaps (open_string shut_string)
set_option linter.unusedVariables false

theorem own : ownKnob Try.prog.godebug = none := by kernel_rfl
theorem laidOut : laidOutB Try.prog = true := by kernel_rfl
open Go.Proofs.Ytinehjfanabegaa.Wo Go.Proofs.Ytinehjfanabegaa.Df Go.Proofs.Ytinehjfanabegaa.Rc Go.Proofs.Ytinehjfanabegaa.Sm Go.Proofs.Ytinehjfanabegaa.Mp
/-- Two states of the smallest one, as starts: a word tells them apart, and has fewer letters than there are states. -/
theorem apart_from {d : Aut} (g : Df.Good d) {i j : Nat} (hi : i < (minA d).next.length) (hj : j < (minA d).next.length) (h : i ≠ j) : ∃ w, sameOut (fromA (minA d) i) (fromA (minA d) j) = (false, w, 0) ∧ w.length < (minA d).next.length := by
  have gm := min_good g
  obtain ⟨w, h1, h2⟩ := diff_apart g hi hj h
  obtain ⟨k1, _, k3, k4⟩ := diffW_some (Good2.self gm) hi hj h1
  have g2 : Good2 (fromA (minA d) i) (fromA (minA d) j) := ⟨fromA_good gm hi, fromA_good gm hj, rfl⟩
  have hd : diffW (fromA (minA d) i) (fromA (minA d) j) i j = some w := diffW_unique g2 hi hj k1 k3 k4
  exact ⟨w, sameOut_some (chkD2_iff.2 g2) hd, h2⟩

set_option maxRecDepth 100000 in
set_option maxHeartbeats 4000000 in
theorem walk (v0 : Value) (d0 : Df.Aut) (w : World) (h0 : Df.DfaAt w w.heap.size v0 d0) :
    Calls Try.prog 11 #[v0] w fun e w' => e = .returned (.bool true) ∧ Below w.heap.size w w' := by
  obtain ⟨L0, s0, A0, n0, c0, F0, m0, k0, rfl⟩ := h0.form
  obtain ⟨u0, hu0, hb0, VA0⟩ := var_new w h0
  have VA := Lib.hid VA0
  have B := Lib.hid hb0
  have W0 := Lib.hid hu0
  clear hu0 hb0 VA0 h0
  by_cases ga : dchk d0 = 0
  · have Ga := dchk_iff.1 ga
    have gt := min_good Ga
    have HM := Lib.hid (fun W v (h : DfaAt W W.heap.size v d0) => min_gives (E := .nilIface) h (minOut_ok ga) rfl)
    have HRt := Lib.hid (fun W v (h : DfaAt W W.heap.size v (minA d0)) => reached_len h gt (min_reached Ga))
    have HS : Hid (∀ i j, i < (minA d0).next.length → j < i → ∃ nw, nw < (minA d0).next.length ∧ ∀ W v z, DfaAt W W.heap.size v (fromA (minA d0) i) → DfaAt W W.heap.size z (fromA (minA d0) j) →
        Calls Try.prog 30 #[v, z] W fun e w' => ∃ A c, e = .returned (.tuple #[.bool false, .slice A nw c, .nilIface]) ∧ Below W.heap.size W w') := fun i j hi hj => by
      obtain ⟨u, hu1, hu2⟩ := apart_from Ga hi (show j < (minA d0).next.length by omega) (by omega)
      exact ⟨u.length, hu2, fun W v z h h2 => same_len (E := .nilIface) h h2 hu1 rfl rfl⟩
    have hn1 := gt.n1
    have hn40 := gt.n40
    clear ga Ga gt
    generalize minA d0 = T at *
    go_enter Try.func11, Try.ntmps11
    obtain ⟨p0, p1, p2, p3, p4⟩ := VA.out.box
    go_wp2_with fail
    rw [← W0.out]
    clear W0
    refine (HM.out _ _ VA.out.at_).mono ?_
    rintro e y1 ⟨L9, s9, A9, n9, c9, F9, m9, k9, rfl, hd, hb⟩
    have B := Lib.hid (B.out.trans (hb.mono B.out.size))
    have HD := Lib.hid hd.out
    clear hb HM p0 p1 p2 p3 p4 VA hd
    obtain ⟨x1, hx1, hb, VM0⟩ := var_new y1 HD.out
    have VM := Lib.hid VM0
    have HX := Lib.hid hx1
    have B := Lib.hid (B.out.trans (hb.mono B.out.size))
    have hn9 := VM0.at_.eqs.2.2.1
    clear hb hx1 VM0 HD
    rw [hn9] at HRt hn1 hn40 HS
    obtain ⟨p0, p1, p2, p3, p4⟩ := VM.out.box
    go_wp2_with fail
    rw [← HX.out]
    clear HX
    refine (HRt.out _ _ VM.out.at_).mono ?_
    rintro e y2 ⟨Al, cl, rfl, hb⟩
    have VM := Lib.hid (VM.out.on hb)
    have B := Lib.hid (B.out.trans (hb.mono B.out.size))
    clear hb HRt p0 p1 p2 p3 p4 hn9
    obtain ⟨p0, p1, p2, p3, p4⟩ := VM.out.box
    have hnz : ((n9 : Int) == 0) = false := by rw [beq_eq_false_iff_ne]; omega
    obtain ⟨gm, hgm⟩ : ∃ gm, gm = y1.heap.size := ⟨_, rfl⟩
    rw [← hgm] at VM p0 p1 p2 p3 p4
    rw [← hgm]
    clear hgm
    go_wp2
    clear p0 p1 p2 p3 p4 hnz
    go_loopw [6] (fun i wr => ∃ (k : Nat), k ≤ n9 ∧ i = .int .i64 k ∧ Hid (Below y2.heap.size y2 wr)) (fun i _ => n9 - (intOf i).toNat)
    case atStart => exact ⟨0, by omega, rfl, Lib.hid (Below.refl _ _)⟩
    case round =>
      obtain ⟨k, hk, rfl, HB⟩ := hrel
      by_cases hlt : k < n9
      · as_aux_lemma =>
        go_wp2
        go_loopw [7] (fun i wi => ∃ (q : Nat), q ≤ k ∧ i = .int .i64 q ∧ Hid (Below y2.heap.size y2 wi)) (fun i _ => k - (intOf i).toNat)
        case atStart => exact ⟨0, by omega, rfl, HB⟩
        case round =>
          clear HB
          obtain ⟨q, hq, rfl, HB⟩ := hrel
          by_cases hqn : q < k
          · as_aux_lemma =>
            obtain ⟨nw, hnw, hcall⟩ := HS.out k q hlt hqn
            have VW := VM.out.on HB.out
            obtain ⟨x2, hx2, hb2, V1, V2⟩ := vars_two wr (fromA_at VW.at_ (q := k) (by omega)) (fromA_at VW.at_ (q := q) (by omega))
            have HX2 := Lib.hid hx2
            have HV1 := Lib.hid V1
            have HV2 := Lib.hid V2
            have HCa := Lib.hid (hcall x2 _ _ V1.at_ V2.at_)
            have HB2 := Lib.hid (HB.out.trans (hb2.mono HB.out.size))
            obtain ⟨p0, p1, p2, p3, p4⟩ := VW.box
            have VX := (VW.on ((Below.refl wr.heap.size wr).alloc (Nat.le_refl _) (.cells #[.int .i64 L9, .int .i64 (k : Int), .slice A9 n9 c9, .slice F9 m9 k9] 25)))
            obtain ⟨q0, q1, q2, q3, q4⟩ := VX.box
            have hge : ¬ (nw : Int) ≥ (n9 : Int) := by omega
            clear VW VX hb2 V1 V2 hx2 hcall HB
            go_wp2_with fail
            rw [← HX2.out]
            clear HX2 p0 p1 p2 p3 p4 q0 q1 q2 q3 q4
            refine HCa.out.mono ?_
            rintro e w5 ⟨Au, cu, rfl, hb⟩
            have HB3 := Lib.hid (HB2.out.trans (hb.mono HB2.out.size))
            clear hb HCa HB2 HV1 HV2
            go_wp2
            go_roundw
            case rel => exact ⟨q + 1, by omega, by go_num, HB3⟩
            case measure => simp [intOf]; omega
          · as_aux_lemma =>
            obtain rfl : q = k := by omega
            go_wp2
            go_roundw
            case rel => exact ⟨q + 1, by omega, by go_num, HB⟩
            case measure => simp [intOf]; omega
      · as_aux_lemma =>
        obtain rfl : k = n9 := by omega
        have HEnd := Lib.hid (B.out.trans (HB.out.mono B.out.size))
        go_wp2
        go_ret
        exact ⟨rfl, HEnd.out⟩
  · obtain ⟨e0, he0⟩ : ∃ e0, dchk d0 = e0 + 1 := ⟨dchk d0 - 1, by omega⟩
    obtain ⟨E, hE⟩ := errV_bad ga
    have HM := Lib.hid (fun W v (h : DfaAt W W.heap.size v d0) => min_gives h (minOut_bad ga) hE)
    have HC := Lib.hid (fun W v (h : DfaAt W W.heap.size v d0) => dcheck_bad h he0 rfl)
    generalize ((e0 + 1 : Nat) : Int) = E2 at *
    clear ga he0 hE
    go_enter Try.func11, Try.ntmps11
    obtain ⟨p0, p1, p2, p3, p4⟩ := VA.out.box
    go_wp2_with fail
    rw [← W0.out]
    clear W0
    refine (HM.out _ _ VA.out.at_).mono ?_
    rintro e y1 ⟨L9, s9, A9, n9, c9, F9, m9, k9, rfl, hd, hb⟩
    have VA := Lib.hid (VA.out.on hb)
    have B := Lib.hid (B.out.trans (hb.mono B.out.size))
    have hn9 := hd.out.eqs.2.2.1
    obtain rfl : 0 = n9 := hn9
    clear hb HM p0 p1 p2 p3 p4
    obtain ⟨p0, p1, p2, p3, p4⟩ := VA.out.box
    obtain ⟨x1, hx1, hb, VM0⟩ := var_new y1 hd.out
    have HX := Lib.hid hx1
    have B := Lib.hid (B.out.trans (hb.mono B.out.size))
    have VA := Lib.hid (VA.out.on hb)
    clear hb hx1 VM0 hd
    go_wp2_with fail
    rw [← HX.out]
    clear HX
    refine (HC.out _ _ VA.out.at_).mono ?_
    rintro e y2 ⟨rfl, hb⟩
    have B := Lib.hid (B.out.trans (hb.mono B.out.size))
    clear hb HC p0 p1 p2 p3 p4
    go_wp2
    go_ret
    exact ⟨rfl, B.out⟩


set_option maxRecDepth 100000 in
theorem lifted (os : Os) (started : os.Started) (H : Type) (enc : TypeId × Value → H) :
    ReturnsInHanded {} Try.checked os 11 .any (Rows.smallApartSpec.pre6 enc Try.prog Try.f11 Rows.smallApartRow.domain false) (Rows.smallApartSpec.post enc Try.prog Try.f11 false true false false) := by
  refine returnsInHanded_of_change_sized (C := Try.checked) own started (by kernel_rfl) Try.func11
    (ChangeSpec.witness6 (enc := enc) (C := Try.checked) false ⟨#[], #[.agg #[.int .i64 0, .int .i64 0, .slice none 0 0, .slice none 0 0]], []⟩ 8 (by kernel_rfl) (by kernel_rfl) (by kernel_rfl) (by kernel_rfl)) ?_
  intro W base args ds gs before hval0 hW hcnd hsz0 _
  have hval : ∀ (j : Nat) t v, Try.f11.params[j]? = some t → args[j]? = some v → Value.okWide Try.prog W .any base t v := hval0
  have hsz : (DataW.weightsEach Try.prog (Try.f11.params.toList ++ Rows.smallApartSpec.plain.varTypes Try.prog) (ds ++ gs)).all (· ≤ reachBytes) = true := hsz0
  have hW' := hW
  obtain ⟨p, q, hA0, hV0, rfl, hfz, hnd⟩ := hW
  have hV : DataW.TrodVars enc Try.prog W (fun _ => true) [] gs q := hV0
  have hA : DataW.TrodAll enc Try.prog W 0 (fun _ => true) true Try.f11.params.toList args.toList ds p := hA0
  rw [Try.params11] at hA hval hsz
  obtain ⟨v0, vs0, d0, ds0, p0, q0, hargs, rfl, rfl, h0, rr0⟩ := trodAll_cons hA
  obtain ⟨rfl, rfl, rfl⟩ := trodAll_nil rr0
  obtain rfl : args = #[v0] := by cases args; simp_all
  obtain ⟨rfl, rfl⟩ := trodVars_none hV
  have k0 := h0
  have lt0 : ∀ x ∈ p0, x.block < W.heap.size := by obtain ⟨m, hm⟩ := k0; exact DataW.trod_lt m _ _ _ hm
  obtain ⟨D0, x0⟩ : ∃ d : Df.Aut, Df.DfaAt W W.heap.size v0 d := Df.dfa_open (hval 0 25 v0 rfl rfl) h0
  clear hA0 hval0
  refine (walk v0 D0 W x0).mono fun e W' ⟨he, bel⟩ => ?_
  subst he
  exact ⟨_, rfl, _, _, _, [], _, [], hW', trodAll_mk1 (shut_bool Try.underlying4 _), (trodAll_cons_mk (Below.trod laidOut (by kernel_rfl) (of_decide_eq_true (by kernel_rfl)) k0 bel lt0) trodAll_mk0), rfl, bel.frame _, fun h => by cases h⟩

theorem over : Rows.smallApartRow.holds Try.pinned (OpenSpec.ofChange Rows.smallApartSpec) :=
  OpenClaim.holds_of_wide 11 Try.f11 rfl rfl rfl rfl rfl rfl rfl ⟨rfl, rfl, rfl, rfl, rfl⟩ rfl rfl rfl rfl rfl (by kernel_rfl) Try.func11 (by kernel_rfl)
    (of_decide_eq_true (by kernel_rfl)) (by unfold Func.isWrapper; rw [if_neg (of_decide_eq_false (by kernel_rfl))]; exact ⟨rfl, rfl⟩)
    (fun os started H enc _ => lifted os started H enc)
theorem proved : Rows.SmallApartSaid := over
#print axioms proved
end Go.Proofs.Ytinehjfanabegaa.smallApart
