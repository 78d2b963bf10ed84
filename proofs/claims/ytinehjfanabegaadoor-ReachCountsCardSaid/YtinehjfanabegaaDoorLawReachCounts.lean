/-
  The statement ReachCountsCardSaid of this seat, proved: for every input the law returns true and its arguments read behind the call as before. Conditions: none but the row's own (each argument within the reach; the listed variable as the program lays it, tied by the given tie).
-/
import Derived.Test.YtinehjfanabegaaDoorRows
import Derived.Test.YtinehjfanabegaaDoorCards
import Derived.Test.YtinehjfanabegaaDoorTie
import Derived.SevenTiedAt
import Derived.LaidLaws
import Derived.LaidHandle
import Derived.Stop.Joined
import Derived.JoinedOf
import Derived.RowKit
import Derived.RowKitTokens
import Derived.ChangeSame
import Derived.ChangeVars
import Derived.Test.YtinehjfanabegaaDoorWords
import Derived.WalkKit
import Derived.ProofKit
import Derived.OpenShut
import Derived.ShutString
import Derived.ChangeOld
import Derived.Below
import Derived.SizedLaws
import Derived.Lib.Hide
import Derived.Test.YtinehjfanabegaaDoorRefCount
import Derived.Test.YtinehjfanabegaaDoorRefDfa
import Derived.Test.YtinehjfanabegaaDoorSays
namespace Go.Proofs.YtinehjfanabegaaDoor.reachCounts
open Go.ChangeShapes Go.WideShapes Go.ChangeAt Go.RowKit Go.IntWalk Go.Proofs.YtinehjfanabegaaDoor.Wd
open Go.ChangeMaps (open_string shut_string)
set_option linter.unusedVariables false

theorem own : ownKnob Tryd.prog.godebug = none := by kernel_rfl
theorem laidOut : laidOutB Tryd.prog = true := by kernel_rfl
theorem et : Tryd.prog.globalNamed "errors.errorType" = some 0 := by kernel_rfl
theorem rt : (Tryd.prog.cutTypes.find? (·.1 == "internal/reflectlite.rtype")).map (·.2) = some 177 := by kernel_rfl
theorem oneRow : ((List.range 228).filter fun t => Tryd.prog.rowNamed t [101, 114, 114, 111, 114]) = [30] := by kernel_rfl
theorem size : Tryd.prog.types.size = 228 := by kernel_rfl
/-- What the condition gives a walk: the variable's one cell. -/
theorem handle_of_laid {w : World} (h : laidMetH Tryd.prog [("errors.errorType", Rows.laid_errors_errorType)] w) : w.cell? ⟨0, 0, none⟩ = some (.iface 177 (.agg #[.pointer (some ⟨1, 30, none⟩)])) := by
  have h' : laidMet Tryd.prog [] w ∧ handlesMet Tryd.prog [("errors.errorType", Rows.laid_errors_errorType)] w := h
  obtain ⟨name, u, ty, e1, e2, e3, e4, e5⟩ := h'.2 _ (List.mem_singleton.2 rfl)
  have en : name = [101, 114, 114, 111, 114] := (Option.some.inj e1).symm
  subst en
  obtain rfl := Option.some.inj (rt.symm.trans e2)
  have hm : ty ∈ (List.range 228).filter fun t => Tryd.prog.rowNamed t [101, 114, 114, 111, 114] := List.mem_filter.2 ⟨List.mem_range.2 (by rw [← size]; exact e3), e4⟩
  rw [oneRow] at hm
  obtain rfl := List.mem_singleton.1 hm
  have hh : typeHandle Tryd.prog 30 = .pointer (some ⟨1, 30, none⟩) := by kernel_rfl
  rw [hh] at e5
  simpa using World.var?_cell et e5 0
/-- A world that meets the condition. -/
noncomputable def laidWorld (os : Os) : World :=
  let w0 := World.holding Tryd.prog os ⟨#[], #[], []⟩
  { w0 with heap := w0.heap.modify 0 fun
      | .cells _ t frozen => .cells #[.iface 177 (.agg #[.pointer (some ⟨1, 30, none⟩)])] t frozen
      | o => o }
theorem laidWorld_met (os : Os) (args : Array Value) : laidMetH Tryd.prog [("errors.errorType", Rows.laid_errors_errorType)] ((laidWorld os).forCall (fun _ _ => 0) ⟨#[], args, []⟩).memory :=
  laidMetH_of_parts (laidMet_nil _ _) (by kernel_rfl)
open Go.Proofs.YtinehjfanabegaaDoor.Wo Go.Proofs.YtinehjfanabegaaDoor.Er Go.Proofs.YtinehjfanabegaaDoor.Df Go.Proofs.YtinehjfanabegaaDoor.Rc

set_option maxRecDepth 100000 in
set_option maxHeartbeats 4000000 in
theorem walk (v0 : Value) (d0 : Df.Aut) (a1 : Int) (w : World) (h0 : Df.DfaAt w w.heap.size v0 d0) (l1 : -9223372036854775808 ≤ a1) (h1 : a1 ≤ 9223372036854775807) (hg : w.cell? ⟨0, 0, none⟩ = some (.iface 177 (.agg #[.pointer (some ⟨1, 30, none⟩)]))) :
    Calls Tryd.prog 8 #[v0, .int .i64 a1] w fun e w' => e = .returned (.bool true) ∧ Below w.heap.size w w' := by
  obtain ⟨L0, s0, A0, n0, c0, F0, m0, k0, rfl⟩ := h0.form
  obtain ⟨hL0, hs0, hN0, hM0⟩ := h0.eqs
  obtain ⟨u0, hu0, hb0, VA0⟩ := var_new w h0
  have VA := Lib.hid VA0
  have B := Lib.hid hb0
  have W0 := Lib.hid hu0
  have HD := Lib.hid (fun W v (h : DfaAt W W.heap.size v d0) => rdfa_any v d0 W h)
  have HC := Lib.hid (fun W v (h : DfaAt W W.heap.size v d0) => count_any v d0 a1 W h ⟨l1, h1⟩)
  have HE := Lib.hid (fun W h => says (countOut d0 a1).2 hg W h)
  clear hu0 hb0 VA0 hg h0
  rcases g1 : dchk d0 with _ | x
  · have Ga := dchk_iff.1 g1
    rw [g1] at HD
    by_cases g2 : 0 ≤ a1
    · by_cases g3 : a1 ≤ 20
      · obtain ⟨k, rfl⟩ := Int.eq_ofNat_of_zero_le g2
        have hk : k ≤ 20 := by omega
        have HR := Lib.hid (fun W v (h : DfaAt W W.heap.size v d0) => rcount_any v d0 k W h Ga hk)
        rw [countOut_ok g1 hk] at HC HE
        clear Ga g1 g2 hL0 hs0 hN0 hM0
        generalize ((cnt d0 k d0.s.toNat : Nat) : Int) = y at *
        have e1 := int_eq (show y = y from rfl)
        go_enter Tryd.func8, Tryd.ntmps8
        obtain ⟨p0, p1, p2, p3, p4⟩ := VA.out.box
        go_wp2_with fail
        rw [← W0.out]
        clear W0
        refine (HD.out _ _ VA.out.at_).mono ?_
        rintro e u1 ⟨he, hb⟩
        obtain rfl : e = .returned (.int .i64 0) := he.out
        clear he
        have VA := Lib.hid (VA.out.on hb)
        have B := Lib.hid (B.out.trans (hb.mono B.out.size))
        clear hb
        clear HD p0 p1 p2 p3 p4
        obtain ⟨p0, p1, p2, p3, p4⟩ := VA.out.box
        go_wp2_with fail
        refine (HR.out _ _ VA.out.at_).mono ?_
        rintro e u2 ⟨he, hb⟩
        obtain rfl : e = .returned (.int .i64 y) := he.out
        clear he
        have VA := Lib.hid (VA.out.on hb)
        have B := Lib.hid (B.out.trans (hb.mono B.out.size))
        clear hb
        clear HR p0 p1 p2 p3 p4
        obtain ⟨p0, p1, p2, p3, p4⟩ := VA.out.box
        go_wp2_with fail
        refine (HC.out _ _ VA.out.at_).mono ?_
        rintro e u3 ⟨he, hb⟩
        obtain rfl : e = .returned (.tuple #[.int .i64 y, .nilIface]) := he.out
        clear he
        have VA := Lib.hid (VA.out.on hb)
        have B := Lib.hid (B.out.trans (hb.mono B.out.size))
        clear hb
        clear HC p0 p1 p2 p3 p4
        go_wp2_with fail
        refine (HE.out _ B.out).mono ?_
        rintro e u4 ⟨rfl, hb⟩
        have VA := Lib.hid (VA.out.on hb)
        have B := Lib.hid (B.out.trans (hb.mono B.out.size))
        clear hb
        clear HE
        go_wp2
        go_ret
        exact ⟨rfl, B.out⟩
      · rw [countOut_far g1 (.inr (show 20 < a1 by omega))] at HC HE
        clear Ga g1 hL0 hs0 hN0 hM0
        go_enter Tryd.func8, Tryd.ntmps8
        obtain ⟨p0, p1, p2, p3, p4⟩ := VA.out.box
        go_wp2_with fail
        rw [← W0.out]
        clear W0
        refine (HD.out _ _ VA.out.at_).mono ?_
        rintro e u1 ⟨he, hb⟩
        obtain rfl : e = .returned (.int .i64 0) := he.out
        clear he
        have VA := Lib.hid (VA.out.on hb)
        have B := Lib.hid (B.out.trans (hb.mono B.out.size))
        clear hb
        clear HD p0 p1 p2 p3 p4
        obtain ⟨p0, p1, p2, p3, p4⟩ := VA.out.box
        go_wp2_with fail
        refine (HC.out _ _ VA.out.at_).mono ?_
        rintro e u2 ⟨he, hb⟩
        obtain rfl : e = .returned (.tuple #[.int .i64 0, errI 1]) := he.out
        clear he
        have VA := Lib.hid (VA.out.on hb)
        have B := Lib.hid (B.out.trans (hb.mono B.out.size))
        clear hb
        clear HC p0 p1 p2 p3 p4
        go_wp2_with fail
        refine (HE.out _ B.out).mono ?_
        rintro e u3 ⟨rfl, hb⟩
        have VA := Lib.hid (VA.out.on hb)
        have B := Lib.hid (B.out.trans (hb.mono B.out.size))
        clear hb
        clear HE
        go_wp2
        go_ret
        exact ⟨rfl, B.out⟩
    · rw [countOut_far g1 (.inl (show a1 < 0 by omega))] at HC HE
      clear Ga g1 hL0 hs0 hN0 hM0
      go_enter Tryd.func8, Tryd.ntmps8
      obtain ⟨p0, p1, p2, p3, p4⟩ := VA.out.box
      go_wp2_with fail
      rw [← W0.out]
      clear W0
      refine (HD.out _ _ VA.out.at_).mono ?_
      rintro e u1 ⟨he, hb⟩
      obtain rfl : e = .returned (.int .i64 0) := he.out
      clear he
      have VA := Lib.hid (VA.out.on hb)
      have B := Lib.hid (B.out.trans (hb.mono B.out.size))
      clear hb
      clear HD p0 p1 p2 p3 p4
      obtain ⟨p0, p1, p2, p3, p4⟩ := VA.out.box
      go_wp2_with fail
      refine (HC.out _ _ VA.out.at_).mono ?_
      rintro e u2 ⟨he, hb⟩
      obtain rfl : e = .returned (.tuple #[.int .i64 0, errI 1]) := he.out
      clear he
      have VA := Lib.hid (VA.out.on hb)
      have B := Lib.hid (B.out.trans (hb.mono B.out.size))
      clear hb
      clear HC p0 p1 p2 p3 p4
      go_wp2_with fail
      refine (HE.out _ B.out).mono ?_
      rintro e u3 ⟨rfl, hb⟩
      have VA := Lib.hid (VA.out.on hb)
      have B := Lib.hid (B.out.trans (hb.mono B.out.size))
      clear hb
      clear HE
      go_wp2
      go_ret
      exact ⟨rfl, B.out⟩
  · rw [g1] at HD
    rw [countOut_bad (by omega), g1, errV_succ] at HC
    rw [countOut_bad (by omega), g1, errV_succ] at HE
    have hne := int_ne (show ((x + 1 : Nat) : Int) ≠ 0 by omega)
    clear g1 hL0 hs0 hN0 hM0
    generalize ((x + 1 : Nat) : Int) = E at *
    go_enter Tryd.func8, Tryd.ntmps8
    obtain ⟨p0, p1, p2, p3, p4⟩ := VA.out.box
    go_wp2_with fail
    rw [← W0.out]
    clear W0
    refine (HD.out _ _ VA.out.at_).mono ?_
    rintro e u1 ⟨he, hb⟩
    obtain rfl : e = .returned (.int .i64 E) := he.out
    clear he
    have VA := Lib.hid (VA.out.on hb)
    have B := Lib.hid (B.out.trans (hb.mono B.out.size))
    clear hb
    clear HD p0 p1 p2 p3 p4
    obtain ⟨p0, p1, p2, p3, p4⟩ := VA.out.box
    go_wp2_with fail
    refine (HC.out _ _ VA.out.at_).mono ?_
    rintro e u2 ⟨he, hb⟩
    obtain rfl : e = .returned (.tuple #[.int .i64 0, errI E]) := he.out
    clear he
    have VA := Lib.hid (VA.out.on hb)
    have B := Lib.hid (B.out.trans (hb.mono B.out.size))
    clear hb
    clear HC p0 p1 p2 p3 p4
    go_wp2_with fail
    refine (HE.out _ B.out).mono ?_
    rintro e u3 ⟨rfl, hb⟩
    have VA := Lib.hid (VA.out.on hb)
    have B := Lib.hid (B.out.trans (hb.mono B.out.size))
    clear hb
    clear HE
    go_wp2
    go_ret
    exact ⟨rfl, B.out⟩


set_option maxRecDepth 100000 in
theorem lifted (os : Os) (started : os.Started) (H : Type) (enc : TypeId × Value → H) :
    ReturnsInHanded {} Tryd.checked os 8 .any (fun w args => (Rows.reachCountsSpec.pre enc Tryd.prog Tryd.f8 Rows.reachCountsRow.domain false w args ∧ laidMetH Tryd.prog [("errors.errorType", Rows.laid_errors_errorType)] w) ∧ sizedMet enc Tryd.prog Tryd.f8 (OpenSpec.ofChange Rows.reachCountsSpec) false w args) (Rows.reachCountsSpec.post enc Tryd.prog Tryd.f8 false true false false) := by
  refine returnsInHanded_of_change_and (C := Tryd.checked) (X := fun w _ => laidMetH Tryd.prog [("errors.errorType", Rows.laid_errors_errorType)] w) (fun _ _ _ hh h => h.of_heap hh) own started (by kernel_rfl) Tryd.func8
    (ChangeSpec.witness_at (enc := enc) (C := Tryd.checked) (os := os) (X := fun w _ => laidMetH Tryd.prog [("errors.errorType", Rows.laid_errors_errorType)] w) false (laidWorld os) #[.agg #[.int .i64 0, .int .i64 0, .slice none 0 0, .slice none 0 0], .int .i64 0] 8 rfl (by kernel_rfl) (by kernel_rfl) (by kernel_rfl) (by kernel_rfl) (by kernel_rfl) (laidWorld_met os _)) ?_
  intro W base args ds gs before hval0 hW hcnd hsz0 hL _
  have hval : ∀ (j : Nat) t v, Tryd.f8.params[j]? = some t → args[j]? = some v → Value.okWide Tryd.prog W .any base t v := hval0
  have hsz : (DataW.weightsEach Tryd.prog (Tryd.f8.params.toList ++ Rows.reachCountsSpec.plain.varTypes Tryd.prog) (ds ++ gs)).all (· ≤ reachBytes) = true := hsz0
  have hW' := hW
  obtain ⟨p, q, hA0, hV0, rfl, hfz, hnd⟩ := hW
  have hV : DataW.TrodVars enc Tryd.prog W (fun _ => true) [] gs q := hV0
  have hA : DataW.TrodAll enc Tryd.prog W 0 (fun _ => true) true Tryd.f8.params.toList args.toList ds p := hA0
  rw [Tryd.params8] at hA hval hsz
  obtain ⟨v0, vs0, d0, ds0, p0, q0, hargs, rfl, rfl, h0, rr0⟩ := trodAll_cons hA
  obtain ⟨v1, vs1, d1, ds1, p1, q1, rfl, rfl, rfl, h1, rr1⟩ := trodAll_cons rr0
  obtain ⟨rfl, rfl, rfl⟩ := trodAll_nil rr1
  obtain rfl : args = #[v0, v1] := by cases args; simp_all
  obtain ⟨rfl, rfl⟩ := trodVars_none hV
  have k0 := h0
  have lt0 : ∀ x ∈ p0, x.block < W.heap.size := by obtain ⟨m, hm⟩ := k0; exact DataW.trod_lt m _ _ _ hm
  have k1 := h1
  have lt1 : ∀ x ∈ p1, x.block < W.heap.size := by obtain ⟨m, hm⟩ := k1; exact DataW.trod_lt m _ _ _ hm
  obtain ⟨D0, x0⟩ : ∃ d : Df.Aut, Df.DfaAt W W.heap.size v0 d := Df.dfa_open (hval 0 25 v0 rfl rfl) h0
  obtain ⟨a1, rfl, rfl, rfl, w1⟩ := open_int Tryd.underlying3 (hval 1 3 v1 rfl rfl) h1
  obtain ⟨l1, hh1⟩ := bounds_i64 w1
  clear hA0 hval0
  refine (walk v0 D0 a1 W x0 l1 hh1 (handle_of_laid hL)).mono fun e W' ⟨he, bel⟩ => ?_
  subst he
  exact ⟨_, rfl, _, _, _, [], _, [], hW', trodAll_mk1 (shut_bool Tryd.underlying4 _), (trodAll_cons_mk (Below.trod laidOut (by kernel_rfl) (of_decide_eq_true (by kernel_rfl)) k0 bel lt0) (trodAll_cons_mk (Below.trod laidOut (by kernel_rfl) (of_decide_eq_true (by kernel_rfl)) k1 bel lt1) trodAll_mk0)), rfl, bel.frame _, fun h => by cases h⟩

theorem over : Rows.reachCountsRow.holds Tryd.pinned (OpenSpec.ofChange Rows.reachCountsSpec) :=
  OpenClaim.holds_of_wide 8 Tryd.f8 rfl rfl rfl rfl rfl rfl rfl ⟨rfl, rfl, rfl, rfl, rfl⟩ rfl rfl rfl rfl rfl (by kernel_rfl) Tryd.func8 (by kernel_rfl)
    (of_decide_eq_true (by kernel_rfl)) (by unfold Func.isWrapper; rw [if_neg (of_decide_eq_false (by kernel_rfl))]; exact ⟨rfl, rfl⟩)
    (fun os started H enc _ => lifted os started H enc)
theorem proved : Rows.ReachCountsCardSaid :=
  Claim7.holds_tied_plain_at .later [] [.handle] true (true, "79422bc317647e98da3515ddd54c616c62872d918dc64e134f53a2f36d3d9ecc") true
    over (fun _ h => by cases h) (by kernel_rfl) (fun _ h => by cases h) reachCounts_row_tie rfl ⟨rfl, rfl⟩ (by kernel_rfl) rfl
    (fun f fn hf hfn => by
      obtain rfl : f = 8 := Option.some.inj ((show Tryd.prog.funcNamed "stileward/stilewardlaw2.ReachCounts" = some 8 by kernel_rfl).symm.trans hf) |>.symm
      obtain rfl : fn = Tryd.f8 := (Option.some.inj (Tryd.func8.symm.trans hfn)).symm
      exact ⟨by kernel_rfl, fun j t ht => by
        rw [Tryd.params8] at ht
        rcases j with _ | _ | j
        · obtain rfl : 25 = t := by simpa using ht
          exact (show Tryd.prog.wantsStandIn 25 = false by kernel_rfl)
        · obtain rfl : 3 = t := by simpa using ht
          exact (show Tryd.prog.wantsStandIn 3 = false by kernel_rfl)
        · simp at ht⟩)
    (by kernel_rfl)
#print axioms proved
end Go.Proofs.YtinehjfanabegaaDoor.reachCounts
