/-
  The statement SmallMakesCardSaid of this seat, proved: for every input the law returns true and its arguments read behind the call as before. Conditions: none but the row's own (each argument within the reach; the listed variable as the program lays it, tied by the given tie).
-/
import Derived.Test.YtinehjfanabegaaDoorRows
import Derived.Test.YtinehjfanabegaaDoorCards
import Derived.Test.YtinehjfanabegaaDoorTie
import Derived.SevenTiedAt
import Derived.LaidLaws
import Derived.LaidHandle
import Derived.Stop.Joined
import Derived.JoinedOf
import Derived.RowKit
import Derived.RowKitTokens
import Derived.ChangeSame
import Derived.ChangeVars
import Derived.Test.YtinehjfanabegaaDoorWords
import Derived.WalkKit
import Derived.ProofKit
import Derived.OpenShut
import Derived.ShutString
import Derived.ChangeOld
import Derived.Below
import Derived.SizedLaws
import Derived.Lib.Hide
import Derived.Test.YtinehjfanabegaaDoorRefMin
import Derived.Test.YtinehjfanabegaaDoorMinV
import Derived.Test.YtinehjfanabegaaDoorRefDfa
import Derived.Test.YtinehjfanabegaaDoorSays
import Derived.Test.YtinehjfanabegaaDoorDfaX
namespace Go.Proofs.YtinehjfanabegaaDoor.smallMakes
open Go.ChangeShapes Go.WideShapes Go.ChangeAt Go.RowKit Go.IntWalk Go.Proofs.YtinehjfanabegaaDoor.Wd
open Go.ChangeMaps (open_string shut_string)
set_option linter.unusedVariables false

theorem own : ownKnob Tryd.prog.godebug = none := by kernel_rfl
theorem laidOut : laidOutB Tryd.prog = true := by kernel_rfl
theorem et : Tryd.prog.globalNamed "errors.errorType" = some 0 := by kernel_rfl
theorem rt : (Tryd.prog.cutTypes.find? (·.1 == "internal/reflectlite.rtype")).map (·.2) = some 177 := by kernel_rfl
theorem oneRow : ((List.range 228).filter fun t => Tryd.prog.rowNamed t [101, 114, 114, 111, 114]) = [30] := by kernel_rfl
theorem size : Tryd.prog.types.size = 228 := by kernel_rfl
/-- What the condition gives a walk: the variable's one cell. -/
theorem handle_of_laid {w : World} (h : laidMetH Tryd.prog [("errors.errorType", Rows.laid_errors_errorType)] w) : w.cell? ⟨0, 0, none⟩ = some (.iface 177 (.agg #[.pointer (some ⟨1, 30, none⟩)])) := by
  have h' : laidMet Tryd.prog [] w ∧ handlesMet Tryd.prog [("errors.errorType", Rows.laid_errors_errorType)] w := h
  obtain ⟨name, u, ty, e1, e2, e3, e4, e5⟩ := h'.2 _ (List.mem_singleton.2 rfl)
  have en : name = [101, 114, 114, 111, 114] := (Option.some.inj e1).symm
  subst en
  obtain rfl := Option.some.inj (rt.symm.trans e2)
  have hm : ty ∈ (List.range 228).filter fun t => Tryd.prog.rowNamed t [101, 114, 114, 111, 114] := List.mem_filter.2 ⟨List.mem_range.2 (by rw [← size]; exact e3), e4⟩
  rw [oneRow] at hm
  obtain rfl := List.mem_singleton.1 hm
  have hh : typeHandle Tryd.prog 30 = .pointer (some ⟨1, 30, none⟩) := by kernel_rfl
  rw [hh] at e5
  simpa using World.var?_cell et e5 0
/-- A world that meets the condition. -/
noncomputable def laidWorld (os : Os) : World :=
  let w0 := World.holding Tryd.prog os ⟨#[], #[], []⟩
  { w0 with heap := w0.heap.modify 0 fun
      | .cells _ t frozen => .cells #[.iface 177 (.agg #[.pointer (some ⟨1, 30, none⟩)])] t frozen
      | o => o }
theorem laidWorld_met (os : Os) (args : Array Value) : laidMetH Tryd.prog [("errors.errorType", Rows.laid_errors_errorType)] ((laidWorld os).forCall (fun _ _ => 0) ⟨#[], args, []⟩).memory :=
  laidMetH_of_parts (laidMet_nil _ _) (by kernel_rfl)
open Go.Proofs.YtinehjfanabegaaDoor.Wo Go.Proofs.YtinehjfanabegaaDoor.Er Go.Proofs.YtinehjfanabegaaDoor.Df Go.Proofs.YtinehjfanabegaaDoor.Rc Go.Proofs.YtinehjfanabegaaDoor.Sm Go.Proofs.YtinehjfanabegaaDoor.Mp

set_option maxRecDepth 100000 in
set_option maxHeartbeats 4000000 in
theorem walk (v0 : Value) (d0 : Df.Aut) (w : World) (h0 : Df.DfaAt w w.heap.size v0 d0) (hg : w.cell? ⟨0, 0, none⟩ = some (.iface 177 (.agg #[.pointer (some ⟨1, 30, none⟩)]))) :
    Calls Tryd.prog 10 #[v0] w fun e w' => e = .returned (.bool true) ∧ Below w.heap.size w w' := by
  obtain ⟨L0, s0, A0, n0, c0, F0, m0, k0, rfl⟩ := h0.form
  obtain ⟨hL0, hs0, hN0, hM0⟩ := h0.eqs
  obtain ⟨u0, hu0, hb0, VA0⟩ := var_new w h0
  have VA := Lib.hid VA0
  have B := Lib.hid hb0
  have W0 := Lib.hid hu0
  have HD := Lib.hid (fun W v (h : DfaAt W W.heap.size v d0) => rdfa_any v d0 W h)
  have HE := Lib.hid (fun W h => says (minOut d0).2 hg W h)
  clear hu0 hb0 VA0 hg h0
  rcases g1 : dchk d0 with _ | x
  · have Ga := dchk_iff.1 g1
    have gt := min_good Ga
    rw [g1] at HD
    have HR := Lib.hid (fun W v (h : DfaAt W W.heap.size v d0) => rmin_any v d0 W h Ga)
    have HT := Lib.hid (fun W v (h : DfaAt W W.heap.size v d0) => min_gives (E := .nilIface) h (minOut_ok g1) rfl)
    have HS := Lib.hid (fun W v z (h : DfaAt W W.heap.size v (minA d0)) (h2 : DfaAt W W.heap.size z (minA d0)) => same_gives h h2 gt.lite rfl)
    rw [minOut_ok g1] at HE
    clear Ga gt g1 hL0 hs0 hN0 hM0
    generalize minA d0 = T at *
    go_enter Tryd.func10, Tryd.ntmps10
    obtain ⟨p0, p1, p2, p3, p4⟩ := VA.out.box
    go_wp2_with fail
    rw [← W0.out]
    clear W0
    refine (HD.out _ _ VA.out.at_).mono ?_
    rintro e u1 ⟨he, hb⟩
    obtain rfl : e = .returned (.int .i64 0) := he.out
    clear he
    have VA := Lib.hid (VA.out.on hb)
    have B := Lib.hid (B.out.trans (hb.mono B.out.size))
    clear hb
    clear HD p0 p1 p2 p3 p4
    obtain ⟨p0, p1, p2, p3, p4⟩ := VA.out.box
    have HO := Lib.hid ((own_start u1).dfa (.int .i64 0) (.int .i64 0) (.slice none 0 0) (.slice none 0 0))
    go_wp2_with fail
    refine (HR.out _ _ (VA.out.at_.on (below_alloc _ _))).mono ?_
    rintro e u2 he
    obtain ⟨xx, rfl, ho⟩ := he.out
    obtain ⟨L2, s2, A2, n2, c2, F2, m2, k2, rfl⟩ := ho.at_.form
    obtain ⟨fs, hO, hH⟩ := ho.held
    have HO2 : Hid (Own u1 u2 [eDfa u1.heap.size [.int .i64 0, .int .i64 0, .slice none 0 0, .slice none 0 0]] fs) := (HO.out.join hO).weak (fun e he => List.mem_append_left _ he)
    obtain ⟨q0, r0⟩ := HO2.out.dcell (g := u1.heap.size) (l := zero4) (j := 0) (by simp) rfl
    obtain ⟨q1, r1⟩ := HO2.out.dcell (g := u1.heap.size) (l := zero4) (j := 1) (by simp) rfl
    obtain ⟨q2, r2⟩ := HO2.out.dcell (g := u1.heap.size) (l := zero4) (j := 2) (by simp) rfl
    obtain ⟨q3, r3⟩ := HO2.out.dcell (g := u1.heap.size) (l := zero4) (j := 3) (by simp) rfl
    obtain ⟨u3, hu3⟩ : ∃ u3, u3 = ((((u2.setCell ⟨u1.heap.size, 0, none⟩ (.int .i64 L2)).setCell ⟨u1.heap.size, 1, none⟩ (.int .i64 s2)).setCell ⟨u1.heap.size, 2, none⟩ (.slice A2 n2 c2)).setCell ⟨u1.heap.size, 3, none⟩ (.slice F2 m2 k2)) := ⟨_, rfl⟩
    have HO3 : Hid (Own u1 u3 [eDfa u1.heap.size [.int .i64 L2, .int .i64 s2, .slice A2 n2 c2, .slice F2 m2 k2]] fs) := by rw [hu3]; exact (((HO2.out.dset 0 (.int .i64 L2)).dset 1 (.int .i64 s2)).dset 2 (.slice A2 n2 c2)).dset 3 (.slice F2 m2 k2)
    have hb := HO3.out.below
    have VW : Hid (Var u3 u1.heap.size L2 s2 A2 n2 c2 F2 m2 k2 T) := by
      have hc := fun j u hj => (HO3.out.dcell (g := u1.heap.size) (l := [.int .i64 L2, .int .i64 s2, .slice A2 n2 c2, .slice F2 m2 k2]) (j := j) (u := u) (by simp) hj).1
      exact ⟨⟨(HO3.out.lt (ad := ⟨u1.heap.size, 0, none⟩) (t := 25) (sz := 4) (n := 1) (cap := 1) (xs := [.int .i64 L2, .int .i64 s2, .slice A2 n2 c2, .slice F2 m2 k2]) (by simp [eDfa])).2, hc 0 _ rfl, hc 1 _ rfl, hc 2 _ rfl, hc 3 _ rfl⟩, hH.at_ HO3.out⟩
    have HU := Lib.hid hu3
    have VA1 := VA
    obtain ⟨w0, w1, w2, w3, w4⟩ := ((VA.out.on (below_alloc _ _)).on ho.below).box
    have BB := B
    have VA := Lib.hid (VA.out.on hb)
    have B := Lib.hid (B.out.trans (hb.mono B.out.size))
    clear hb HR he ho hO hH HO HO2 HO3 hu3
    go_wp2_with fail
    rw [← HU.out]
    clear HU VA1 BB q0 q1 q2 q3 r0 r1 r2 r3
    refine (HT.out _ _ VA.out.at_).mono ?_
    rintro e u4 ⟨L14, s14, A14, n14, c14, F14, m14, k14, rfl, hd, hb⟩
    have VA := Lib.hid (VA.out.on hb)
    have VW := Lib.hid (VW.out.on hb)
    have B := Lib.hid (B.out.trans (hb.mono B.out.size))
    clear hb HT p0 p1 p2 p3 p4 w0 w1 w2 w3 w4
    obtain ⟨x4, hx4, hb, Vn⟩ := var_new u4 hd.out
    have HX := Lib.hid hx4
    have VN := Lib.hid Vn
    have VA := Lib.hid (VA.out.on hb)
    have VW := Lib.hid (VW.out.on hb)
    have B := Lib.hid (B.out.trans (hb.mono B.out.size))
    clear hb hd hx4 Vn
    go_wp2_with fail
    rw [← HX.out]
    clear HX
    refine (HE.out _ B.out).mono ?_
    rintro e u9 ⟨rfl, hb⟩
    have VA := Lib.hid (VA.out.on hb)
    have VW := Lib.hid (VW.out.on hb)
    have VN := Lib.hid (VN.out.on hb)
    have B := Lib.hid (B.out.trans (hb.mono B.out.size))
    clear hb HE
    obtain ⟨p0, p1, p2, p3, p4⟩ := VN.out.box
    obtain ⟨q0, q1, q2, q3, q4⟩ := VW.out.box
    go_wp2_with fail
    refine (HS.out _ _ _ VN.out.at_ VW.out.at_).mono ?_
    rintro e u5 ⟨rfl, hb⟩
    have VA := Lib.hid (VA.out.on hb)
    have VW := Lib.hid (VW.out.on hb)
    have VN := Lib.hid (VN.out.on hb)
    have B := Lib.hid (B.out.trans (hb.mono B.out.size))
    clear hb
    clear HS p0 p1 p2 p3 p4 q0 q1 q2 q3 q4
    go_wp2
    go_ret
    exact ⟨rfl, B.out⟩
  · rw [g1] at HD
    have HT := Lib.hid (fun W v (h : DfaAt W W.heap.size v d0) => min_gives h (minOut_bad (by omega)) (by rw [g1]))
    have HS := Lib.hid (fun W v z (h : DfaAt W W.heap.size v zeroA) (h2 : DfaAt W W.heap.size z zeroA) => same_gives h h2 lite_zero rfl)
    rw [minOut_bad (by omega), g1, errV_succ] at HE
    rw [errV_succ] at HT
    have hne := int_ne (show ((x + 1 : Nat) : Int) ≠ 0 by omega)
    clear g1 hL0 hs0 hN0 hM0
    generalize ((x + 1 : Nat) : Int) = E at *
    go_enter Tryd.func10, Tryd.ntmps10
    obtain ⟨p0, p1, p2, p3, p4⟩ := VA.out.box
    go_wp2_with fail
    rw [← W0.out]
    clear W0
    refine (HD.out _ _ VA.out.at_).mono ?_
    rintro e u1 ⟨he, hb⟩
    obtain rfl : e = .returned (.int .i64 E) := he.out
    clear he
    have VA := Lib.hid (VA.out.on hb)
    have B := Lib.hid (B.out.trans (hb.mono B.out.size))
    clear hb
    clear HD p0 p1 p2 p3 p4
    obtain ⟨p0, p1, p2, p3, p4⟩ := VA.out.box
    obtain ⟨u3, hu3, hb, Vw⟩ := var_new u1 (dfaAt_zero u1 _)
    have HU := Lib.hid hu3
    have VW := Lib.hid Vw
    have VA := Lib.hid (VA.out.on hb)
    have B := Lib.hid (B.out.trans (hb.mono B.out.size))
    clear hb hu3 Vw
    have hz0 := hne
    go_wp2_with fail
    rw [← HU.out]
    clear HU
    refine (HT.out _ _ VA.out.at_).mono ?_
    rintro e u4 ⟨L14, s14, A14, n14, c14, F14, m14, k14, rfl, hd, hb⟩
    have VA := Lib.hid (VA.out.on hb)
    have VW := Lib.hid (VW.out.on hb)
    have B := Lib.hid (B.out.trans (hb.mono B.out.size))
    clear hb HT p0 p1 p2 p3 p4
    obtain ⟨x4, hx4, hb, Vn⟩ := var_new u4 hd.out
    have HX := Lib.hid hx4
    have VN := Lib.hid Vn
    have VA := Lib.hid (VA.out.on hb)
    have VW := Lib.hid (VW.out.on hb)
    have B := Lib.hid (B.out.trans (hb.mono B.out.size))
    clear hb hd hx4 Vn
    go_wp2_with fail
    rw [← HX.out]
    clear HX
    refine (HE.out _ B.out).mono ?_
    rintro e u9 ⟨rfl, hb⟩
    have VA := Lib.hid (VA.out.on hb)
    have VW := Lib.hid (VW.out.on hb)
    have VN := Lib.hid (VN.out.on hb)
    have B := Lib.hid (B.out.trans (hb.mono B.out.size))
    clear hb HE
    obtain ⟨p0, p1, p2, p3, p4⟩ := VN.out.box
    obtain ⟨q0, q1, q2, q3, q4⟩ := VW.out.box
    go_wp2_with fail
    refine (HS.out _ _ _ VN.out.at_ VW.out.at_).mono ?_
    rintro e u5 ⟨rfl, hb⟩
    have VA := Lib.hid (VA.out.on hb)
    have VW := Lib.hid (VW.out.on hb)
    have VN := Lib.hid (VN.out.on hb)
    have B := Lib.hid (B.out.trans (hb.mono B.out.size))
    clear hb
    clear HS p0 p1 p2 p3 p4 q0 q1 q2 q3 q4
    go_wp2
    go_ret
    exact ⟨rfl, B.out⟩


set_option maxRecDepth 100000 in
theorem lifted (os : Os) (started : os.Started) (H : Type) (enc : TypeId × Value → H) :
    ReturnsInHanded {} Tryd.checked os 10 .any (fun w args => (Rows.smallMakesSpec.pre enc Tryd.prog Tryd.f10 Rows.smallMakesRow.domain false w args ∧ laidMetH Tryd.prog [("errors.errorType", Rows.laid_errors_errorType)] w) ∧ sizedMet enc Tryd.prog Tryd.f10 (OpenSpec.ofChange Rows.smallMakesSpec) false w args) (Rows.smallMakesSpec.post enc Tryd.prog Tryd.f10 false true false false) := by
  refine returnsInHanded_of_change_and (C := Tryd.checked) (X := fun w _ => laidMetH Tryd.prog [("errors.errorType", Rows.laid_errors_errorType)] w) (fun _ _ _ hh h => h.of_heap hh) own started (by kernel_rfl) Tryd.func10
    (ChangeSpec.witness_at (enc := enc) (C := Tryd.checked) (os := os) (X := fun w _ => laidMetH Tryd.prog [("errors.errorType", Rows.laid_errors_errorType)] w) false (laidWorld os) #[.agg #[.int .i64 0, .int .i64 0, .slice none 0 0, .slice none 0 0]] 8 rfl (by kernel_rfl) (by kernel_rfl) (by kernel_rfl) (by kernel_rfl) (by kernel_rfl) (laidWorld_met os _)) ?_
  intro W base args ds gs before hval0 hW hcnd hsz0 hL _
  have hval : ∀ (j : Nat) t v, Tryd.f10.params[j]? = some t → args[j]? = some v → Value.okWide Tryd.prog W .any base t v := hval0
  have hsz : (DataW.weightsEach Tryd.prog (Tryd.f10.params.toList ++ Rows.smallMakesSpec.plain.varTypes Tryd.prog) (ds ++ gs)).all (· ≤ reachBytes) = true := hsz0
  have hW' := hW
  obtain ⟨p, q, hA0, hV0, rfl, hfz, hnd⟩ := hW
  have hV : DataW.TrodVars enc Tryd.prog W (fun _ => true) [] gs q := hV0
  have hA : DataW.TrodAll enc Tryd.prog W 0 (fun _ => true) true Tryd.f10.params.toList args.toList ds p := hA0
  rw [Tryd.params10] at hA hval hsz
  obtain ⟨v0, vs0, d0, ds0, p0, q0, hargs, rfl, rfl, h0, rr0⟩ := trodAll_cons hA
  obtain ⟨rfl, rfl, rfl⟩ := trodAll_nil rr0
  obtain rfl : args = #[v0] := by cases args; simp_all
  obtain ⟨rfl, rfl⟩ := trodVars_none hV
  have k0 := h0
  have lt0 : ∀ x ∈ p0, x.block < W.heap.size := by obtain ⟨m, hm⟩ := k0; exact DataW.trod_lt m _ _ _ hm
  obtain ⟨D0, x0⟩ : ∃ d : Df.Aut, Df.DfaAt W W.heap.size v0 d := Df.dfa_open (hval 0 25 v0 rfl rfl) h0
  clear hA0 hval0
  refine (walk v0 D0 W x0 (handle_of_laid hL)).mono fun e W' ⟨he, bel⟩ => ?_
  subst he
  exact ⟨_, rfl, _, _, _, [], _, [], hW', trodAll_mk1 (shut_bool Tryd.underlying4 _), (trodAll_cons_mk (Below.trod laidOut (by kernel_rfl) (of_decide_eq_true (by kernel_rfl)) k0 bel lt0) trodAll_mk0), rfl, bel.frame _, fun h => by cases h⟩

theorem over : Rows.smallMakesRow.holds Tryd.pinned (OpenSpec.ofChange Rows.smallMakesSpec) :=
  OpenClaim.holds_of_wide 10 Tryd.f10 rfl rfl rfl rfl rfl rfl rfl ⟨rfl, rfl, rfl, rfl, rfl⟩ rfl rfl rfl rfl rfl (by kernel_rfl) Tryd.func10 (by kernel_rfl)
    (of_decide_eq_true (by kernel_rfl)) (by unfold Func.isWrapper; rw [if_neg (of_decide_eq_false (by kernel_rfl))]; exact ⟨rfl, rfl⟩)
    (fun os started H enc _ => lifted os started H enc)
theorem proved : Rows.SmallMakesCardSaid :=
  Claim7.holds_tied_plain_at .later [] [.handle] true (true, "79422bc317647e98da3515ddd54c616c62872d918dc64e134f53a2f36d3d9ecc") true
    over (fun _ h => by cases h) (by kernel_rfl) (fun _ h => by cases h) smallMakes_row_tie rfl ⟨rfl, rfl⟩ (by kernel_rfl) rfl
    (fun f fn hf hfn => by
      obtain rfl : f = 10 := Option.some.inj ((show Tryd.prog.funcNamed "stileward/stilewardlaw2.SmallMakes" = some 10 by kernel_rfl).symm.trans hf) |>.symm
      obtain rfl : fn = Tryd.f10 := (Option.some.inj (Tryd.func10.symm.trans hfn)).symm
      exact ⟨by kernel_rfl, fun j t ht => by
        rw [Tryd.params10] at ht
        rcases j with _ | j
        · obtain rfl : 25 = t := by simpa using ht
          exact (show Tryd.prog.wantsStandIn 25 = false by kernel_rfl)
        · simp at ht⟩)
    (by kernel_rfl)
#print axioms proved
end Go.Proofs.YtinehjfanabegaaDoor.smallMakes
