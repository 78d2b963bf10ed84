/-
  The statement PackListsCardSaid of this seat, proved: for every input the law returns true and its arguments read behind the call as before. Conditions: none but the row's own (each argument within the reach; the listed variable as the program lays it, tied by the given tie).
-/
import Derived.Test.YtfpebmnmiplooaaDoorRows
import Derived.Test.YtfpebmnmiplooaaDoorCards
import Derived.Test.YtfpebmnmiplooaaDoorTie
import Derived.SevenTiedAt
import Derived.LaidLaws
import Derived.LaidHandle
import Derived.Stop.Joined
import Derived.JoinedOf
import Derived.RowKit
import Derived.RowKitTokens
import Derived.ChangeSame
import Derived.ChangeVars
import Derived.Test.YtfpebmnmiplooaaDoorWords
import Derived.WalkKit
import Derived.ProofKit
import Derived.OpenShut
import Derived.ShutString
import Derived.ChangeOld
import Derived.Below
import Derived.SizedLaws
import Derived.Lib.Hide
import Derived.Test.YtfpebmnmiplooaaDoorRefPack
import Derived.Test.YtfpebmnmiplooaaDoorSame
import Derived.Test.YtfpebmnmiplooaaDoorErr
namespace Go.Proofs.YtfpebmnmiplooaaDoor.packLists
open Go.ChangeShapes Go.WideShapes Go.ChangeAt Go.RowKit Go.IntWalk Go.Proofs.YtfpebmnmiplooaaDoor.Wd
open Go.ChangeMaps (open_string shut_string)
set_option linter.unusedVariables false

theorem own : ownKnob Tryd.prog.godebug = none := by kernel_rfl
theorem laidOut : laidOutB Tryd.prog = true := by kernel_rfl
theorem et : Tryd.prog.globalNamed "errors.errorType" = some 0 := by kernel_rfl
theorem rt : (Tryd.prog.cutTypes.find? (·.1 == "internal/reflectlite.rtype")).map (·.2) = some 64 := by kernel_rfl
theorem oneRow : ((List.range 107).filter fun t => Tryd.prog.rowNamed t [101, 114, 114, 111, 114]) = [23] := by kernel_rfl
theorem size : Tryd.prog.types.size = 107 := by kernel_rfl
/-- What the condition gives a walk: the variable's one cell. -/
theorem handle_of_laid {w : World} (h : laidMetH Tryd.prog [("errors.errorType", Rows.laid_errors_errorType)] w) : w.cell? ⟨0, 0, none⟩ = some (.iface 64 (.agg #[.pointer (some ⟨1, 23, none⟩)])) := by
  have h' : laidMet Tryd.prog [] w ∧ handlesMet Tryd.prog [("errors.errorType", Rows.laid_errors_errorType)] w := h
  obtain ⟨name, u, ty, e1, e2, e3, e4, e5⟩ := h'.2 _ (List.mem_singleton.2 rfl)
  have en : name = [101, 114, 114, 111, 114] := (Option.some.inj e1).symm
  subst en
  obtain rfl := Option.some.inj (rt.symm.trans e2)
  have hm : ty ∈ (List.range 107).filter fun t => Tryd.prog.rowNamed t [101, 114, 114, 111, 114] := List.mem_filter.2 ⟨List.mem_range.2 (by rw [← size]; exact e3), e4⟩
  rw [oneRow] at hm
  obtain rfl := List.mem_singleton.1 hm
  have hh : typeHandle Tryd.prog 23 = .pointer (some ⟨1, 23, none⟩) := by kernel_rfl
  rw [hh] at e5
  simpa using World.var?_cell et e5 0
/-- A world that meets the condition. -/
noncomputable def laidWorld (os : Os) : World :=
  let w0 := World.holding Tryd.prog os ⟨#[], #[], []⟩
  { w0 with heap := w0.heap.modify 0 fun
      | .cells _ t frozen => .cells #[.iface 64 (.agg #[.pointer (some ⟨1, 23, none⟩)])] t frozen
      | o => o }
theorem laidWorld_met (os : Os) (args : Array Value) : laidMetH Tryd.prog [("errors.errorType", Rows.laid_errors_errorType)] ((laidWorld os).forCall (fun _ _ => 0) ⟨#[], args, []⟩).memory :=
  laidMetH_of_parts (laidMet_nil _ _) (by kernel_rfl)
open Go.Proofs.YtfpebmnmiplooaaDoor.Pk Go.Proofs.YtfpebmnmiplooaaDoor.Er
theorem keep_handle {w w' : World} (hg : w.cell? ⟨0, 0, none⟩ = some (.iface 64 (.agg #[.pointer (some ⟨1, 23, none⟩)]))) (hb : Below w.heap.size w w') :
    w'.cell? ⟨0, 0, none⟩ = some (.iface 64 (.agg #[hErr])) := by
  rw [hb.cell (World.block_lt_of_cell? w _ hg)]; exact hg

set_option maxRecDepth 100000 in
set_option maxHeartbeats 4000000 in
theorem walk (A0 : Option Addr) (c0 : Nat) (z0 : List Int) (s1 : ByteArray) (w : World) (v0 : IntsAt w w.heap.size A0 z0) (r0 : z0.length ≤ 17592186043904) (r1 : s1.size ≤ 140737488351232) (hg : w.cell? ⟨0, 0, none⟩ = some (.iface 64 (.agg #[.pointer (some ⟨1, 23, none⟩)]))) :
    Calls Tryd.prog 4 #[.slice A0 z0.length c0, .string s1] w fun e w' => e = .returned (.bool true) ∧ Below w.heap.size w w' := by
  have HG := Lib.hid hg
  have HV := Lib.hid v0
  clear hg v0
  rcases hl : lstOut z0 with ⟨bs, _ | e9⟩
  · have HX := Lib.hid (fun W h => list_ok' A0 c0 z0 W h (by omega) bs hl)
    have HY := Lib.hid (fun W h => refList' A0 c0 z0 W h (by omega) bs 0 hl)
    have hxe : ((str bs).toList == (str bs).toList) = true := txt_eq rfl
    generalize str bs = X at *
    clear hl
    go_enter Tryd.func4, Tryd.ntmps4
    go_wp2_with fail
    refine (HX.out _ HV.out).mono ?_
    rintro e w1 ⟨rfl, hb1⟩
    have HB1 := Lib.hid hb1
    clear hb1 HX
    go_wp2_with fail
    refine (HY.out _ ((HV.out.below HB1.out).more HB1.out.size)).mono ?_
    rintro e w2 ⟨rfl, hb2⟩
    have HB2 := Lib.hid (HB1.out.trans (hb2.mono HB1.out.size))
    clear hb2 HY
    go_wp2_with fail
    refine (error_nil 0 _).mono ?_
    rintro r w3 ⟨hr, rfl⟩
    have hr' : r = .returned (.bool true) := by rw [hr.out]; rfl
    subst hr'
    clear hr
    go_wp2_with fail
    rcases hy : rdList s1.data.toList with ⟨l, u, _ | e0⟩
    · have ho := rdList_ok hy
      refine (readList_ok s1 _ (by omega) l u hy).mono ?_
      rintro e w3 ⟨A, cap, zs, rfl, HZ, hA, hb3⟩
      have HB3 := Lib.hid ((HB2.out).trans (hb3.mono (HB2.out).size))
      have HA := Lib.hid hA
      have hzl : zs.length ≤ 200 := by rw [HZ.out, List.length_map]; exact ho.1
      have HY := Lib.hid (fun W => refReadList_ok s1 W (by omega) l u hy)
      clear hy ho hA hb3
      go_wp2_with fail
      refine (HY.out _).mono ?_
      rintro e w4 ⟨A', cap', zs', rfl, HZ', hA', hb4⟩
      obtain rfl : zs' = zs := by rw [HZ'.out, HZ.out]
      have HB4 := Lib.hid (HB3.out.trans (hb4.mono HB3.out.size))
      have HI := Lib.hid (fun n => ints_any A A' cap cap' zs' zs' (w4.drewN n) ((HA.out.below hb4).more hb4.size) hA' (by omega) (by omega))
      clear hb4 hA' HY
      go_wp2_with fail
      refine (error_nil 0 _).mono ?_
      rintro r w5 ⟨hr, rfl⟩
      have hr' : r = .returned (.bool true) := by rw [hr.out]; rfl
      subst hr'
      clear hr
      go_wp2_with fail
      refine (HI.out 0).mono ?_
      rintro e w5 ⟨he5, n5, rfl⟩
      have he6 : e = .returned (.bool true) := by rw [he5.out]; simp
      subst he6
      clear HI he5
      go_wp2
      go_ret
      exact ⟨rfl, below_drewN HB4.out _⟩
    · have hb := rdList_bad hy (by omega)
      rw [hb.1, hb.2.1] at hy
      have HX := Lib.hid (fun W => readList_bad s1 W (by omega) e0 hy)
      have HY := Lib.hid (fun W => refReadList_bad s1 W (by omega) e0 hy)
      clear hy hb
      generalize ((e0 + 1 : Nat) : Int) = E at *
      refine (HX.out _).mono ?_
      rintro e w3 ⟨rfl, hb3⟩
      have HB3 := Lib.hid ((HB2.out).trans (hb3.mono (HB2.out).size))
      clear hb3 HX
      go_wp2_with fail
      refine (HY.out _).mono ?_
      rintro e w4 ⟨rfl, hb4⟩
      have HB4 := Lib.hid (HB3.out.trans (hb4.mono HB3.out.size))
      clear hb4 HY
      have HE := Lib.hid (error_told E E w4 (keep_handle HG.out HB4.out))
      go_wp2_with fail
      refine HE.out.mono ?_
      rintro r w5 ⟨hr, hb5⟩
      have hr' : r = .returned (.bool true) := by rw [hr.out]; simp
      subst hr'
      have HB5 := Lib.hid (HB4.out.trans (hb5.mono HB4.out.size))
      have HI : Hid (Calls Tryd.prog 15 #[.slice none 0 0, .slice none 0 0] w5 fun e w' => Hid (e = .returned (.bool (decide (([] : List Int) = [])))) ∧ ∃ n, w' = w5.drewN n) :=
        ints_any none none 0 0 [] [] w5 (IntsAt.nil _ _ _) (IntsAt.nil _ _ _) (by simp) (by simp)
      clear hb5 hr HE
      go_wp2_with fail
      refine HI.out.mono ?_
      rintro e w6 ⟨he5, n5, rfl⟩
      have he6 : e = .returned (.bool true) := by rw [he5.out]; simp
      subst he6
      clear HI he5
      go_wp2
      go_ret
      exact ⟨rfl, below_drewN HB5.out _⟩
  · have HX := Lib.hid (fun W h => list_bad' A0 c0 z0 W h (by omega) bs e9 hl)
    have HY := Lib.hid (fun W h => refList' A0 c0 z0 W h (by omega) bs (e9 + 1) hl)
    have hxe : ((str bs).toList == (str bs).toList) = true := txt_eq rfl
    generalize str bs = X at *
    generalize ((e9 + 1 : Nat) : Int) = E9 at *
    clear hl
    go_enter Tryd.func4, Tryd.ntmps4
    go_wp2_with fail
    refine (HX.out _ HV.out).mono ?_
    rintro e w1 ⟨rfl, hb1⟩
    have HB1 := Lib.hid hb1
    clear hb1 HX
    go_wp2_with fail
    refine (HY.out _ ((HV.out.below HB1.out).more HB1.out.size)).mono ?_
    rintro e w2 ⟨rfl, hb2⟩
    have HB2 := Lib.hid (HB1.out.trans (hb2.mono HB1.out.size))
    clear hb2 HY
    have HE9 := Lib.hid (error_told E9 E9 w2 (keep_handle HG.out HB2.out))
    go_wp2_with fail
    refine HE9.out.mono ?_
    rintro r w2' ⟨hr, hb2⟩
    have hr' : r = .returned (.bool true) := by rw [hr.out]; simp
    subst hr'
    have HB2' := Lib.hid (HB2.out.trans (hb2.mono HB2.out.size))
    clear hr hb2 HE9
    go_wp2_with fail
    rcases hy : rdList s1.data.toList with ⟨l, u, _ | e0⟩
    · have ho := rdList_ok hy
      refine (readList_ok s1 _ (by omega) l u hy).mono ?_
      rintro e w3 ⟨A, cap, zs, rfl, HZ, hA, hb3⟩
      have HB3 := Lib.hid ((HB2'.out).trans (hb3.mono (HB2'.out).size))
      have HA := Lib.hid hA
      have hzl : zs.length ≤ 200 := by rw [HZ.out, List.length_map]; exact ho.1
      have HY := Lib.hid (fun W => refReadList_ok s1 W (by omega) l u hy)
      clear hy ho hA hb3
      go_wp2_with fail
      refine (HY.out _).mono ?_
      rintro e w4 ⟨A', cap', zs', rfl, HZ', hA', hb4⟩
      obtain rfl : zs' = zs := by rw [HZ'.out, HZ.out]
      have HB4 := Lib.hid (HB3.out.trans (hb4.mono HB3.out.size))
      have HI := Lib.hid (fun n => ints_any A A' cap cap' zs' zs' (w4.drewN n) ((HA.out.below hb4).more hb4.size) hA' (by omega) (by omega))
      clear hb4 hA' HY
      go_wp2_with fail
      refine (error_nil 0 _).mono ?_
      rintro r w5 ⟨hr, rfl⟩
      have hr' : r = .returned (.bool true) := by rw [hr.out]; rfl
      subst hr'
      clear hr
      go_wp2_with fail
      refine (HI.out 0).mono ?_
      rintro e w5 ⟨he5, n5, rfl⟩
      have he6 : e = .returned (.bool true) := by rw [he5.out]; simp
      subst he6
      clear HI he5
      go_wp2
      go_ret
      exact ⟨rfl, below_drewN HB4.out _⟩
    · have hb := rdList_bad hy (by omega)
      rw [hb.1, hb.2.1] at hy
      have HX := Lib.hid (fun W => readList_bad s1 W (by omega) e0 hy)
      have HY := Lib.hid (fun W => refReadList_bad s1 W (by omega) e0 hy)
      clear hy hb
      generalize ((e0 + 1 : Nat) : Int) = E at *
      refine (HX.out _).mono ?_
      rintro e w3 ⟨rfl, hb3⟩
      have HB3 := Lib.hid ((HB2'.out).trans (hb3.mono (HB2'.out).size))
      clear hb3 HX
      go_wp2_with fail
      refine (HY.out _).mono ?_
      rintro e w4 ⟨rfl, hb4⟩
      have HB4 := Lib.hid (HB3.out.trans (hb4.mono HB3.out.size))
      clear hb4 HY
      have HE := Lib.hid (error_told E E w4 (keep_handle HG.out HB4.out))
      go_wp2_with fail
      refine HE.out.mono ?_
      rintro r w5 ⟨hr, hb5⟩
      have hr' : r = .returned (.bool true) := by rw [hr.out]; simp
      subst hr'
      have HB5 := Lib.hid (HB4.out.trans (hb5.mono HB4.out.size))
      have HI : Hid (Calls Tryd.prog 15 #[.slice none 0 0, .slice none 0 0] w5 fun e w' => Hid (e = .returned (.bool (decide (([] : List Int) = [])))) ∧ ∃ n, w' = w5.drewN n) :=
        ints_any none none 0 0 [] [] w5 (IntsAt.nil _ _ _) (IntsAt.nil _ _ _) (by simp) (by simp)
      clear hb5 hr HE
      go_wp2_with fail
      refine HI.out.mono ?_
      rintro e w6 ⟨he5, n5, rfl⟩
      have he6 : e = .returned (.bool true) := by rw [he5.out]; simp
      subst he6
      clear HI he5
      go_wp2
      go_ret
      exact ⟨rfl, below_drewN HB5.out _⟩


set_option maxRecDepth 100000 in
theorem lifted (os : Os) (started : os.Started) (H : Type) (enc : TypeId × Value → H) :
    ReturnsInHanded {} Tryd.checked os 4 .any (fun w args => (Rows.packListsSpec.pre enc Tryd.prog Tryd.f4 Rows.packListsRow.domain false w args ∧ laidMetH Tryd.prog [("errors.errorType", Rows.laid_errors_errorType)] w) ∧ sizedMet enc Tryd.prog Tryd.f4 (OpenSpec.ofChange Rows.packListsSpec) false w args) (Rows.packListsSpec.post enc Tryd.prog Tryd.f4 false true false false) := by
  refine returnsInHanded_of_change_and (C := Tryd.checked) (X := fun w _ => laidMetH Tryd.prog [("errors.errorType", Rows.laid_errors_errorType)] w) (fun _ _ _ hh h => h.of_heap hh) own started (by kernel_rfl) Tryd.func4
    (ChangeSpec.witness_at (enc := enc) (C := Tryd.checked) (os := os) (X := fun w _ => laidMetH Tryd.prog [("errors.errorType", Rows.laid_errors_errorType)] w) false (laidWorld os) #[.slice none 0 0, .string ByteArray.empty] 8 rfl (by kernel_rfl) (by kernel_rfl) (by kernel_rfl) (by kernel_rfl) (by kernel_rfl) (laidWorld_met os _)) ?_
  intro W base args ds gs before hval0 hW hcnd hsz0 hL _
  have hval : ∀ (j : Nat) t v, Tryd.f4.params[j]? = some t → args[j]? = some v → Value.okWide Tryd.prog W .any base t v := hval0
  have hsz : (DataW.weightsEach Tryd.prog (Tryd.f4.params.toList ++ Rows.packListsSpec.plain.varTypes Tryd.prog) (ds ++ gs)).all (· ≤ reachBytes) = true := hsz0
  have hW' := hW
  obtain ⟨p, q, hA0, hV0, rfl, hfz, hnd⟩ := hW
  have hV : DataW.TrodVars enc Tryd.prog W (fun _ => true) [] gs q := hV0
  have hA : DataW.TrodAll enc Tryd.prog W 0 (fun _ => true) true Tryd.f4.params.toList args.toList ds p := hA0
  rw [Tryd.params4] at hA hval hsz
  obtain ⟨v0, vs0, d0, ds0, p0, q0, hargs, rfl, rfl, h0, rr0⟩ := trodAll_cons hA
  obtain ⟨v1, vs1, d1, ds1, p1, q1, rfl, rfl, rfl, h1, rr1⟩ := trodAll_cons rr0
  obtain ⟨rfl, rfl, rfl⟩ := trodAll_nil rr1
  obtain rfl : args = #[v0, v1] := by cases args; simp_all
  obtain ⟨rfl, rfl⟩ := trodVars_none hV
  have k0 := h0
  have lt0 : ∀ x ∈ p0, x.block < W.heap.size := by obtain ⟨m, hm⟩ := k0; exact DataW.trod_lt m _ _ _ hm
  have k1 := h1
  have lt1 : ∀ x ∈ p1, x.block < W.heap.size := by obtain ⟨m, hm⟩ := k1; exact DataW.trod_lt m _ _ _ hm
  obtain ⟨A0, len0, c0, rfl⟩ := okWide_slice Tryd.underlying33 (hval 0 33 v0 rfl rfl)
  obtain ⟨z0, rfl, x0, r0⟩ : ∃ zs : List Int, len0 = zs.length ∧ IntsAt W W.heap.size A0 zs ∧ zs.length ≤ 17592186043904 := by
    obtain ⟨fuel, hf⟩ := h0
    rcases open_ints Tryd.underlying33 Tryd.underlying3 (by kernel_rfl) hf with ⟨hcs, _⟩ | ⟨x, l, c, zs, hcs, _, hl, hm, hz, hx, hcell, hwz⟩
    · simp [Value.cells] at hcs
      obtain ⟨rfl, rfl, rfl⟩ := hcs
      exact ⟨[], rfl, IntsAt.nil _ _ _, by simp⟩
    · simp [Value.cells] at hcs
      obtain ⟨rfl, rfl, rfl⟩ := hcs
      have hd := congrArg Prod.fst hx
      simp only at hd
      have := sized_slice hsz (j := 0) (t := 33) (e := 3) rfl (by rw [hd]; rfl) Tryd.underlying33
      rw [(show Tryd.prog.bytesOf 3 = 8 by kernel_rfl)] at this
      simp only [reachBytes, lits, List.length_map, List.length_take, List.length_drop] at this
      have hz' : zs.length = c0 := by simpa using hz
      exact ⟨zs.take len0, by rw [List.length_take]; omega, intsAt_of_open hcell hwz len0, by rw [List.length_take]; omega⟩
  obtain ⟨s1, rfl, rfl, rfl, w1⟩ := open_string Tryd.underlying9 (hval 1 9 v1 rfl rfl) h1
  have r1 : s1.size ≤ 140737488351232 := by
    have := sized_string hsz (j := 1) (t := 9) rfl rfl
    simp only [reachBytes] at this
    simpa using this
  clear hA0 hval0
  refine (walk A0 c0 z0 s1 W x0 r0 r1 (handle_of_laid hL)).mono fun e W' ⟨he, bel⟩ => ?_
  subst he
  exact ⟨_, rfl, _, _, _, [], _, [], hW', trodAll_mk1 (shut_bool Tryd.underlying4 _), (trodAll_cons_mk (Below.trod laidOut (by kernel_rfl) (of_decide_eq_true (by kernel_rfl)) k0 bel lt0) (trodAll_cons_mk (Below.trod laidOut (by kernel_rfl) (of_decide_eq_true (by kernel_rfl)) k1 bel lt1) trodAll_mk0)), rfl, bel.frame _, fun h => by cases h⟩

theorem over : Rows.packListsRow.holds Tryd.pinned (OpenSpec.ofChange Rows.packListsSpec) :=
  OpenClaim.holds_of_wide 4 Tryd.f4 rfl rfl rfl rfl rfl rfl rfl ⟨rfl, rfl, rfl, rfl, rfl⟩ rfl rfl rfl rfl rfl (by kernel_rfl) Tryd.func4 (by kernel_rfl)
    (of_decide_eq_true (by kernel_rfl)) (by unfold Func.isWrapper; rw [if_neg (of_decide_eq_false (by kernel_rfl))]; exact ⟨rfl, rfl⟩)
    (fun os started H enc _ => lifted os started H enc)
theorem proved : Rows.PackListsCardSaid :=
  Claim7.holds_tied_plain_at .later [] [.handle] true (true, "7de4069c6059feff6597f4bcd9e2b2f1c6a8aae214d5afdd2dc24f047b427873") true
    over (fun _ h => by cases h) (by kernel_rfl) (fun _ h => by cases h) packLists_row_tie rfl ⟨rfl, rfl⟩ (by kernel_rfl) rfl
    (fun f fn hf hfn => by
      obtain rfl : f = 4 := Option.some.inj ((show Tryd.prog.funcNamed "stileward/stilewardlaw1.PackLists" = some 4 by kernel_rfl).symm.trans hf) |>.symm
      obtain rfl : fn = Tryd.f4 := (Option.some.inj (Tryd.func4.symm.trans hfn)).symm
      exact ⟨by kernel_rfl, fun j t ht => by
        rw [Tryd.params4] at ht
        rcases j with _ | _ | j
        · obtain rfl : 33 = t := by simpa using ht
          exact (show Tryd.prog.wantsStandIn 33 = false by kernel_rfl)
        · obtain rfl : 9 = t := by simpa using ht
          exact (show Tryd.prog.wantsStandIn 9 = false by kernel_rfl)
        · simp at ht⟩)
    (by kernel_rfl)
#print axioms proved
end Go.Proofs.YtfpebmnmiplooaaDoor.packLists
