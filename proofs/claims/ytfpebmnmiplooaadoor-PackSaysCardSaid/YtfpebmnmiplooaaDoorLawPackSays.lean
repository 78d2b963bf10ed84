/-
  The statement PackSaysCardSaid of this seat, proved: for every input the law returns true and its arguments read behind the call as before. Conditions: none but the row's own (each argument within the reach; the listed variable as the program lays it, tied by the given tie).
-/
import Derived.Test.YtfpebmnmiplooaaDoorRows
import Derived.Test.YtfpebmnmiplooaaDoorCards
import Derived.Test.YtfpebmnmiplooaaDoorTie
import Derived.SevenTiedAt
import Derived.LaidLaws
import Derived.LaidHandle
import Derived.Stop.Joined
import Derived.JoinedOf
import Derived.RowKit
import Derived.RowKitTokens
import Derived.ChangeSame
import Derived.ChangeVars
import Derived.Test.YtfpebmnmiplooaaDoorWords
import Derived.WalkKit
import Derived.ProofKit
import Derived.OpenShut
import Derived.ShutString
import Derived.ChangeOld
import Derived.Below
import Derived.SizedLaws
import Derived.Lib.Hide
import Derived.Test.YtfpebmnmiplooaaDoorRefPack
import Derived.Test.YtfpebmnmiplooaaDoorErr
namespace Go.Proofs.YtfpebmnmiplooaaDoor.packSays
open Go.ChangeShapes Go.WideShapes Go.ChangeAt Go.RowKit Go.IntWalk Go.Proofs.YtfpebmnmiplooaaDoor.Wd
open Go.ChangeMaps (open_string shut_string)
set_option linter.unusedVariables false

theorem own : ownKnob Tryd.prog.godebug = none := by kernel_rfl
theorem laidOut : laidOutB Tryd.prog = true := by kernel_rfl
theorem et : Tryd.prog.globalNamed "errors.errorType" = some 0 := by kernel_rfl
theorem rt : (Tryd.prog.cutTypes.find? (·.1 == "internal/reflectlite.rtype")).map (·.2) = some 64 := by kernel_rfl
theorem oneRow : ((List.range 107).filter fun t => Tryd.prog.rowNamed t [101, 114, 114, 111, 114]) = [23] := by kernel_rfl
theorem size : Tryd.prog.types.size = 107 := by kernel_rfl
/-- What the condition gives a walk: the variable's one cell. -/
theorem handle_of_laid {w : World} (h : laidMetH Tryd.prog [("errors.errorType", Rows.laid_errors_errorType)] w) : w.cell? ⟨0, 0, none⟩ = some (.iface 64 (.agg #[.pointer (some ⟨1, 23, none⟩)])) := by
  have h' : laidMet Tryd.prog [] w ∧ handlesMet Tryd.prog [("errors.errorType", Rows.laid_errors_errorType)] w := h
  obtain ⟨name, u, ty, e1, e2, e3, e4, e5⟩ := h'.2 _ (List.mem_singleton.2 rfl)
  have en : name = [101, 114, 114, 111, 114] := (Option.some.inj e1).symm
  subst en
  obtain rfl := Option.some.inj (rt.symm.trans e2)
  have hm : ty ∈ (List.range 107).filter fun t => Tryd.prog.rowNamed t [101, 114, 114, 111, 114] := List.mem_filter.2 ⟨List.mem_range.2 (by rw [← size]; exact e3), e4⟩
  rw [oneRow] at hm
  obtain rfl := List.mem_singleton.1 hm
  have hh : typeHandle Tryd.prog 23 = .pointer (some ⟨1, 23, none⟩) := by kernel_rfl
  rw [hh] at e5
  simpa using World.var?_cell et e5 0
/-- A world that meets the condition. -/
noncomputable def laidWorld (os : Os) : World :=
  let w0 := World.holding Tryd.prog os ⟨#[], #[], []⟩
  { w0 with heap := w0.heap.modify 0 fun
      | .cells _ t frozen => .cells #[.iface 64 (.agg #[.pointer (some ⟨1, 23, none⟩)])] t frozen
      | o => o }
theorem laidWorld_met (os : Os) (args : Array Value) : laidMetH Tryd.prog [("errors.errorType", Rows.laid_errors_errorType)] ((laidWorld os).forCall (fun _ _ => 0) ⟨#[], args, []⟩).memory :=
  laidMetH_of_parts (laidMet_nil _ _) (by kernel_rfl)
open Go.Proofs.YtfpebmnmiplooaaDoor.Pk Go.Proofs.YtfpebmnmiplooaaDoor.Er
theorem keep_handle {w w' : World} (hg : w.cell? ⟨0, 0, none⟩ = some (.iface 64 (.agg #[.pointer (some ⟨1, 23, none⟩)]))) (hb : Below w.heap.size w w') :
    w'.cell? ⟨0, 0, none⟩ = some (.iface 64 (.agg #[hErr])) := by
  rw [hb.cell (World.block_lt_of_cell? w _ hg)]; exact hg

set_option maxRecDepth 100000 in
set_option maxHeartbeats 4000000 in
theorem walk (a0 : Int) (s1 : ByteArray) (w : World) (l0 : -9223372036854775808 ≤ a0) (h0 : a0 ≤ 9223372036854775807) (r1 : s1.size ≤ 140737488351232) (hg : w.cell? ⟨0, 0, none⟩ = some (.iface 64 (.agg #[.pointer (some ⟨1, 23, none⟩)]))) :
    Calls Tryd.prog 3 #[.int .i64 a0, .string s1] w fun e w' => e = .returned (.bool true) ∧ Below w.heap.size w w' := by
  have hm : s1.size ≤ maxLen := by unfold maxLen; omega
  have HG := Lib.hid hg
  clear hg
  by_cases ha : a0 < 0
  · have HE1 := Lib.hid (error_told 1 1 w (keep_handle HG.out (Below.refl _ _)))
    have hxe : (str []).toList = [] := by rw [ByteArray.toList_eq]; rfl
    generalize hX : str [] = X at *
    have HC0 := Lib.hid (num_neg a0 w ha)
    rw [hX] at HC0
    clear hX
    go_enter Tryd.func3, Tryd.ntmps3
    go_wp2_with fail
    refine HC0.out.mono ?_
    rintro e w2 ⟨rfl, rfl⟩
    go_wp2_with fail
    refine HE1.out.mono ?_
    rintro r w1 ⟨hr, hb1⟩
    have hr' : r = .returned (.bool true) := by rw [hr.out]; rfl
    subst hr'
    have HB1 := Lib.hid hb1
    clear hr hb1 HE1
    rcases hx : rd s1.data.toList with ⟨k, u, _ | e0⟩
    · have HC1 := Lib.hid (fun W => readNum_ok s1 W hm k u hx)
      have HC2 := Lib.hid (fun W => refReadNum_ok s1 W hm k u hx)
      clear hx
      go_wp2_with fail
      refine (HC1.out _).mono ?_
      rintro e w3 ⟨rfl, rfl⟩
      go_wp2_with fail
      refine (HC2.out _).mono ?_
      rintro e w3 ⟨rfl, rfl⟩
      clear HC1 HC2
      go_wp2_with fail
      refine (error_nil 0 _).mono ?_
      rintro r w3 ⟨hr, rfl⟩
      have hr' : r = .returned (.bool true) := by rw [hr.out]; rfl
      subst hr'
      clear hr
      go_wp2
      go_ret
      exact ⟨rfl, HB1.out⟩
    · have hb := rd_bad hx (by omega)
      rw [hb.1, hb.2.1] at hx
      have HC1 := Lib.hid (fun W => readNum_bad s1 W hm e0 hx)
      have HC2 := Lib.hid (fun W => refReadNum_bad s1 W hm e0 hx)
      clear hx hb
      generalize ((e0 + 1 : Nat) : Int) = E at *
      go_wp2_with fail
      refine (HC1.out _).mono ?_
      rintro e w3 ⟨rfl, rfl⟩
      go_wp2_with fail
      refine (HC2.out _).mono ?_
      rintro e w3 ⟨rfl, rfl⟩
      clear HC1 HC2
      have HE := Lib.hid (fun W h => error_told E E W (keep_handle HG.out h))
      go_wp2_with fail
      refine (HE.out _ HB1.out).mono ?_
      rintro r w4 ⟨hr, hb4⟩
      have hr' : r = .returned (.bool true) := by rw [hr.out]; simp
      subst hr'
      have HB4 := Lib.hid ((HB1.out).trans (hb4.mono (HB1.out).size))
      clear hb4 hr
      go_wp2
      go_ret
      exact ⟨rfl, HB4.out⟩
  · obtain ⟨n, rfl⟩ := Int.eq_ofNat_of_zero_le (show 0 ≤ a0 by omega)
    have hn : n < 9223372036854775808 := by omega
    have HC := Lib.hid (fun W => num_ok n W hn)
    have HCR := Lib.hid (fun W => refNum_any n W hn)
    have hxe : ((str (num n)).toList == (str (num n)).toList) = true := txt_eq rfl
    generalize str (num n) = X at *
    clear ha hn
    go_enter Tryd.func3, Tryd.ntmps3
    go_wp2_with fail
    refine (HC.out _).mono ?_
    rintro e w1 ⟨rfl, hb1⟩
    have HB1 := Lib.hid hb1
    clear hb1 HC
    go_wp2_with fail
    refine (error_nil 1 _).mono ?_
    rintro r w3 ⟨hr, rfl⟩
    have hr' : r = .returned (.bool false) := by rw [hr.out]; rfl
    subst hr'
    clear hr
    go_wp2_with fail
    refine (HCR.out _).mono ?_
    rintro e w2 ⟨he, hb2⟩
    have he' := he.out
    subst he'
    have HB2 := Lib.hid (HB1.out.trans (hb2.mono HB1.out.size))
    clear hb2 he HCR
    rcases hx : rd s1.data.toList with ⟨k, u, _ | e0⟩
    · have HC1 := Lib.hid (fun W => readNum_ok s1 W hm k u hx)
      have HC2 := Lib.hid (fun W => refReadNum_ok s1 W hm k u hx)
      clear hx
      go_wp2_with fail
      refine (HC1.out _).mono ?_
      rintro e w3 ⟨rfl, rfl⟩
      go_wp2_with fail
      refine (HC2.out _).mono ?_
      rintro e w3 ⟨rfl, rfl⟩
      clear HC1 HC2
      go_wp2_with fail
      refine (error_nil 0 _).mono ?_
      rintro r w3 ⟨hr, rfl⟩
      have hr' : r = .returned (.bool true) := by rw [hr.out]; rfl
      subst hr'
      clear hr
      go_wp2
      go_ret
      exact ⟨rfl, HB2.out⟩
    · have hb := rd_bad hx (by omega)
      rw [hb.1, hb.2.1] at hx
      have HC1 := Lib.hid (fun W => readNum_bad s1 W hm e0 hx)
      have HC2 := Lib.hid (fun W => refReadNum_bad s1 W hm e0 hx)
      clear hx hb
      generalize ((e0 + 1 : Nat) : Int) = E at *
      go_wp2_with fail
      refine (HC1.out _).mono ?_
      rintro e w3 ⟨rfl, rfl⟩
      go_wp2_with fail
      refine (HC2.out _).mono ?_
      rintro e w3 ⟨rfl, rfl⟩
      clear HC1 HC2
      have HE := Lib.hid (fun W h => error_told E E W (keep_handle HG.out h))
      go_wp2_with fail
      refine (HE.out _ HB2.out).mono ?_
      rintro r w4 ⟨hr, hb4⟩
      have hr' : r = .returned (.bool true) := by rw [hr.out]; simp
      subst hr'
      have HB4 := Lib.hid ((HB2.out).trans (hb4.mono (HB2.out).size))
      clear hb4 hr
      go_wp2
      go_ret
      exact ⟨rfl, HB4.out⟩


set_option maxRecDepth 100000 in
theorem lifted (os : Os) (started : os.Started) (H : Type) (enc : TypeId × Value → H) :
    ReturnsInHanded {} Tryd.checked os 3 .any (fun w args => (Rows.packSaysSpec.pre enc Tryd.prog Tryd.f3 Rows.packSaysRow.domain false w args ∧ laidMetH Tryd.prog [("errors.errorType", Rows.laid_errors_errorType)] w) ∧ sizedMet enc Tryd.prog Tryd.f3 (OpenSpec.ofChange Rows.packSaysSpec) false w args) (Rows.packSaysSpec.post enc Tryd.prog Tryd.f3 false true false false) := by
  refine returnsInHanded_of_change_and (C := Tryd.checked) (X := fun w _ => laidMetH Tryd.prog [("errors.errorType", Rows.laid_errors_errorType)] w) (fun _ _ _ hh h => h.of_heap hh) own started (by kernel_rfl) Tryd.func3
    (ChangeSpec.witness_at (enc := enc) (C := Tryd.checked) (os := os) (X := fun w _ => laidMetH Tryd.prog [("errors.errorType", Rows.laid_errors_errorType)] w) false (laidWorld os) #[.int .i64 0, .string ByteArray.empty] 8 rfl (by kernel_rfl) (by kernel_rfl) (by kernel_rfl) (by kernel_rfl) (by kernel_rfl) (laidWorld_met os _)) ?_
  intro W base args ds gs before hval0 hW hcnd hsz0 hL _
  have hval : ∀ (j : Nat) t v, Tryd.f3.params[j]? = some t → args[j]? = some v → Value.okWide Tryd.prog W .any base t v := hval0
  have hsz : (DataW.weightsEach Tryd.prog (Tryd.f3.params.toList ++ Rows.packSaysSpec.plain.varTypes Tryd.prog) (ds ++ gs)).all (· ≤ reachBytes) = true := hsz0
  have hW' := hW
  obtain ⟨p, q, hA0, hV0, rfl, hfz, hnd⟩ := hW
  have hV : DataW.TrodVars enc Tryd.prog W (fun _ => true) [] gs q := hV0
  have hA : DataW.TrodAll enc Tryd.prog W 0 (fun _ => true) true Tryd.f3.params.toList args.toList ds p := hA0
  rw [Tryd.params3] at hA hval hsz
  obtain ⟨v0, vs0, d0, ds0, p0, q0, hargs, rfl, rfl, h0, rr0⟩ := trodAll_cons hA
  obtain ⟨v1, vs1, d1, ds1, p1, q1, rfl, rfl, rfl, h1, rr1⟩ := trodAll_cons rr0
  obtain ⟨rfl, rfl, rfl⟩ := trodAll_nil rr1
  obtain rfl : args = #[v0, v1] := by cases args; simp_all
  obtain ⟨rfl, rfl⟩ := trodVars_none hV
  have k0 := h0
  have lt0 : ∀ x ∈ p0, x.block < W.heap.size := by obtain ⟨m, hm⟩ := k0; exact DataW.trod_lt m _ _ _ hm
  have k1 := h1
  have lt1 : ∀ x ∈ p1, x.block < W.heap.size := by obtain ⟨m, hm⟩ := k1; exact DataW.trod_lt m _ _ _ hm
  obtain ⟨a0, rfl, rfl, rfl, w0⟩ := open_int Tryd.underlying3 (hval 0 3 v0 rfl rfl) h0
  obtain ⟨l0, hh0⟩ := bounds_i64 w0
  obtain ⟨s1, rfl, rfl, rfl, w1⟩ := open_string Tryd.underlying9 (hval 1 9 v1 rfl rfl) h1
  have r1 : s1.size ≤ 140737488351232 := by
    have := sized_string hsz (j := 1) (t := 9) rfl rfl
    simp only [reachBytes] at this
    simpa using this
  clear hA0 hval0
  refine (walk a0 s1 W l0 hh0 r1 (handle_of_laid hL)).mono fun e W' ⟨he, bel⟩ => ?_
  subst he
  exact ⟨_, rfl, _, _, _, [], _, [], hW', trodAll_mk1 (shut_bool Tryd.underlying4 _), (trodAll_cons_mk (Below.trod laidOut (by kernel_rfl) (of_decide_eq_true (by kernel_rfl)) k0 bel lt0) (trodAll_cons_mk (Below.trod laidOut (by kernel_rfl) (of_decide_eq_true (by kernel_rfl)) k1 bel lt1) trodAll_mk0)), rfl, bel.frame _, fun h => by cases h⟩

theorem over : Rows.packSaysRow.holds Tryd.pinned (OpenSpec.ofChange Rows.packSaysSpec) :=
  OpenClaim.holds_of_wide 3 Tryd.f3 rfl rfl rfl rfl rfl rfl rfl ⟨rfl, rfl, rfl, rfl, rfl⟩ rfl rfl rfl rfl rfl (by kernel_rfl) Tryd.func3 (by kernel_rfl)
    (of_decide_eq_true (by kernel_rfl)) (by unfold Func.isWrapper; rw [if_neg (of_decide_eq_false (by kernel_rfl))]; exact ⟨rfl, rfl⟩)
    (fun os started H enc _ => lifted os started H enc)
theorem proved : Rows.PackSaysCardSaid :=
  Claim7.holds_tied_plain_at .later [] [.handle] true (true, "7de4069c6059feff6597f4bcd9e2b2f1c6a8aae214d5afdd2dc24f047b427873") true
    over (fun _ h => by cases h) (by kernel_rfl) (fun _ h => by cases h) packSays_row_tie rfl ⟨rfl, rfl⟩ (by kernel_rfl) rfl
    (fun f fn hf hfn => by
      obtain rfl : f = 3 := Option.some.inj ((show Tryd.prog.funcNamed "stileward/stilewardlaw1.PackSays" = some 3 by kernel_rfl).symm.trans hf) |>.symm
      obtain rfl : fn = Tryd.f3 := (Option.some.inj (Tryd.func3.symm.trans hfn)).symm
      exact ⟨by kernel_rfl, fun j t ht => by
        rw [Tryd.params3] at ht
        rcases j with _ | _ | j
        · obtain rfl : 3 = t := by simpa using ht
          exact (show Tryd.prog.wantsStandIn 3 = false by kernel_rfl)
        · obtain rfl : 9 = t := by simpa using ht
          exact (show Tryd.prog.wantsStandIn 9 = false by kernel_rfl)
        · simp at ht⟩)
    (by kernel_rfl)
#print axioms proved
end Go.Proofs.YtfpebmnmiplooaaDoor.packSays
