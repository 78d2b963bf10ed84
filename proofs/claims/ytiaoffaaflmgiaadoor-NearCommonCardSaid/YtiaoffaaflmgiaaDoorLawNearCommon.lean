/-
  The statement NearCommonCardSaid of this seat, proved: for every input the law returns true and its arguments read behind the call as before. Conditions: none but the row's own (each argument within the reach; the listed variable as the program lays it, tied by the given tie).
-/
import Derived.Test.YtiaoffaaflmgiaaDoorRows
import Derived.Test.YtiaoffaaflmgiaaDoorCards
import Derived.Test.YtiaoffaaflmgiaaDoorTie
import Derived.SevenTiedAt
import Derived.LaidLaws
import Derived.LaidHandle
import Derived.Stop.Joined
import Derived.JoinedOf
import Derived.RowKit
import Derived.RowKitTokens
import Derived.ChangeSame
import Derived.ChangeVars
import Derived.Test.YtiaoffaaflmgiaaDoorWords
import Derived.WalkKit
import Derived.ProofKit
import Derived.OpenShut
import Derived.ShutString
import Derived.ChangeOld
import Derived.Below
import Derived.SizedLaws
import Derived.Lib.Hide
import Derived.Test.YtiaoffaaflmgiaaDoorRefCom
import Derived.Test.YtiaoffaaflmgiaaDoorNearC
import Derived.Test.YtiaoffaaflmgiaaDoorSame
import Derived.Test.YtiaoffaaflmgiaaDoorSays
import Derived.Deep.QuietTactic
import Derived.BigQuiet
namespace Go.Proofs.YtiaoffaaflmgiaaDoor.nearCommon
open Go.ChangeShapes Go.WideShapes Go.ChangeAt Go.RowKit Go.IntWalk Go.Proofs.YtiaoffaaflmgiaaDoor.Wd
open Go.ChangeMaps (open_string shut_string)
set_option linter.unusedVariables false

theorem own : ownKnob Tryd.prog.godebug = none := by kernel_rfl
theorem laidOut : laidOutB Tryd.prog = true := by kernel_rfl
theorem et : Tryd.prog.globalNamed "errors.errorType" = some 0 := by kernel_rfl
theorem rt : (Tryd.prog.cutTypes.find? (·.1 == "internal/reflectlite.rtype")).map (·.2) = some 64 := by kernel_rfl
theorem oneRow : ((List.range 107).filter fun t => Tryd.prog.rowNamed t [101, 114, 114, 111, 114]) = [26] := by kernel_rfl
theorem size : Tryd.prog.types.size = 107 := by kernel_rfl
/-- What the condition gives a walk: the variable's one cell. -/
theorem handle_of_laid {w : World} (h : laidMetH Tryd.prog [("errors.errorType", Rows.laid_errors_errorType)] w) : w.cell? ⟨0, 0, none⟩ = some (.iface 64 (.agg #[.pointer (some ⟨1, 26, none⟩)])) := by
  have h' : laidMet Tryd.prog [] w ∧ handlesMet Tryd.prog [("errors.errorType", Rows.laid_errors_errorType)] w := h
  obtain ⟨name, u, ty, e1, e2, e3, e4, e5⟩ := h'.2 _ (List.mem_singleton.2 rfl)
  have en : name = [101, 114, 114, 111, 114] := (Option.some.inj e1).symm
  subst en
  obtain rfl := Option.some.inj (rt.symm.trans e2)
  have hm : ty ∈ (List.range 107).filter fun t => Tryd.prog.rowNamed t [101, 114, 114, 111, 114] := List.mem_filter.2 ⟨List.mem_range.2 (by rw [← size]; exact e3), e4⟩
  rw [oneRow] at hm
  obtain rfl := List.mem_singleton.1 hm
  have hh : typeHandle Tryd.prog 26 = .pointer (some ⟨1, 26, none⟩) := by kernel_rfl
  rw [hh] at e5
  simpa using World.var?_cell et e5 0
/-- A world that meets the condition. -/
noncomputable def laidWorld (os : Os) : World :=
  let w0 := World.holding Tryd.prog os ⟨#[], #[], []⟩
  { w0 with heap := w0.heap.modify 0 fun
      | .cells _ t frozen => .cells #[.iface 64 (.agg #[.pointer (some ⟨1, 26, none⟩)])] t frozen
      | o => o }
theorem laidWorld_met (os : Os) (args : Array Value) : laidMetH Tryd.prog [("errors.errorType", Rows.laid_errors_errorType)] ((laidWorld os).forCall (fun _ _ => 0) ⟨#[], args, []⟩).memory :=
  laidMetH_of_parts (laidMet_nil _ _) (by kernel_rfl)
open Go.Proofs.YtiaoffaaflmgiaaDoor.Wo Go.Proofs.YtiaoffaaflmgiaaDoor.Er Go.Proofs.YtiaoffaaflmgiaaDoor.Ne
theorem com_small {L : Int} {v z : List Int} (h : Fine L v) : ∀ x ∈ com v z, Small x := fun x hx => by
  have := (com_fine (z := z) h).2.2 x hx
  have := h.1
  exact ⟨by omega, by omega⟩

set_option maxRecDepth 100000 in
set_option maxHeartbeats 4000000 in
theorem walk (a0 : Int) (A1 : Option Addr) (c1 : Nat) (z1 : List Int) (A2 : Option Addr) (c2 : Nat) (z2 : List Int) (w : World) (l0 : -9223372036854775808 ≤ a0) (h0 : a0 ≤ 9223372036854775807) (v1 : IntsAt w w.heap.size A1 z1) (r1 : z1.length ≤ 17592186043904) (m1 : z1.length ≤ c1) (v2 : IntsAt w w.heap.size A2 z2) (r2 : z2.length ≤ 17592186043904) (m2 : z2.length ≤ c2) (hg : w.cell? ⟨0, 0, none⟩ = some (.iface 64 (.agg #[.pointer (some ⟨1, 26, none⟩)]))) :
    Calls Tryd.prog 4 #[.int .i64 a0, .slice A1 z1.length c1, .slice A2 z2.length c2] w fun e w' => e = .returned (.bool true) ∧ Below w.heap.size w w' := by
  have hL : Small a0 := ⟨l0, h0⟩
  have V1 := Lib.hid v1
  have V2 := Lib.hid v2
  have HE := Lib.hid (fun k W h => says k hg W h)
  have HW := Lib.hid (fun W (h : IntsAt W W.heap.size A1 z1) (k : IntsAt W W.heap.size A2 z2) => refWords_any a0 A1 c1 z1 A2 c2 z2 W hL h k (by omega) (by omega))
  have HD := Lib.hid (fun W (h : IntsAt W W.heap.size A1 z1) (k : IntsAt W W.heap.size A2 z2) => com_any a0 A1 c1 z1 A2 c2 z2 W hL h k (by omega) (by omega) m1 m2)
  clear hg v1 v2
  rcases hc : chk2 a0 z1 z2 with _ | e0
  · obtain ⟨f1, f2⟩ := chk2_iff.1 hc
    have HR := Lib.hid (fun W (h : IntsAt W W.heap.size A1 z1) (k : IntsAt W W.heap.size A2 z2) => refCom_any A1 c1 z1 A2 c2 z2 W h k f1.2.1 f2.2.1)
    have hm : comOut a0 z1 z2 = (com z1 z2, 0) := by unfold comOut; rw [if_pos hc]
    rw [hm] at HD
    rw [hc] at HW
    have HS := Lib.hid (com_small (z := z2) f1)
    have hl := (com_fine (z := z2) f1).2.1
    clear f1 f2 hm hc
    generalize com z1 z2 = C at *
    have HI := Lib.hid (fun W A B c d (h : IntsAt W W.heap.size A C) (h' : IntsAt W W.heap.size B C) => ints_any A B c d C C W h h' (by omega) (by omega))
    go_enter Tryd.func4, Tryd.ntmps4
    go_wp2_with fail
    refine (HW.out _ V1.out V2.out).mono ?_
    rintro e w9 ⟨he, rfl⟩
    obtain rfl : e = .returned (.int .i64 0) := he.out
    clear he HW
    go_wp2_with fail
    refine (HR.out _ V1.out V2.out).mono ?_
    rintro e w1 ⟨he, hb⟩
    obtain ⟨X, k, h1, hx⟩ := he.out
    obtain rfl := h1
    have XH := Lib.hid hx
    have B1 := Lib.hid hb
    clear he hb hx HR
    go_wp2_with fail
    refine (HD.out _ (V1.out.on B1.out) (V2.out.on B1.out)).mono ?_
    rintro e w2 he
    obtain ⟨y, h1, hn⟩ := he.out
    obtain ⟨Y, k2, rfl, hy⟩ := nums_at hn
    obtain rfl : e = .returned (.tuple #[.slice Y C.length k2, .nilIface]) := h1
    have YH : Hid (IntsAt w2 w2.heap.size Y C) := ⟨hy, HS.out⟩
    have XH := Lib.hid (XH.out.on hn.2.1)
    have B2 := Lib.hid (B1.out.trans (hn.2.1.mono B1.out.size))
    clear he hn hy HD B1
    go_wp2_with fail
    refine (HE.out 0 _ B2.out).mono ?_
    rintro e w3 ⟨rfl, hb⟩
    have XH := Lib.hid (XH.out.on hb)
    have YH := Lib.hid (YH.out.on hb)
    have B3 := Lib.hid (B2.out.trans (hb.mono B2.out.size))
    clear hb B2 HE
    go_wp2_with fail
    refine (HI.out _ Y X k2 k YH.out XH.out).mono ?_
    rintro e w4 ⟨he, n, rfl⟩
    obtain rfl : e = .returned (.bool true) := by rw [he.out]; simp
    have B4 := Lib.hid (below_drewN B3.out n)
    clear he HI XH YH B3
    go_wp2
    go_ret
    exact ⟨rfl, B4.out⟩
  · have hm : comOut a0 z1 z2 = ([], e0 + 1) := by unfold comOut; rw [if_neg (by omega), hc]
    rw [hm] at HD
    rw [hc] at HW
    have HE := Lib.hid (HE.out (e0 + 1))
    have hne : (((e0 + 1 : Nat) : Int) == 0) = false := by simp; omega
    simp only at HD
    clear hm hc
    generalize errV (e0 + 1) = E at *
    generalize ((e0 + 1 : Nat) : Int) = N at *
    have HI := Lib.hid (fun W A B c d => ints_any A B c d [] [] W (IntsAt.nil _ _ _) (IntsAt.nil _ _ _) (by simp) (by simp))
    go_enter Tryd.func4, Tryd.ntmps4
    go_wp2_with fail
    refine (HW.out _ V1.out V2.out).mono ?_
    rintro e w9 ⟨he, rfl⟩
    obtain rfl : e = .returned (.int .i64 N) := he.out
    clear he HW
    go_wp2_with fail
    refine (HD.out _ V1.out V2.out).mono ?_
    rintro e w2 he
    obtain ⟨y, h1, hn⟩ := he.out
    obtain ⟨Y, k2, rfl, hy⟩ := nums_at hn
    obtain rfl : e = .returned (.tuple #[.slice Y 0 k2, E]) := h1
    have B2 := Lib.hid hn.2.1
    clear he hn hy HD
    go_wp2_with fail
    refine (HE.out _ B2.out).mono ?_
    rintro e w3 ⟨rfl, hb⟩
    have B3 := Lib.hid (B2.out.trans (hb.mono B2.out.size))
    clear hb B2 HE
    go_wp2_with fail
    refine (HI.out _ Y none k2 0).mono ?_
    rintro e w4 ⟨he, n, rfl⟩
    obtain rfl : e = .returned (.bool true) := by rw [he.out]; simp
    have B4 := Lib.hid (below_drewN B3.out n)
    clear he HI B3
    go_wp2
    go_ret
    exact ⟨rfl, B4.out⟩


set_option maxRecDepth 100000 in
theorem lifted (os : Os) (started : os.Started) (H : Type) (enc : TypeId × Value → H) :
    ReturnsInHanded {} Tryd.checked os 4 .any (fun w args => (Rows.nearCommonSpec.pre enc Tryd.prog Tryd.f4 Rows.nearCommonRow.domain false w args ∧ laidMetH Tryd.prog [("errors.errorType", Rows.laid_errors_errorType)] w) ∧ sizedMet enc Tryd.prog Tryd.f4 (OpenSpec.ofChange Rows.nearCommonSpec) false w args) (Rows.nearCommonSpec.post enc Tryd.prog Tryd.f4 false true false false) := by
  refine returnsInHanded_of_change_and (C := Tryd.checked) (X := fun w _ => laidMetH Tryd.prog [("errors.errorType", Rows.laid_errors_errorType)] w) (fun _ _ _ hh h => h.of_heap hh) own started (by kernel_rfl) Tryd.func4
    (ChangeSpec.witness_at (enc := enc) (C := Tryd.checked) (os := os) (X := fun w _ => laidMetH Tryd.prog [("errors.errorType", Rows.laid_errors_errorType)] w) false (laidWorld os) #[.int .i64 0, .slice none 0 0, .slice none 0 0] 8 rfl (by kernel_rfl) (by kernel_rfl) (by kernel_rfl) (by kernel_rfl) (by kernel_rfl) (laidWorld_met os _)) ?_
  intro W base args ds gs before hval0 hW hcnd hsz0 hL _
  have hval : ∀ (j : Nat) t v, Tryd.f4.params[j]? = some t → args[j]? = some v → Value.okWide Tryd.prog W .any base t v := hval0
  have hsz : (DataW.weightsEach Tryd.prog (Tryd.f4.params.toList ++ Rows.nearCommonSpec.plain.varTypes Tryd.prog) (ds ++ gs)).all (· ≤ reachBytes) = true := hsz0
  have hW' := hW
  obtain ⟨p, q, hA0, hV0, rfl, hfz, hnd⟩ := hW
  have hV : DataW.TrodVars enc Tryd.prog W (fun _ => true) [] gs q := hV0
  have hA : DataW.TrodAll enc Tryd.prog W 0 (fun _ => true) true Tryd.f4.params.toList args.toList ds p := hA0
  rw [Tryd.params4] at hA hval hsz
  obtain ⟨v0, vs0, d0, ds0, p0, q0, hargs, rfl, rfl, h0, rr0⟩ := trodAll_cons hA
  obtain ⟨v1, vs1, d1, ds1, p1, q1, rfl, rfl, rfl, h1, rr1⟩ := trodAll_cons rr0
  obtain ⟨v2, vs2, d2, ds2, p2, q2, rfl, rfl, rfl, h2, rr2⟩ := trodAll_cons rr1
  obtain ⟨rfl, rfl, rfl⟩ := trodAll_nil rr2
  obtain rfl : args = #[v0, v1, v2] := by cases args; simp_all
  obtain ⟨rfl, rfl⟩ := trodVars_none hV
  have k0 := h0
  have lt0 : ∀ x ∈ p0, x.block < W.heap.size := by obtain ⟨m, hm⟩ := k0; exact DataW.trod_lt m _ _ _ hm
  have k1 := h1
  have lt1 : ∀ x ∈ p1, x.block < W.heap.size := by obtain ⟨m, hm⟩ := k1; exact DataW.trod_lt m _ _ _ hm
  have k2 := h2
  have lt2 : ∀ x ∈ p2, x.block < W.heap.size := by obtain ⟨m, hm⟩ := k2; exact DataW.trod_lt m _ _ _ hm
  obtain ⟨a0, rfl, rfl, rfl, w0⟩ := open_int Tryd.underlying3 (hval 0 3 v0 rfl rfl) h0
  obtain ⟨l0, hh0⟩ := bounds_i64 w0
  obtain ⟨A1, len1, c1, rfl⟩ := okWide_slice Tryd.underlying22 (hval 1 22 v1 rfl rfl)
  obtain ⟨z1, rfl, x1, r1, m1⟩ : ∃ zs : List Int, len1 = zs.length ∧ IntsAt W W.heap.size A1 zs ∧ zs.length ≤ 17592186043904 ∧ zs.length ≤ c1 := by
    obtain ⟨fuel, hf⟩ := h1
    rcases open_ints Tryd.underlying22 Tryd.underlying3 (by kernel_rfl) hf with ⟨hcs, _⟩ | ⟨x, l, c, zs, hcs, _, hl, hm, hz, hx, hcell, hwz⟩
    · simp [Value.cells] at hcs
      obtain ⟨rfl, rfl, rfl⟩ := hcs
      exact ⟨[], rfl, IntsAt.nil _ _ _, by simp, by simp⟩
    · simp [Value.cells] at hcs
      obtain ⟨rfl, rfl, rfl⟩ := hcs
      have hd := congrArg Prod.fst hx
      simp only at hd
      have := sized_slice hsz (j := 1) (t := 22) (e := 3) rfl (by rw [hd]; rfl) Tryd.underlying22
      rw [(show Tryd.prog.bytesOf 3 = 8 by kernel_rfl)] at this
      simp only [reachBytes, lits, List.length_map, List.length_take, List.length_drop] at this
      have hz' : zs.length = c1 := by simpa using hz
      exact ⟨zs.take len1, by rw [List.length_take]; omega, intsAt_of_open hcell hwz len1, by rw [List.length_take]; omega, by rw [List.length_take]; omega⟩
  obtain ⟨A2, len2, c2, rfl⟩ := okWide_slice Tryd.underlying22 (hval 2 22 v2 rfl rfl)
  obtain ⟨z2, rfl, x2, r2, m2⟩ : ∃ zs : List Int, len2 = zs.length ∧ IntsAt W W.heap.size A2 zs ∧ zs.length ≤ 17592186043904 ∧ zs.length ≤ c2 := by
    obtain ⟨fuel, hf⟩ := h2
    rcases open_ints Tryd.underlying22 Tryd.underlying3 (by kernel_rfl) hf with ⟨hcs, _⟩ | ⟨x, l, c, zs, hcs, _, hl, hm, hz, hx, hcell, hwz⟩
    · simp [Value.cells] at hcs
      obtain ⟨rfl, rfl, rfl⟩ := hcs
      exact ⟨[], rfl, IntsAt.nil _ _ _, by simp, by simp⟩
    · simp [Value.cells] at hcs
      obtain ⟨rfl, rfl, rfl⟩ := hcs
      have hd := congrArg Prod.fst hx
      simp only at hd
      have := sized_slice hsz (j := 2) (t := 22) (e := 3) rfl (by rw [hd]; rfl) Tryd.underlying22
      rw [(show Tryd.prog.bytesOf 3 = 8 by kernel_rfl)] at this
      simp only [reachBytes, lits, List.length_map, List.length_take, List.length_drop] at this
      have hz' : zs.length = c2 := by simpa using hz
      exact ⟨zs.take len2, by rw [List.length_take]; omega, intsAt_of_open hcell hwz len2, by rw [List.length_take]; omega, by rw [List.length_take]; omega⟩
  clear hA0 hval0
  refine (walk a0 A1 c1 z1 A2 c2 z2 W l0 hh0 x1 r1 m1 x2 r2 m2 (handle_of_laid hL)).mono fun e W' ⟨he, bel⟩ => ?_
  subst he
  exact ⟨_, rfl, _, _, _, [], _, [], hW', trodAll_mk1 (shut_bool Tryd.underlying4 _), (trodAll_cons_mk (Below.trod laidOut (by kernel_rfl) (of_decide_eq_true (by kernel_rfl)) k0 bel lt0) (trodAll_cons_mk (Below.trod laidOut (by kernel_rfl) (of_decide_eq_true (by kernel_rfl)) k1 bel lt1) (trodAll_cons_mk (Below.trod laidOut (by kernel_rfl) (of_decide_eq_true (by kernel_rfl)) k2 bel lt2) trodAll_mk0))), rfl, bel.frame _, fun h => by cases h⟩

theorem over : Rows.nearCommonRow.holds Tryd.pinned (OpenSpec.ofChange Rows.nearCommonSpec) :=
  OpenClaim.holds_of_wide 4 Tryd.f4 rfl rfl rfl rfl rfl rfl rfl ⟨rfl, rfl, rfl, rfl, rfl⟩ rfl rfl rfl rfl rfl (by kernel_rfl) Tryd.func4 (by kernel_rfl)
    (of_decide_eq_true (by kernel_rfl)) (by unfold Func.isWrapper; rw [if_neg (of_decide_eq_false (by kernel_rfl))]; exact ⟨rfl, rfl⟩)
    (fun os started H enc _ => lifted os started H enc)
theorem proved : Rows.NearCommonCardSaid :=
  Claim7.holds_tied_plain_at .later [] [.handle] true (true, "224a83bf86924c57f63540f87663c7d2858e9b602d8e831391a03dc2ca960cce") true
    over (fun _ h => by cases h) (by kernel_rfl) (fun _ h => by cases h) nearCommon_row_tie rfl ⟨rfl, rfl⟩ (by kernel_rfl) rfl
    (fun f fn hf hfn => by
      obtain rfl : f = 4 := Option.some.inj ((show Tryd.prog.funcNamed "stileward/stilewardlaw1.NearCommon" = some 4 by kernel_rfl).symm.trans hf) |>.symm
      obtain rfl : fn = Tryd.f4 := (Option.some.inj (Tryd.func4.symm.trans hfn)).symm
      exact ⟨by kernel_rfl, fun j t ht => by
        rw [Tryd.params4] at ht
        rcases j with _ | _ | _ | j
        · obtain rfl : 3 = t := by simpa using ht
          exact (show Tryd.prog.wantsStandIn 3 = false by kernel_rfl)
        · obtain rfl : 22 = t := by simpa using ht
          exact (show Tryd.prog.wantsStandIn 22 = false by kernel_rfl)
        · obtain rfl : 22 = t := by simpa using ht
          exact (show Tryd.prog.wantsStandIn 22 = false by kernel_rfl)
        · simp at ht⟩)
    (by kernel_rfl)
#print axioms proved
end Go.Proofs.YtiaoffaaflmgiaaDoor.nearCommon
