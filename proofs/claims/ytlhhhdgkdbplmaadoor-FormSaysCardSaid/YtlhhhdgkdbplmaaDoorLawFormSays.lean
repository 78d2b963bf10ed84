/-
  The statement FormSaysCardSaid of this seat, proved: for every input the law returns true and its arguments read behind the call as before. Conditions: none but the row's own (each argument within the reach; the listed variable as the program lays it, tied by the given tie).
-/
import Derived.Test.YtlhhhdgkdbplmaaDoorRows
import Derived.Test.YtlhhhdgkdbplmaaDoorCards
import Derived.Test.YtlhhhdgkdbplmaaDoorTie
import Derived.SevenTiedAt
import Derived.LaidLaws
import Derived.LaidHandle
import Derived.Stop.Joined
import Derived.JoinedOf
import Derived.RowKit
import Derived.RowKitTokens
import Derived.ChangeSame
import Derived.ChangeVars
import Derived.Test.YtlhhhdgkdbplmaaDoorWords
import Derived.WalkKit
import Derived.ProofKit
import Derived.OpenShut
import Derived.ShutString
import Derived.ChangeOld
import Derived.Below
import Derived.SizedLaws
import Derived.Lib.Hide
import Derived.Test.YtlhhhdgkdbplmaaDoorRefText
import Derived.Test.YtlhhhdgkdbplmaaDoorWrites
import Derived.Test.YtlhhhdgkdbplmaaDoorSays
import Derived.Test.YtlhhhdgkdbplmaaDoorNodes
namespace Go.Proofs.YtlhhhdgkdbplmaaDoor.formSays
open Go.ChangeShapes Go.WideShapes Go.ChangeAt Go.RowKit Go.IntWalk Go.Proofs.YtlhhhdgkdbplmaaDoor.Wd
open Go.ChangeMaps (open_string shut_string)
set_option linter.unusedVariables false

theorem own : ownKnob Tryd.prog.godebug = none := by kernel_rfl
theorem laidOut : laidOutB Tryd.prog = true := by kernel_rfl
theorem et : Tryd.prog.globalNamed "errors.errorType" = some 0 := by kernel_rfl
theorem rt : (Tryd.prog.cutTypes.find? (·.1 == "internal/reflectlite.rtype")).map (·.2) = some 157 := by kernel_rfl
theorem oneRow : ((List.range 213).filter fun t => Tryd.prog.rowNamed t [101, 114, 114, 111, 114]) = [33] := by kernel_rfl
theorem size : Tryd.prog.types.size = 213 := by kernel_rfl
/-- What the condition gives a walk: the variable's one cell. -/
theorem handle_of_laid {w : World} (h : laidMetH Tryd.prog [("errors.errorType", Rows.laid_errors_errorType)] w) : w.cell? ⟨0, 0, none⟩ = some (.iface 157 (.agg #[.pointer (some ⟨4, 33, none⟩)])) := by
  have h' : laidMet Tryd.prog [] w ∧ handlesMet Tryd.prog [("errors.errorType", Rows.laid_errors_errorType)] w := h
  obtain ⟨name, u, ty, e1, e2, e3, e4, e5⟩ := h'.2 _ (List.mem_singleton.2 rfl)
  have en : name = [101, 114, 114, 111, 114] := (Option.some.inj e1).symm
  subst en
  obtain rfl := Option.some.inj (rt.symm.trans e2)
  have hm : ty ∈ (List.range 213).filter fun t => Tryd.prog.rowNamed t [101, 114, 114, 111, 114] := List.mem_filter.2 ⟨List.mem_range.2 (by rw [← size]; exact e3), e4⟩
  rw [oneRow] at hm
  obtain rfl := List.mem_singleton.1 hm
  have hh : typeHandle Tryd.prog 33 = .pointer (some ⟨4, 33, none⟩) := by kernel_rfl
  rw [hh] at e5
  simpa using World.var?_cell et e5 0
/-- A world that meets the condition. -/
noncomputable def laidWorld (os : Os) : World :=
  let w0 := World.holding Tryd.prog os ⟨#[], #[], []⟩
  { w0 with heap := w0.heap.modify 0 fun
      | .cells _ t frozen => .cells #[.iface 157 (.agg #[.pointer (some ⟨4, 33, none⟩)])] t frozen
      | o => o }
theorem laidWorld_met (os : Os) (args : Array Value) : laidMetH Tryd.prog [("errors.errorType", Rows.laid_errors_errorType)] ((laidWorld os).forCall (fun _ _ => 0) ⟨#[], args, []⟩).memory :=
  laidMetH_of_parts (laidMet_nil _ _) (by kernel_rfl)
open Go.Proofs.YtlhhhdgkdbplmaaDoor.Wo Go.Proofs.YtlhhhdgkdbplmaaDoor.Er
theorem says_gives {w : World} (hg : w.cell? ⟨0, 0, none⟩ = some (.iface 157 (.agg #[.pointer (some ⟨4, 33, none⟩)]))) (e : Nat) {E : Value} {K : Int} (hE : errV e = E) (hK : (e : Int) = K) (W : World) (hb : Below w.heap.size w W) :
    Calls Tryd.prog 11 #[E, .int .i64 K] W fun r w' => r = .returned (.bool true) ∧ Below W.heap.size W w' := by
  subst hE
  subst hK
  exact says e hg W hb

set_option maxRecDepth 100000 in
set_option maxHeartbeats 4000000 in
theorem walk (a0 : Int) (A1 : Option Addr) (c1 : Nat) (z1 : List Fm.Nd) (w : World) (l0 : -9223372036854775808 ≤ a0) (h0 : a0 ≤ 9223372036854775807) (v1 : Fm.NodesAt w w.heap.size A1 z1) (m1 : z1.length ≤ c1) (n1 : c1 ≤ 9223372036854775807) (hg : w.cell? ⟨0, 0, none⟩ = some (.iface 157 (.agg #[.pointer (some ⟨4, 33, none⟩)]))) :
    Calls Tryd.prog 4 #[.int .i64 a0, .slice A1 z1.length c1] w fun e w' => e = .returned (.bool true) ∧ Below w.heap.size w w' := by
  have hlen : z1.length ≤ 9223372036854775807 := by omega
  have hL : Small a0 := ⟨l0, h0⟩
  have HF := Lib.hid (Fm.rform_any a0 A1 c1 z1 w v1 hlen)
  have HC := Lib.hid (Fm.fcheck_any a0 A1 c1 z1 w hL v1 hlen)
  have HW := fun W (hb : Below w.heap.size w W) => Lib.hid (Fm.write_any a0 A1 c1 z1 W hL (v1.on hb) hlen)
  by_cases g : Fm.fchk a0 z1 = 0
  · have hg1 := Fm.fchk_iff.1 g
    have HT := fun W (hb : Below w.heap.size w W) => Lib.hid (Fm.rtext_any hg1 A1 c1 W (v1.on hb))
    rw [g] at HF HC
    have HE1 := fun W (hb : Below w.heap.size w W) => Lib.hid (says_gives hg 0 (E := .nilIface) (K := 0) rfl rfl W hb)
    obtain ⟨E, hE⟩ : ∃ E, errV (Fm.werr a0 z1) = E := ⟨_, rfl⟩
    have HE2 := fun W (hb : Below w.heap.size w W) => Lib.hid (says_gives hg (Fm.werr a0 z1) hE rfl W hb)
    unfold Fm.Wrote at HW
    rw [hE] at HW
    obtain ⟨T, hT⟩ : ∃ T, str (Fm.wtext a0 z1) = T := ⟨_, rfl⟩
    rw [hT] at HW HT
    have htt : (T.toList == T.toList) = true := beq_self_eq_true _
    generalize Fm.werr a0 z1 = M at *
    clear g hg1 hE hT hlen hL hg v1
    go_enter Tryd.func4, Tryd.ntmps4
    go_wp2_with fail
    refine HF.out.mono ?_
    rintro e w2 ⟨he, rfl⟩
    obtain rfl := he.out
    clear he HF
    go_wp2_with fail
    refine HC.out.mono ?_
    rintro e w2 ⟨he, hb2⟩
    obtain rfl := he.out
    have B2 := Lib.hid hb2
    clear he HC hb2
    simp only [errV]
    go_wp2_with fail
    refine (HE1 _ B2.out).out.mono ?_
    rintro e w3 ⟨rfl, hb3⟩
    have B3 := Lib.hid (B2.out.trans (hb3.mono B2.out.size))
    clear hb3 HE1
    go_wp2_with fail
    refine (HT _ B3.out).out.mono ?_
    rintro e w4 ⟨he, hb4⟩
    obtain rfl := he.out
    have B4 := Lib.hid (B3.out.trans (hb4.mono B3.out.size))
    clear he hb4 HT
    go_wp2_with fail
    refine (HW _ B4.out).out.mono ?_
    rintro e w5 ⟨he, hb5⟩
    obtain rfl := he.out
    have B5 := Lib.hid (B4.out.trans (hb5.mono B4.out.size))
    clear he hb5 HW
    go_wp2_with fail
    refine (HE2 _ B5.out).out.mono ?_
    rintro e w6 ⟨rfl, hb6⟩
    have B6 := Lib.hid (B5.out.trans (hb6.mono B5.out.size))
    clear hb6 HE2
    go_wp2
    go_ret
    exact ⟨rfl, B6.out⟩
  · obtain ⟨r1, r2⟩ := Fm.wrote_bad g
    unfold Fm.Wrote at HW
    rw [r1, r2] at HW
    have hq : ((Fm.fchk a0 z1 : Int) == 0) = false := beq_eq_false_iff_ne.2 (by omega)
    obtain ⟨E, hE⟩ : ∃ E, errV (Fm.fchk a0 z1) = E := ⟨_, rfl⟩
    have HE1 := fun W (hb : Below w.heap.size w W) => Lib.hid (says_gives hg (Fm.fchk a0 z1) hE rfl W hb)
    rw [hE] at HW HC
    obtain ⟨T, hT⟩ : ∃ T, str [] = T := ⟨_, rfl⟩
    rw [hT] at HW
    have hte : Hid (T.toList.isEmpty = true) := by rw [Hid, ← hT, ByteArray.toList_eq, str_data]; rfl
    generalize Fm.fchk a0 z1 = M at *
    clear g r1 r2 hE hT hlen hL hg v1
    go_enter Tryd.func4, Tryd.ntmps4
    go_wp2_with fail
    refine HF.out.mono ?_
    rintro e w2 ⟨he, rfl⟩
    obtain rfl := he.out
    clear he HF
    go_wp2_with fail
    refine HC.out.mono ?_
    rintro e w2 ⟨he, hb2⟩
    obtain rfl := he.out
    have B2 := Lib.hid hb2
    clear he HC hb2
    go_wp2_with fail
    refine (HE1 _ B2.out).out.mono ?_
    rintro e w3 ⟨rfl, hb3⟩
    have B3 := Lib.hid (B2.out.trans (hb3.mono B2.out.size))
    clear hb3
    go_wp2_with fail
    refine (HW _ B3.out).out.mono ?_
    rintro e w5 ⟨he, hb5⟩
    obtain rfl := he.out
    have B5 := Lib.hid (B3.out.trans (hb5.mono B3.out.size))
    clear he hb5 HW
    go_wp2_with fail
    refine (HE1 _ B5.out).out.mono ?_
    rintro e w6 ⟨rfl, hb6⟩
    have B6 := Lib.hid (B5.out.trans (hb6.mono B5.out.size))
    clear hb6 HE1
    go_wp2
    go_ret
    exact ⟨by show Ending.returned (Value.bool T.toList.isEmpty) = _; rw [hte.out], B6.out⟩


set_option maxRecDepth 100000 in
theorem lifted (os : Os) (started : os.Started) (H : Type) (enc : TypeId × Value → H) :
    ReturnsInHanded {} Tryd.checked os 4 .any (fun w args => (Rows.formSaysSpec.pre enc Tryd.prog Tryd.f4 Rows.formSaysRow.domain false w args ∧ laidMetH Tryd.prog [("errors.errorType", Rows.laid_errors_errorType)] w) ∧ sizedMet enc Tryd.prog Tryd.f4 (OpenSpec.ofChange Rows.formSaysSpec) false w args) (Rows.formSaysSpec.post enc Tryd.prog Tryd.f4 false true false false) := by
  refine returnsInHanded_of_change_and (C := Tryd.checked) (X := fun w _ => laidMetH Tryd.prog [("errors.errorType", Rows.laid_errors_errorType)] w) (fun _ _ _ hh h => h.of_heap hh) own started (by kernel_rfl) Tryd.func4
    (ChangeSpec.witness_at (enc := enc) (C := Tryd.checked) (os := os) (X := fun w _ => laidMetH Tryd.prog [("errors.errorType", Rows.laid_errors_errorType)] w) false (laidWorld os) #[.int .i64 0, .slice none 0 0] 8 rfl (by kernel_rfl) (by kernel_rfl) (by kernel_rfl) (by kernel_rfl) (by kernel_rfl) (laidWorld_met os _)) ?_
  intro W base args ds gs before hval0 hW hcnd hsz0 hL _
  have hval : ∀ (j : Nat) t v, Tryd.f4.params[j]? = some t → args[j]? = some v → Value.okWide Tryd.prog W .any base t v := hval0
  have hsz : (DataW.weightsEach Tryd.prog (Tryd.f4.params.toList ++ Rows.formSaysSpec.plain.varTypes Tryd.prog) (ds ++ gs)).all (· ≤ reachBytes) = true := hsz0
  have hW' := hW
  obtain ⟨p, q, hA0, hV0, rfl, hfz, hnd⟩ := hW
  have hV : DataW.TrodVars enc Tryd.prog W (fun _ => true) [] gs q := hV0
  have hA : DataW.TrodAll enc Tryd.prog W 0 (fun _ => true) true Tryd.f4.params.toList args.toList ds p := hA0
  rw [Tryd.params4] at hA hval hsz
  obtain ⟨v0, vs0, d0, ds0, p0, q0, hargs, rfl, rfl, h0, rr0⟩ := trodAll_cons hA
  obtain ⟨v1, vs1, d1, ds1, p1, q1, rfl, rfl, rfl, h1, rr1⟩ := trodAll_cons rr0
  obtain ⟨rfl, rfl, rfl⟩ := trodAll_nil rr1
  obtain rfl : args = #[v0, v1] := by cases args; simp_all
  obtain ⟨rfl, rfl⟩ := trodVars_none hV
  have k0 := h0
  have lt0 : ∀ x ∈ p0, x.block < W.heap.size := by obtain ⟨m, hm⟩ := k0; exact DataW.trod_lt m _ _ _ hm
  have k1 := h1
  have lt1 : ∀ x ∈ p1, x.block < W.heap.size := by obtain ⟨m, hm⟩ := k1; exact DataW.trod_lt m _ _ _ hm
  obtain ⟨a0, rfl, rfl, rfl, w0⟩ := open_int Tryd.underlying3 (hval 0 3 v0 rfl rfl) h0
  obtain ⟨l0, hh0⟩ := bounds_i64 w0
  obtain ⟨A1, c1, z1, rfl, m1, n1, x1⟩ : ∃ (A : Option Addr) (c : Nat) (l : List Fm.Nd), v1 = .slice A l.length c ∧ l.length ≤ c ∧ c ≤ 9223372036854775807 ∧ Fm.NodesAt W W.heap.size A l := by
    obtain ⟨A, len, c, rfl⟩ := okWide_slice Tryd.underlying47 (hval 1 47 v1 rfl rfl)
    obtain ⟨fuel, hf⟩ := h1
    obtain ⟨A2, c2, l, hcs, q1, q2, q3⟩ := Fm.open_nodes hf
    simp [Value.cells] at hcs
    obtain ⟨rfl, rfl, rfl⟩ := hcs
    exact ⟨_, _, l, rfl, q1, q2, q3⟩
  clear hA0 hval0
  refine (walk a0 A1 c1 z1 W l0 hh0 x1 m1 n1 (handle_of_laid hL)).mono fun e W' ⟨he, bel⟩ => ?_
  subst he
  exact ⟨_, rfl, _, _, _, [], _, [], hW', trodAll_mk1 (shut_bool Tryd.underlying4 _), (trodAll_cons_mk (Below.trod laidOut (by kernel_rfl) (of_decide_eq_true (by kernel_rfl)) k0 bel lt0) (trodAll_cons_mk (Below.trod laidOut (by kernel_rfl) (of_decide_eq_true (by kernel_rfl)) k1 bel lt1) trodAll_mk0)), rfl, bel.frame _, fun h => by cases h⟩

theorem over : Rows.formSaysRow.holds Tryd.pinned (OpenSpec.ofChange Rows.formSaysSpec) :=
  OpenClaim.holds_of_wide 4 Tryd.f4 rfl rfl rfl rfl rfl rfl rfl ⟨rfl, rfl, rfl, rfl, rfl⟩ rfl rfl rfl rfl rfl (by kernel_rfl) Tryd.func4 (by kernel_rfl)
    (of_decide_eq_true (by kernel_rfl)) (by unfold Func.isWrapper; rw [if_neg (of_decide_eq_false (by kernel_rfl))]; exact ⟨rfl, rfl⟩)
    (fun os started H enc _ => lifted os started H enc)
theorem proved : Rows.FormSaysCardSaid :=
  Claim7.holds_tied_plain_at .later [] [.handle] true (true, "e4d600c29fbf4c5fac612e47c5a6a81574e1e854991dc9fc02f52c8b403bfaa7") true
    over (fun _ h => by cases h) (by kernel_rfl) (fun _ h => by cases h) formSays_row_tie rfl ⟨rfl, rfl⟩ (by kernel_rfl) rfl
    (fun f fn hf hfn => by
      obtain rfl : f = 4 := Option.some.inj ((show Tryd.prog.funcNamed "stileward/stilewardlaw3.FormSays" = some 4 by kernel_rfl).symm.trans hf) |>.symm
      obtain rfl : fn = Tryd.f4 := (Option.some.inj (Tryd.func4.symm.trans hfn)).symm
      exact ⟨by kernel_rfl, fun j t ht => by
        rw [Tryd.params4] at ht
        rcases j with _ | _ | j
        · obtain rfl : 3 = t := by simpa using ht
          exact (show Tryd.prog.wantsStandIn 3 = false by kernel_rfl)
        · obtain rfl : 47 = t := by simpa using ht
          exact (show Tryd.prog.wantsStandIn 47 = false by kernel_rfl)
        · simp at ht⟩)
    (by kernel_rfl)
#print axioms proved
end Go.Proofs.YtlhhhdgkdbplmaaDoor.formSays
