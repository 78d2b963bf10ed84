/-
  The statement PackOneSaid of this seat, proved: for every input the law returns true and its arguments read behind the call as before. Conditions: none but the row's own (each argument within the reach).
-/
import Derived.Test.YtfpebmnmiplooaaRows
import Derived.Test.YtfpebmnmiplooaaWords
import Derived.WalkKit
import Derived.ProofKit
import Derived.OpenShut
import Derived.ShutString
import Derived.ChangeOld
import Derived.Below
import Derived.SizedLaws
import Derived.Lib.Hide
import Derived.Test.YtfpebmnmiplooaaPackR
namespace Go.Proofs.Ytfpebmnmiplooaa.packOne
open Go.ChangeShapes Go.WideShapes Go.ChangeAt Go.RowKit Go.IntWalk Go.Proofs.Ytfpebmnmiplooaa.Wd
open Go.ChangeMaps (open_string shut_string)
set_option linter.unusedVariables false

theorem own : ownKnob Try.prog.godebug = none := by kernel_rfl
theorem laidOut : laidOutB Try.prog = true := by kernel_rfl
open Go.Proofs.Ytfpebmnmiplooaa.Pk

theorem walk (s0 : ByteArray) (w : World) (r0 : s0.size ≤ 140737488351232) :
    Calls Try.prog 5 #[.string s0] w fun e w' => e = .returned (.bool true) ∧ Below w.heap.size w w' := by
  have hm : s0.size ≤ maxLen := by unfold maxLen; omega
  rcases hx : rd s0.data.toList with ⟨n, u, _ | e0⟩
  · have ho := rd_ok hx
    have HC1 := Lib.hid (fun W => readNum_ok s0 W hm n u hx)
    have HC2 := Lib.hid (fun W => num_ok n W ho.1)
    have hu : u ≤ s0.size := by rw [← data_len]; exact ho.2.2.2
    have heq : ((str (num n)).toList == (s0.extract 0 u).toList) = true := txt_eq (str_take _ _ _ (num_rd hx))
    generalize str (num n) = Y at *
    clear hx ho
    go_enter Try.func5, Try.ntmps5
    go_wp2_with fail
    refine (num_300 _).mono ?_
    rintro e w1 ⟨rfl, hb1⟩
    have HB1 := Lib.hid hb1
    clear hb1
    go_wp2_with fail
    refine (HC1.out _).mono ?_
    rintro e w' ⟨rfl, rfl⟩
    clear HC1
    go_wp2_with fail
    refine (HC2.out _).mono ?_
    rintro e w2 ⟨rfl, hb2⟩
    have HB2 := Lib.hid (HB1.out.trans (hb2.mono HB1.out.size))
    clear hb2 HC2
    go_wp2_with fail
    rcases hy : rdList s0.data.toList with ⟨l, u2, _ | e2⟩
    · have ho := rdList_ok hy
      refine (readList_ok s0 _ (by omega) l u2 hy).mono ?_
      rintro e w3 ⟨A, cap, zs, rfl, HZ, hA, hb3⟩
      have HC3 := Lib.hid (list_nat A cap l zs w3 HZ.out hA ho.1)
      have hu2 : u2 ≤ s0.size := by rw [← data_len]; exact ho.2.2.1
      have heq : ((str (lst l)).toList == (s0.extract 0 u2).toList) = true := txt_eq (str_take _ _ _ ho.2.2.2)
      have HB3 := Lib.hid hb3
      generalize str (lst l) = X at *
      clear hy ho hA hb3
      go_wp2_with fail
      refine HC3.out.mono ?_
      rintro e w4 ⟨rfl, hb4⟩
      have HB4 := Lib.hid hb4
      clear hb4 HC3
      go_wp2
      go_ret
      exact ⟨rfl, (HB2.out.trans (HB3.out.mono HB2.out.size)).trans (HB4.out.mono (Nat.le_trans HB2.out.size HB3.out.size))⟩
    · have hb := rdList_bad hy (by omega)
      rw [hb.1, hb.2.1] at hy
      refine (readList_bad s0 _ (by omega) e2 hy).mono ?_
      rintro e w3 ⟨rfl, hb3⟩
      have HB3 := Lib.hid hb3
      clear hy hb hb3
      go_wp2
      go_ret
      exact ⟨rfl, HB2.out.trans (HB3.out.mono HB2.out.size)⟩
  · have hb0 := rd_bad hx (by omega)
    rw [hb0.1, hb0.2.1] at hx
    have HC1 := Lib.hid (fun W => readNum_bad s0 W hm e0 hx)
    clear hx hb0
    go_enter Try.func5, Try.ntmps5
    go_wp2_with fail
    refine (num_300 _).mono ?_
    rintro e w1 ⟨rfl, hb1⟩
    have HB1 := Lib.hid hb1
    clear hb1
    go_wp2_with fail
    refine (HC1.out _).mono ?_
    rintro e w' ⟨rfl, rfl⟩
    clear HC1
    go_wp2_with fail
    rcases hy : rdList s0.data.toList with ⟨l, u2, _ | e2⟩
    · have ho := rdList_ok hy
      refine (readList_ok s0 _ (by omega) l u2 hy).mono ?_
      rintro e w3 ⟨A, cap, zs, rfl, HZ, hA, hb3⟩
      have HC3 := Lib.hid (list_nat A cap l zs w3 HZ.out hA ho.1)
      have hu2 : u2 ≤ s0.size := by rw [← data_len]; exact ho.2.2.1
      have heq : ((str (lst l)).toList == (s0.extract 0 u2).toList) = true := txt_eq (str_take _ _ _ ho.2.2.2)
      have HB3 := Lib.hid hb3
      generalize str (lst l) = X at *
      clear hy ho hA hb3
      go_wp2_with fail
      refine HC3.out.mono ?_
      rintro e w4 ⟨rfl, hb4⟩
      have HB4 := Lib.hid hb4
      clear hb4 HC3
      go_wp2
      go_ret
      exact ⟨rfl, (HB1.out.trans (HB3.out.mono HB1.out.size)).trans (HB4.out.mono (Nat.le_trans HB1.out.size HB3.out.size))⟩
    · have hb := rdList_bad hy (by omega)
      rw [hb.1, hb.2.1] at hy
      refine (readList_bad s0 _ (by omega) e2 hy).mono ?_
      rintro e w3 ⟨rfl, hb3⟩
      have HB3 := Lib.hid hb3
      clear hy hb hb3
      go_wp2
      go_ret
      exact ⟨rfl, HB1.out.trans (HB3.out.mono HB1.out.size)⟩


set_option maxRecDepth 100000 in
theorem lifted (os : Os) (started : os.Started) (H : Type) (enc : TypeId × Value → H) :
    ReturnsInHanded {} Try.checked os 5 .any (Rows.packOneSpec.pre6 enc Try.prog Try.f5 Rows.packOneRow.domain false) (Rows.packOneSpec.post enc Try.prog Try.f5 false true false false) := by
  refine returnsInHanded_of_change_sized (C := Try.checked) own started (by kernel_rfl) Try.func5
    (ChangeSpec.witness6 (enc := enc) (C := Try.checked) false ⟨#[], #[.string ByteArray.empty], []⟩ 8 (by kernel_rfl) (by kernel_rfl) (by kernel_rfl) (by kernel_rfl)) ?_
  intro W base args ds gs before hval0 hW hcnd hsz0 _
  have hval : ∀ (j : Nat) t v, Try.f5.params[j]? = some t → args[j]? = some v → Value.okWide Try.prog W .any base t v := hval0
  have hsz : (DataW.weightsEach Try.prog (Try.f5.params.toList ++ Rows.packOneSpec.plain.varTypes Try.prog) (ds ++ gs)).all (· ≤ reachBytes) = true := hsz0
  have hW' := hW
  obtain ⟨p, q, hA0, hV0, rfl, hfz, hnd⟩ := hW
  have hV : DataW.TrodVars enc Try.prog W (fun _ => true) [] gs q := hV0
  have hA : DataW.TrodAll enc Try.prog W 0 (fun _ => true) true Try.f5.params.toList args.toList ds p := hA0
  rw [Try.params5] at hA hval hsz
  obtain ⟨v0, vs0, d0, ds0, p0, q0, hargs, rfl, rfl, h0, rr0⟩ := trodAll_cons hA
  obtain ⟨rfl, rfl, rfl⟩ := trodAll_nil rr0
  obtain rfl : args = #[v0] := by cases args; simp_all
  obtain ⟨rfl, rfl⟩ := trodVars_none hV
  have k0 := h0
  have lt0 : ∀ x ∈ p0, x.block < W.heap.size := by obtain ⟨m, hm⟩ := k0; exact DataW.trod_lt m _ _ _ hm
  obtain ⟨s0, rfl, rfl, rfl, w0⟩ := open_string Try.underlying9 (hval 0 9 v0 rfl rfl) h0
  have r0 : s0.size ≤ 140737488351232 := by
    have := sized_string hsz (j := 0) (t := 9) rfl rfl
    simp only [reachBytes] at this
    simpa using this
  clear hA0 hval0
  refine (walk s0 W r0).mono fun e W' ⟨he, bel⟩ => ?_
  subst he
  exact ⟨_, rfl, _, _, _, [], _, [], hW', trodAll_mk1 (shut_bool Try.underlying4 _), (trodAll_cons_mk (Below.trod laidOut (by kernel_rfl) (of_decide_eq_true (by kernel_rfl)) k0 bel lt0) trodAll_mk0), rfl, bel.frame _, fun h => by cases h⟩

theorem over : Rows.packOneRow.holds Try.pinned (OpenSpec.ofChange Rows.packOneSpec) :=
  OpenClaim.holds_of_wide 5 Try.f5 rfl rfl rfl rfl rfl rfl rfl ⟨rfl, rfl, rfl, rfl, rfl⟩ rfl rfl rfl rfl rfl (by kernel_rfl) Try.func5 (by kernel_rfl)
    (of_decide_eq_true (by kernel_rfl)) (by unfold Func.isWrapper; rw [if_neg (of_decide_eq_false (by kernel_rfl))]; exact ⟨rfl, rfl⟩)
    (fun os started H enc _ => lifted os started H enc)
theorem proved : Rows.PackOneSaid := over
#print axioms proved
end Go.Proofs.Ytfpebmnmiplooaa.packOne
