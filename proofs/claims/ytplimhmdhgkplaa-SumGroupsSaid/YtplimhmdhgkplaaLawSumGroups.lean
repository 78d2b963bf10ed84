/-
  The statement SumGroupsSaid of this seat, proved: for every input the law returns true and its arguments read behind the call as before. Conditions: none but the row's own (each argument within the reach).
-/
import Derived.Test.YtplimhmdhgkplaaRows
import Derived.Test.YtplimhmdhgkplaaWords
import Derived.WalkKit
import Derived.ProofKit
import Derived.OpenShut
import Derived.ShutString
import Derived.ChangeOld
import Derived.Below
import Derived.SizedLaws
import Derived.Lib.Hide
import Derived.Test.YtplimhmdhgkplaaSumW
namespace Go.Proofs.Ytplimhmdhgkplaa.sumGroups
open Go.ChangeShapes Go.WideShapes Go.ChangeAt Go.RowKit Go.IntWalk Go.Proofs.Ytplimhmdhgkplaa.Wd
open Go.ChangeMaps (open_string shut_string)
set_option linter.unusedVariables false

theorem own : ownKnob Try.prog.godebug = none := by kernel_rfl
theorem laidOut : laidOutB Try.prog = true := by kernel_rfl
open Go.Proofs.Ytplimhmdhgkplaa.Sm

set_option maxRecDepth 100000 in
set_option maxHeartbeats 4000000 in
theorem walk (a0 : Int) (a1 : Int) (a2 : Int) (a3 : Int) (a4 : Int) (w : World) (l0 : -9223372036854775808 ≤ a0) (h0 : a0 ≤ 9223372036854775807) (l1 : -9223372036854775808 ≤ a1) (h1 : a1 ≤ 9223372036854775807) (l2 : -9223372036854775808 ≤ a2) (h2 : a2 ≤ 9223372036854775807) (l3 : -9223372036854775808 ≤ a3) (h3 : a3 ≤ 9223372036854775807) (l4 : -9223372036854775808 ≤ a4) (h4 : a4 ≤ 9223372036854775807) :
    Calls Try.prog 4 #[.int .i64 a0, .int .i64 a1, .int .i64 a2, .int .i64 a3, .int .i64 a4] w fun e w' => e = .returned (.bool true) ∧ Below w.heap.size w w' := by
  have HF := Lib.hid (fun W => join_ok 1 2 1 W (by omega) (by omega) (by omega))
  rw [show jn 1 2 1 = 259 from by decide] at HF
  have S0 : Small a0 := ⟨l0, h0⟩
  have S1 : Small a1 := ⟨l1, h1⟩
  have S2 : Small a2 := ⟨l2, h2⟩
  have S3 : Small a3 := ⟨l3, h3⟩
  have S4 : Small a4 := ⟨l4, h4⟩
  have end1 : Hid (∀ W, Below W.heap.size W W) := fun W => Below.refl _ _
  by_cases hj : Jr a0 a1 a3
  · by_cases hk : Jr a1 a2 a4
    · obtain ⟨⟨p1, p2⟩, ⟨p3, p4⟩, p5, p6⟩ := hj
      obtain ⟨⟨q1, q2⟩, ⟨q3, q4⟩, q5, q6⟩ := hk
      obtain ⟨a, rfl⟩ := Int.eq_ofNat_of_zero_le p1
      obtain ⟨b, rfl⟩ := Int.eq_ofNat_of_zero_le p3
      obtain ⟨c, rfl⟩ := Int.eq_ofNat_of_zero_le q3
      obtain ⟨n, rfl⟩ := Int.eq_ofNat_of_zero_le p5
      obtain ⟨m, rfl⟩ := Int.eq_ofNat_of_zero_le q5
      have H1 := Lib.hid (fun W => join_ok a b n W (by omega) (by omega) (by omega))
      have H2 := Lib.hid (fun W => join_ok b c m W (by omega) (by omega) (by omega))
      by_cases hn : n ≤ 1073741823 ∧ m ≤ 1073741823
      · have H3 := Lib.hid (fun W => join_ok (jn a b n) c m W (jn_lt _ _ _) (by omega) (by omega))
        have H4 := Lib.hid (fun W => join_ok a (jn b c m) (n + m) W (by omega) (jn_lt _ _ _) (by omega))
        rw [← jn_group] at H4
        generalize jn (jn a b n) c m = R at *
        generalize jn a b n = X at *
        generalize jn b c m = Y at *
        have hnm : ((n + m : Nat) : Int) = (n : Int) + (m : Int) := by omega
        obtain ⟨hn1, hn2⟩ := hn
        clear S0 S1 S2 S3 S4
        rw [hnm] at H4
        clear hnm
        go_enter Try.func4, Try.ntmps4
        go_wp2_with fail
        refine (HF.out _).mono ?_
        rintro e w1 ⟨rfl, rfl⟩
        go_wp2_with fail
        refine (H1.out _).mono ?_
        rintro e w1 ⟨rfl, rfl⟩
        go_wp2_with fail
        refine (H2.out _).mono ?_
        rintro e w1 ⟨rfl, rfl⟩
        go_wp2_with fail
        refine (H3.out _).mono ?_
        rintro e w1 ⟨rfl, rfl⟩
        go_wp2_with fail
        refine (H4.out _).mono ?_
        rintro e w1 ⟨rfl, rfl⟩
        go_wp2
        go_ret
        exact ⟨rfl, Below.refl _ _⟩
      · clear S0 S1 S2 S3 S4
        generalize jn a b n = X at *
        generalize jn b c m = Y at *
        by_cases hn1 : n ≤ 1073741823
        · have hn2 : ¬ m ≤ 1073741823 := fun e => hn ⟨hn1, e⟩
          clear hn
          go_enter Try.func4, Try.ntmps4
          go_wp2_with fail
          refine (HF.out _).mono ?_
          rintro e w1 ⟨rfl, rfl⟩
          go_wp2_with fail
          refine (H1.out _).mono ?_
          rintro e w1 ⟨rfl, rfl⟩
          go_wp2_with fail
          refine (H2.out _).mono ?_
          rintro e w1 ⟨rfl, rfl⟩
          go_wp2
          go_ret
          exact ⟨rfl, Below.refl _ _⟩
        · clear hn
          go_enter Try.func4, Try.ntmps4
          go_wp2_with fail
          refine (HF.out _).mono ?_
          rintro e w1 ⟨rfl, rfl⟩
          go_wp2_with fail
          refine (H1.out _).mono ?_
          rintro e w1 ⟨rfl, rfl⟩
          go_wp2_with fail
          refine (H2.out _).mono ?_
          rintro e w1 ⟨rfl, rfl⟩
          go_wp2
          go_ret
          exact ⟨rfl, Below.refl _ _⟩
    · have H2 := Lib.hid (fun W => join_bad a1 a2 a4 W hk S1 S2 S4)
      obtain ⟨⟨p1, p2⟩, ⟨p3, p4⟩, p5, p6⟩ := hj
      obtain ⟨a, rfl⟩ := Int.eq_ofNat_of_zero_le p1
      obtain ⟨b, rfl⟩ := Int.eq_ofNat_of_zero_le p3
      obtain ⟨n, rfl⟩ := Int.eq_ofNat_of_zero_le p5
      have H1 := Lib.hid (fun W => join_ok a b n W (by omega) (by omega) (by omega))
      clear S0 S1 S2 S3 S4 hk
      generalize jn a b n = X at *
      go_enter Try.func4, Try.ntmps4
      go_wp2_with fail
      refine (HF.out _).mono ?_
      rintro e w1 ⟨rfl, rfl⟩
      go_wp2_with fail
      refine (H1.out _).mono ?_
      rintro e w1 ⟨rfl, rfl⟩
      go_wp2_with fail
      refine (H2.out _).mono ?_
      rintro e w1 ⟨rfl, rfl⟩
      go_wp2
      go_ret
      exact ⟨rfl, Below.refl _ _⟩
  · have H1 := Lib.hid (fun W => join_bad a0 a1 a3 W hj S0 S1 S3)
    obtain ⟨v, x, HX⟩ : ∃ v x, Hid (∀ W, Calls Try.prog 9 #[.int .i64 a1, .int .i64 a2, .int .i64 a4] W fun e w' => e = .returned (.tuple #[.int .i64 v, x]) ∧ W = w') := by
      by_cases hk : Jr a1 a2 a4
      · obtain ⟨⟨q1, q2⟩, ⟨q3, q4⟩, q5, q6⟩ := hk
        obtain ⟨b, rfl⟩ := Int.eq_ofNat_of_zero_le q1
        obtain ⟨c, rfl⟩ := Int.eq_ofNat_of_zero_le q3
        obtain ⟨m, rfl⟩ := Int.eq_ofNat_of_zero_le q5
        exact ⟨_, _, fun W => join_ok b c m W (by omega) (by omega) (by omega)⟩
      · exact ⟨_, _, fun W => join_bad a1 a2 a4 W hk S1 S2 S4⟩
    clear S0 S1 S2 S3 S4 hj
    go_enter Try.func4, Try.ntmps4
    go_wp2_with fail
    refine (HF.out _).mono ?_
    rintro e w1 ⟨rfl, rfl⟩
    go_wp2_with fail
    refine (H1.out _).mono ?_
    rintro e w1 ⟨rfl, rfl⟩
    go_wp2_with fail
    refine (HX.out _).mono ?_
    rintro e w1 ⟨rfl, rfl⟩
    go_wp2
    go_ret
    exact ⟨rfl, Below.refl _ _⟩


set_option maxRecDepth 100000 in
theorem lifted (os : Os) (started : os.Started) (H : Type) (enc : TypeId × Value → H) :
    ReturnsInHanded {} Try.checked os 4 .any (Rows.sumGroupsSpec.pre6 enc Try.prog Try.f4 Rows.sumGroupsRow.domain false) (Rows.sumGroupsSpec.post enc Try.prog Try.f4 false true false false) := by
  refine returnsInHanded_of_change_sized (C := Try.checked) own started (by kernel_rfl) Try.func4
    (ChangeSpec.witness6 (enc := enc) (C := Try.checked) false ⟨#[], #[.int .i64 0, .int .i64 0, .int .i64 0, .int .i64 0, .int .i64 0], []⟩ 8 (by kernel_rfl) (by kernel_rfl) (by kernel_rfl) (by kernel_rfl)) ?_
  intro W base args ds gs before hval0 hW hcnd hsz0 _
  have hval : ∀ (j : Nat) t v, Try.f4.params[j]? = some t → args[j]? = some v → Value.okWide Try.prog W .any base t v := hval0
  have hsz : (DataW.weightsEach Try.prog (Try.f4.params.toList ++ Rows.sumGroupsSpec.plain.varTypes Try.prog) (ds ++ gs)).all (· ≤ reachBytes) = true := hsz0
  have hW' := hW
  obtain ⟨p, q, hA0, hV0, rfl, hfz, hnd⟩ := hW
  have hV : DataW.TrodVars enc Try.prog W (fun _ => true) [] gs q := hV0
  have hA : DataW.TrodAll enc Try.prog W 0 (fun _ => true) true Try.f4.params.toList args.toList ds p := hA0
  rw [Try.params4] at hA hval hsz
  obtain ⟨v0, vs0, d0, ds0, p0, q0, hargs, rfl, rfl, h0, rr0⟩ := trodAll_cons hA
  obtain ⟨v1, vs1, d1, ds1, p1, q1, rfl, rfl, rfl, h1, rr1⟩ := trodAll_cons rr0
  obtain ⟨v2, vs2, d2, ds2, p2, q2, rfl, rfl, rfl, h2, rr2⟩ := trodAll_cons rr1
  obtain ⟨v3, vs3, d3, ds3, p3, q3, rfl, rfl, rfl, h3, rr3⟩ := trodAll_cons rr2
  obtain ⟨v4, vs4, d4, ds4, p4, q4, rfl, rfl, rfl, h4, rr4⟩ := trodAll_cons rr3
  obtain ⟨rfl, rfl, rfl⟩ := trodAll_nil rr4
  obtain rfl : args = #[v0, v1, v2, v3, v4] := by cases args; simp_all
  obtain ⟨rfl, rfl⟩ := trodVars_none hV
  have k0 := h0
  have lt0 : ∀ x ∈ p0, x.block < W.heap.size := by obtain ⟨m, hm⟩ := k0; exact DataW.trod_lt m _ _ _ hm
  have k1 := h1
  have lt1 : ∀ x ∈ p1, x.block < W.heap.size := by obtain ⟨m, hm⟩ := k1; exact DataW.trod_lt m _ _ _ hm
  have k2 := h2
  have lt2 : ∀ x ∈ p2, x.block < W.heap.size := by obtain ⟨m, hm⟩ := k2; exact DataW.trod_lt m _ _ _ hm
  have k3 := h3
  have lt3 : ∀ x ∈ p3, x.block < W.heap.size := by obtain ⟨m, hm⟩ := k3; exact DataW.trod_lt m _ _ _ hm
  have k4 := h4
  have lt4 : ∀ x ∈ p4, x.block < W.heap.size := by obtain ⟨m, hm⟩ := k4; exact DataW.trod_lt m _ _ _ hm
  obtain ⟨a0, rfl, rfl, rfl, w0⟩ := open_int Try.underlying3 (hval 0 3 v0 rfl rfl) h0
  obtain ⟨l0, hh0⟩ := bounds_i64 w0
  obtain ⟨a1, rfl, rfl, rfl, w1⟩ := open_int Try.underlying3 (hval 1 3 v1 rfl rfl) h1
  obtain ⟨l1, hh1⟩ := bounds_i64 w1
  obtain ⟨a2, rfl, rfl, rfl, w2⟩ := open_int Try.underlying3 (hval 2 3 v2 rfl rfl) h2
  obtain ⟨l2, hh2⟩ := bounds_i64 w2
  obtain ⟨a3, rfl, rfl, rfl, w3⟩ := open_int Try.underlying3 (hval 3 3 v3 rfl rfl) h3
  obtain ⟨l3, hh3⟩ := bounds_i64 w3
  obtain ⟨a4, rfl, rfl, rfl, w4⟩ := open_int Try.underlying3 (hval 4 3 v4 rfl rfl) h4
  obtain ⟨l4, hh4⟩ := bounds_i64 w4
  clear hA0 hval0
  refine (walk a0 a1 a2 a3 a4 W l0 hh0 l1 hh1 l2 hh2 l3 hh3 l4 hh4).mono fun e W' ⟨he, bel⟩ => ?_
  subst he
  exact ⟨_, rfl, _, _, _, [], _, [], hW', trodAll_mk1 (shut_bool Try.underlying4 _), (trodAll_cons_mk (Below.trod laidOut (by kernel_rfl) (of_decide_eq_true (by kernel_rfl)) k0 bel lt0) (trodAll_cons_mk (Below.trod laidOut (by kernel_rfl) (of_decide_eq_true (by kernel_rfl)) k1 bel lt1) (trodAll_cons_mk (Below.trod laidOut (by kernel_rfl) (of_decide_eq_true (by kernel_rfl)) k2 bel lt2) (trodAll_cons_mk (Below.trod laidOut (by kernel_rfl) (of_decide_eq_true (by kernel_rfl)) k3 bel lt3) (trodAll_cons_mk (Below.trod laidOut (by kernel_rfl) (of_decide_eq_true (by kernel_rfl)) k4 bel lt4) trodAll_mk0))))), rfl, bel.frame _, fun h => by cases h⟩

theorem over : Rows.sumGroupsRow.holds Try.pinned (OpenSpec.ofChange Rows.sumGroupsSpec) :=
  OpenClaim.holds_of_wide 4 Try.f4 rfl rfl rfl rfl rfl rfl rfl ⟨rfl, rfl, rfl, rfl, rfl⟩ rfl rfl rfl rfl rfl (by kernel_rfl) Try.func4 (by kernel_rfl)
    (of_decide_eq_true (by kernel_rfl)) (by unfold Func.isWrapper; rw [if_neg (of_decide_eq_false (by kernel_rfl))]; exact ⟨rfl, rfl⟩)
    (fun os started H enc _ => lifted os started H enc)
theorem proved : Rows.SumGroupsSaid := over
#print axioms proved
end Go.Proofs.Ytplimhmdhgkplaa.sumGroups
