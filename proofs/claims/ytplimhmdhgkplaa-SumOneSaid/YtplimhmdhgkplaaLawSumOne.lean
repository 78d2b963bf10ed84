/-
  The statement SumOneSaid of this seat, proved: for every input the law returns true and its arguments read behind the call as before. Conditions: none but the row's own (each argument within the reach).
-/
import Derived.Test.YtplimhmdhgkplaaRows
import Derived.Test.YtplimhmdhgkplaaWords
import Derived.WalkKit
import Derived.ProofKit
import Derived.OpenShut
import Derived.ShutString
import Derived.ChangeOld
import Derived.Below
import Derived.SizedLaws
import Derived.Lib.Hide
import Derived.Test.YtplimhmdhgkplaaSumW
import Derived.BigQuiet
namespace Go.Proofs.Ytplimhmdhgkplaa.sumOne
open Go.ChangeShapes Go.WideShapes Go.ChangeAt Go.RowKit Go.IntWalk Go.Proofs.Ytplimhmdhgkplaa.Wd
open Go.ChangeMaps (open_string shut_string)
set_option linter.unusedVariables false

theorem own : ownKnob Try.prog.godebug = none := by kernel_rfl
theorem laidOut : laidOutB Try.prog = true := by kernel_rfl
open Go.Proofs.Ytplimhmdhgkplaa.Sm Go.PlainAid

set_option maxRecDepth 100000 in
set_option maxHeartbeats 4000000 in
theorem walk (s0 : ByteArray) (a1 : Int) (a2 : Int) (w : World) (r0 : s0.size ≤ 140737488351232) (l1 : -9223372036854775808 ≤ a1) (h1 : a1 ≤ 9223372036854775807) (l2 : 0 ≤ a2) (h2 : a2 ≤ 255) :
    Calls Try.prog 5 #[.string s0, .int .i64 a1, .int .u8 a2] w fun e w' => e = .returned (.bool true) ∧ Below w.heap.size w w' := by
  have hm : s0.size ≤ maxLen := by unfold maxLen; omega
  by_cases hi : 0 ≤ a1 ∧ a1 < s0.size
  · obtain ⟨i, rfl⟩ := Int.eq_ofNat_of_zero_le hi.1
    have hlt : i < s0.size := by omega
    clear hi
    have b0 := bt_nonneg s0 i
    have b1 := bt_le s0 i
    have hbt := get_bt s0
    obtain ⟨b, rfl⟩ : ∃ b : UInt8, a2 = (b.toNat : Int) := ⟨UInt8.ofNat a2.toNat, by simp; omega⟩
    have ht := turned s0 i hlt b
    have hY : (str [b]).size = 1 := str_size [b]
    have hX : (s0.extract 0 i).size = i := by rw [ByteArray.size_extract]; omega
    have hXY : (s0.extract 0 i ++ str [b]).size = i + 1 := by rw [ByteArray.size_append]; omega
    have hZ : (s0.extract (i + 1) s0.size).size = s0.size - (i + 1) := by rw [ByteArray.size_extract]; omega
    have hTs : (s0.extract 0 i ++ str [b] ++ s0.extract (i + 1) s0.size).size ≤ maxLen := by rw [ByteArray.size_append]; unfold maxLen at *; omega
    have HC1 := Lib.hid (fun W => of_q s0 W hm)
    have HC2 := Lib.hid (fun W => of_q _ W hTs)
    obtain ⟨N1, HN1⟩ : ∃ N, Hid (sm s0.data.toList = N) := ⟨_, rfl⟩
    obtain ⟨N2, HN2⟩ : ∃ N, Hid (sm (s0.extract 0 i ++ str [b] ++ s0.extract (i + 1) s0.size).data.toList = N) := ⟨_, rfl⟩
    rw [HN1.out] at HC1 ht
    rw [HN2.out] at HC2 ht
    obtain ⟨T, HT⟩ : ∃ T, Hid (s0.extract 0 i ++ str [b] ++ s0.extract (i + 1) s0.size = T) := ⟨_, rfl⟩
    rw [HT.out] at HC2
    have hq : (((N1 : Int) == (N2 : Int)) == (bt s0 i == (b.toNat : Int))) = true := by
      rcases ht with ⟨h1, h2⟩ | ⟨h1, h2⟩
      · rw [h1, h2, beq_self_eq_true, beq_self_eq_true]; rfl
      · rw [beq_false_of_ne h1, beq_false_of_ne (show (N1 : Int) ≠ N2 by omega)]; rfl
    have HQ := Lib.hid hq
    clear hq ht HN1 HN2 hTs hm
    go_enter Try.func5, Try.ntmps5
    go_wp2_with fail
    refine (of_ab _).mono ?_
    rintro e w1 ⟨rfl, rfl⟩
    go_wp2_with fail
    refine (of_ac _).mono ?_
    rintro e w1 ⟨rfl, rfl⟩
    go_wp2
    have hw1 : IntKind.i64.wrap ((i : Int) + 1) = (i : Int) + 1 := IntWalk.i64_in _ ⟨by omega, by omega⟩
    have hn1 : ((i : Int) + 1).toNat = i + 1 := by omega
    have hp1 : (0 : Int) ≤ (i : Int) + 1 := by omega
    have hcv : (convert 29 9 (.slice (some { block := w.heap.size, off := 0 }) 1 1)).run Try.prog ((w.alloc (.cells #[.int .u8 (b.toNat : Int)] 5)).drew)
      = .ok (.string (str [b])) ((w.alloc (.cells #[.int .u8 (b.toNat : Int)] 5)).drew) := conv_lit [b] w #[.int .u8 (b.toNat : Int)] rfl
    generalize str [b] = Y at *
    have hi1 : i ≤ s0.size := by omega
    have hi2 : (i : Int) + 1 ≤ s0.size := by omega
    have hg3 : ¬ IntKind.i64.max < ((i + 1 : Nat) : Int) := by show ¬ (9223372036854775807 : Int) < _; omega
    have HB := Lib.hid (below_lit w #[.int .u8 (b.toNat : Int)] 5)
    go_region
    generalize (w.alloc (.cells #[.int .u8 (b.toNat : Int)] 5)).drew = w2 at *
    rw [HT.out]
    clear hw1 hcv hg3 hn1 hp1 hi2
    have hli : (i : Int) < (s0.size : Int) := by omega
    go_wp2
    go_quiet ((go_at_call 8; first | with_reducible exact Calls.quiet_of_same (HC1.out _) | with_reducible exact Calls.quiet_of_same (HC2.out _)))
    rw [HQ.out]
    go_wp2
    go_ret
    exact ⟨rfl, below_drewN HB.out _⟩
  · by_cases h : a1 < 0
    · go_enter Try.func5, Try.ntmps5
      go_wp2_with fail
      refine (of_ab _).mono ?_
      rintro e w1 ⟨rfl, rfl⟩
      go_wp2_with fail
      refine (of_ac _).mono ?_
      rintro e w1 ⟨rfl, rfl⟩
      go_wp2
      go_ret
      exact ⟨rfl, Below.refl _ _⟩
    · have h' : (s0.size : Int) ≤ a1 := by omega
      go_enter Try.func5, Try.ntmps5
      go_wp2_with fail
      refine (of_ab _).mono ?_
      rintro e w1 ⟨rfl, rfl⟩
      go_wp2_with fail
      refine (of_ac _).mono ?_
      rintro e w1 ⟨rfl, rfl⟩
      go_wp2
      go_ret
      exact ⟨rfl, Below.refl _ _⟩


set_option maxRecDepth 100000 in
theorem lifted (os : Os) (started : os.Started) (H : Type) (enc : TypeId × Value → H) :
    ReturnsInHanded {} Try.checked os 5 .any (Rows.sumOneSpec.pre6 enc Try.prog Try.f5 Rows.sumOneRow.domain false) (Rows.sumOneSpec.post enc Try.prog Try.f5 false true false false) := by
  refine returnsInHanded_of_change_sized (C := Try.checked) own started (by kernel_rfl) Try.func5
    (ChangeSpec.witness6 (enc := enc) (C := Try.checked) false ⟨#[], #[.string ByteArray.empty, .int .i64 0, .int .u8 0], []⟩ 8 (by kernel_rfl) (by kernel_rfl) (by kernel_rfl) (by kernel_rfl)) ?_
  intro W base args ds gs before hval0 hW hcnd hsz0 _
  have hval : ∀ (j : Nat) t v, Try.f5.params[j]? = some t → args[j]? = some v → Value.okWide Try.prog W .any base t v := hval0
  have hsz : (DataW.weightsEach Try.prog (Try.f5.params.toList ++ Rows.sumOneSpec.plain.varTypes Try.prog) (ds ++ gs)).all (· ≤ reachBytes) = true := hsz0
  have hW' := hW
  obtain ⟨p, q, hA0, hV0, rfl, hfz, hnd⟩ := hW
  have hV : DataW.TrodVars enc Try.prog W (fun _ => true) [] gs q := hV0
  have hA : DataW.TrodAll enc Try.prog W 0 (fun _ => true) true Try.f5.params.toList args.toList ds p := hA0
  rw [Try.params5] at hA hval hsz
  obtain ⟨v0, vs0, d0, ds0, p0, q0, hargs, rfl, rfl, h0, rr0⟩ := trodAll_cons hA
  obtain ⟨v1, vs1, d1, ds1, p1, q1, rfl, rfl, rfl, h1, rr1⟩ := trodAll_cons rr0
  obtain ⟨v2, vs2, d2, ds2, p2, q2, rfl, rfl, rfl, h2, rr2⟩ := trodAll_cons rr1
  obtain ⟨rfl, rfl, rfl⟩ := trodAll_nil rr2
  obtain rfl : args = #[v0, v1, v2] := by cases args; simp_all
  obtain ⟨rfl, rfl⟩ := trodVars_none hV
  have k0 := h0
  have lt0 : ∀ x ∈ p0, x.block < W.heap.size := by obtain ⟨m, hm⟩ := k0; exact DataW.trod_lt m _ _ _ hm
  have k1 := h1
  have lt1 : ∀ x ∈ p1, x.block < W.heap.size := by obtain ⟨m, hm⟩ := k1; exact DataW.trod_lt m _ _ _ hm
  have k2 := h2
  have lt2 : ∀ x ∈ p2, x.block < W.heap.size := by obtain ⟨m, hm⟩ := k2; exact DataW.trod_lt m _ _ _ hm
  obtain ⟨s0, rfl, rfl, rfl, w0⟩ := open_string Try.underlying9 (hval 0 9 v0 rfl rfl) h0
  have r0 : s0.size ≤ 140737488351232 := by
    have := sized_string hsz (j := 0) (t := 9) rfl rfl
    simp only [reachBytes] at this
    simpa using this
  obtain ⟨a1, rfl, rfl, rfl, w1⟩ := open_int Try.underlying3 (hval 1 3 v1 rfl rfl) h1
  obtain ⟨l1, hh1⟩ := bounds_i64 w1
  obtain ⟨a2, rfl, rfl, rfl, w2⟩ := open_int Try.underlying5 (hval 2 5 v2 rfl rfl) h2
  obtain ⟨l2, hh2⟩ := bounds_u8 w2
  clear hA0 hval0
  refine (walk s0 a1 a2 W r0 l1 hh1 l2 hh2).mono fun e W' ⟨he, bel⟩ => ?_
  subst he
  exact ⟨_, rfl, _, _, _, [], _, [], hW', trodAll_mk1 (shut_bool Try.underlying4 _), (trodAll_cons_mk (Below.trod laidOut (by kernel_rfl) (of_decide_eq_true (by kernel_rfl)) k0 bel lt0) (trodAll_cons_mk (Below.trod laidOut (by kernel_rfl) (of_decide_eq_true (by kernel_rfl)) k1 bel lt1) (trodAll_cons_mk (Below.trod laidOut (by kernel_rfl) (of_decide_eq_true (by kernel_rfl)) k2 bel lt2) trodAll_mk0))), rfl, bel.frame _, fun h => by cases h⟩

theorem over : Rows.sumOneRow.holds Try.pinned (OpenSpec.ofChange Rows.sumOneSpec) :=
  OpenClaim.holds_of_wide 5 Try.f5 rfl rfl rfl rfl rfl rfl rfl ⟨rfl, rfl, rfl, rfl, rfl⟩ rfl rfl rfl rfl rfl (by kernel_rfl) Try.func5 (by kernel_rfl)
    (of_decide_eq_true (by kernel_rfl)) (by unfold Func.isWrapper; rw [if_neg (of_decide_eq_false (by kernel_rfl))]; exact ⟨rfl, rfl⟩)
    (fun os started H enc _ => lifted os started H enc)
theorem proved : Rows.SumOneSaid := over
#print axioms proved
end Go.Proofs.Ytplimhmdhgkplaa.sumOne
