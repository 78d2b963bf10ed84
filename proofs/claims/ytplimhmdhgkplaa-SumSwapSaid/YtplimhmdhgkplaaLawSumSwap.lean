/-
  The statement SumSwapSaid of this seat, proved: for every input the law returns true and its arguments read behind the call as before. Conditions: none but the row's own (each argument within the reach).
-/
import Derived.Test.YtplimhmdhgkplaaRows
import Derived.Test.YtplimhmdhgkplaaWords
import Derived.WalkKit
import Derived.ProofKit
import Derived.OpenShut
import Derived.ShutString
import Derived.ChangeOld
import Derived.Below
import Derived.SizedLaws
import Derived.Lib.Hide
import Derived.Test.YtplimhmdhgkplaaSumW
import Derived.BigQuiet
namespace Go.Proofs.Ytplimhmdhgkplaa.sumSwap
open Go.ChangeShapes Go.WideShapes Go.ChangeAt Go.RowKit Go.IntWalk Go.Proofs.Ytplimhmdhgkplaa.Wd
open Go.ChangeMaps (open_string shut_string)
set_option linter.unusedVariables false

theorem own : ownKnob Try.prog.godebug = none := by kernel_rfl
theorem laidOut : laidOutB Try.prog = true := by kernel_rfl
open Go.Proofs.Ytplimhmdhgkplaa.Sm Go.PlainAid

set_option maxRecDepth 100000 in
set_option maxHeartbeats 4000000 in
theorem walk (s0 : ByteArray) (a1 : Int) (w : World) (r0 : s0.size ≤ 140737488351232) (l1 : -9223372036854775808 ≤ a1) (h1 : a1 ≤ 9223372036854775807) :
    Calls Try.prog 6 #[.string s0, .int .i64 a1] w fun e w' => e = .returned (.bool true) ∧ Below w.heap.size w w' := by
  have hm : s0.size ≤ maxLen := by unfold maxLen; omega
  by_cases hi : 1 ≤ a1 ∧ a1 < s0.size
  · obtain ⟨i, rfl⟩ := Int.eq_ofNat_of_zero_le (show 0 ≤ a1 by omega)
    obtain ⟨k, hk⟩ : ∃ k : Nat, i = k + 1 := ⟨i - 1, by omega⟩
    have hlt : i < s0.size := by omega
    have h1i : 1 ≤ i := by omega
    clear hi
    have b0 := bt_nonneg s0 k
    have b1 := bt_le s0 k
    have b2 := bt_nonneg s0 i
    have b3 := bt_le s0 i
    have hbt := get_bt s0
    have hsw := swapped s0 k (by omega)
    rw [show k + 2 = i + 1 from by omega, ← hk] at hsw
    obtain ⟨b, c, hb, hc, ht⟩ := hsw
    have hY : (str [c, b]).size = 2 := str_size [c, b]
    have hX : (s0.extract 0 k).size = k := by rw [ByteArray.size_extract]; omega
    have hXY : (s0.extract 0 k ++ str [c, b]).size = i + 1 := by rw [ByteArray.size_append]; omega
    have hZ : (s0.extract (i + 1) s0.size).size = s0.size - (i + 1) := by rw [ByteArray.size_extract]; omega
    have hTs : (s0.extract 0 k ++ str [c, b] ++ s0.extract (i + 1) s0.size).size ≤ maxLen := by rw [ByteArray.size_append]; unfold maxLen at *; omega
    have HC1 := Lib.hid (fun W => of_q s0 W hm)
    have HC2 := Lib.hid (fun W => of_q _ W hTs)
    obtain ⟨N1, HN1⟩ : ∃ N, Hid (sm s0.data.toList = N) := ⟨_, rfl⟩
    obtain ⟨N2, HN2⟩ : ∃ N, Hid (sm (s0.extract 0 k ++ str [c, b] ++ s0.extract (i + 1) s0.size).data.toList = N) := ⟨_, rfl⟩
    rw [HN1.out] at HC1 ht
    rw [HN2.out] at HC2 ht
    obtain ⟨T, HT⟩ : ∃ T, Hid (s0.extract 0 k ++ str [c, b] ++ s0.extract (i + 1) s0.size = T) := ⟨_, rfl⟩
    rw [HT.out] at HC2
    have hq : (((N1 : Int) == (N2 : Int)) == (bt s0 i == bt s0 k)) = true := by
      rw [hb, hc]
      rcases ht with ⟨h1, h2⟩ | ⟨h1, h2⟩
      · rw [h1, h2, beq_self_eq_true, beq_self_eq_true]; rfl
      · rw [beq_false_of_ne (show (c.toNat : Int) ≠ (b.toNat : Int) from fun h => h1 (UInt8.toNat_inj.1 (by omega))), beq_false_of_ne (show (N1 : Int) ≠ N2 by omega)]; rfl
    have HQ := Lib.hid hq
    have HBb := Lib.hid hb
    have HCc := Lib.hid hc
    have HK := Lib.hid hk
    have hkl : k < i := by omega
    clear hq ht HN1 HN2 hTs hm hb hc hk
    go_enter Try.func6, Try.ntmps6
    go_wp2_with fail
    refine (of_ab _).mono ?_
    rintro e w1 ⟨rfl, rfl⟩
    go_wp2_with fail
    refine (of_ba _).mono ?_
    rintro e w1 ⟨rfl, rfl⟩
    go_wp2
    have hw1 : IntKind.i64.wrap ((i : Int) + 1) = (i : Int) + 1 := IntWalk.i64_in _ ⟨by omega, by omega⟩
    have hw2 : IntKind.i64.wrap ((i : Int) - 1) = (k : Int) := by have hk := HK.out; rw [IntWalk.i64_in _ ⟨by omega, by omega⟩]; omega
    have hn1 : ((i : Int) + 1).toNat = i + 1 := by omega
    have hp1 : (0 : Int) ≤ (i : Int) + 1 := by omega
    have hcv : (convert 29 9 (.slice (some { block := w.heap.size, off := 0 }) 2 2)).run Try.prog ((w.alloc (.cells #[.int .u8 (bt s0 i), .int .u8 (bt s0 k)] 5)).drew)
      = .ok (.string (str [c, b])) ((w.alloc (.cells #[.int .u8 (bt s0 i), .int .u8 (bt s0 k)] 5)).drew) := conv_lit [c, b] w _ (by rw [HBb.out, HCc.out]; rfl)
    generalize str [c, b] = Y at *
    have hi1 : k ≤ s0.size := by omega
    have hi2 : (i : Int) + 1 ≤ s0.size := by omega
    have hi3 : (i : Int) < s0.size := by omega
    have hi4 : (k : Int) < s0.size := by omega
    have hi5 : k < s0.size := by omega
    have hg3 : ¬ IntKind.i64.max < ((i + 1 : Nat) : Int) := by show ¬ (9223372036854775807 : Int) < _; omega
    have hg4 : ¬ IntKind.i64.max < ((k + 2 : Nat) : Int) := by show ¬ (9223372036854775807 : Int) < _; omega
    have HB := Lib.hid (below_lit w #[.int .u8 (bt s0 i), .int .u8 (bt s0 k)] 5)
    go_region
    generalize (w.alloc (.cells #[.int .u8 (bt s0 i), .int .u8 (bt s0 k)] 5)).drew = w2 at *
    rw [HT.out]
    clear hcv hg3 hg4 hn1 hp1 hi2
    go_wp2
    go_quiet ((go_at_call 8; first | with_reducible exact Calls.quiet_of_same (HC1.out _) | with_reducible exact Calls.quiet_of_same (HC2.out _)))
    rw [HQ.out]
    go_wp2
    go_ret
    exact ⟨rfl, below_drewN HB.out _⟩
  · by_cases h : a1 < 1
    · go_enter Try.func6, Try.ntmps6
      go_wp2_with fail
      refine (of_ab _).mono ?_
      rintro e w1 ⟨rfl, rfl⟩
      go_wp2_with fail
      refine (of_ba _).mono ?_
      rintro e w1 ⟨rfl, rfl⟩
      go_wp2
      go_ret
      exact ⟨rfl, Below.refl _ _⟩
    · have h' : (s0.size : Int) ≤ a1 := by omega
      go_enter Try.func6, Try.ntmps6
      go_wp2_with fail
      refine (of_ab _).mono ?_
      rintro e w1 ⟨rfl, rfl⟩
      go_wp2_with fail
      refine (of_ba _).mono ?_
      rintro e w1 ⟨rfl, rfl⟩
      go_wp2
      go_ret
      exact ⟨rfl, Below.refl _ _⟩


set_option maxRecDepth 100000 in
theorem lifted (os : Os) (started : os.Started) (H : Type) (enc : TypeId × Value → H) :
    ReturnsInHanded {} Try.checked os 6 .any (Rows.sumSwapSpec.pre6 enc Try.prog Try.f6 Rows.sumSwapRow.domain false) (Rows.sumSwapSpec.post enc Try.prog Try.f6 false true false false) := by
  refine returnsInHanded_of_change_sized (C := Try.checked) own started (by kernel_rfl) Try.func6
    (ChangeSpec.witness6 (enc := enc) (C := Try.checked) false ⟨#[], #[.string ByteArray.empty, .int .i64 0], []⟩ 8 (by kernel_rfl) (by kernel_rfl) (by kernel_rfl) (by kernel_rfl)) ?_
  intro W base args ds gs before hval0 hW hcnd hsz0 _
  have hval : ∀ (j : Nat) t v, Try.f6.params[j]? = some t → args[j]? = some v → Value.okWide Try.prog W .any base t v := hval0
  have hsz : (DataW.weightsEach Try.prog (Try.f6.params.toList ++ Rows.sumSwapSpec.plain.varTypes Try.prog) (ds ++ gs)).all (· ≤ reachBytes) = true := hsz0
  have hW' := hW
  obtain ⟨p, q, hA0, hV0, rfl, hfz, hnd⟩ := hW
  have hV : DataW.TrodVars enc Try.prog W (fun _ => true) [] gs q := hV0
  have hA : DataW.TrodAll enc Try.prog W 0 (fun _ => true) true Try.f6.params.toList args.toList ds p := hA0
  rw [Try.params6] at hA hval hsz
  obtain ⟨v0, vs0, d0, ds0, p0, q0, hargs, rfl, rfl, h0, rr0⟩ := trodAll_cons hA
  obtain ⟨v1, vs1, d1, ds1, p1, q1, rfl, rfl, rfl, h1, rr1⟩ := trodAll_cons rr0
  obtain ⟨rfl, rfl, rfl⟩ := trodAll_nil rr1
  obtain rfl : args = #[v0, v1] := by cases args; simp_all
  obtain ⟨rfl, rfl⟩ := trodVars_none hV
  have k0 := h0
  have lt0 : ∀ x ∈ p0, x.block < W.heap.size := by obtain ⟨m, hm⟩ := k0; exact DataW.trod_lt m _ _ _ hm
  have k1 := h1
  have lt1 : ∀ x ∈ p1, x.block < W.heap.size := by obtain ⟨m, hm⟩ := k1; exact DataW.trod_lt m _ _ _ hm
  obtain ⟨s0, rfl, rfl, rfl, w0⟩ := open_string Try.underlying9 (hval 0 9 v0 rfl rfl) h0
  have r0 : s0.size ≤ 140737488351232 := by
    have := sized_string hsz (j := 0) (t := 9) rfl rfl
    simp only [reachBytes] at this
    simpa using this
  obtain ⟨a1, rfl, rfl, rfl, w1⟩ := open_int Try.underlying3 (hval 1 3 v1 rfl rfl) h1
  obtain ⟨l1, hh1⟩ := bounds_i64 w1
  clear hA0 hval0
  refine (walk s0 a1 W r0 l1 hh1).mono fun e W' ⟨he, bel⟩ => ?_
  subst he
  exact ⟨_, rfl, _, _, _, [], _, [], hW', trodAll_mk1 (shut_bool Try.underlying4 _), (trodAll_cons_mk (Below.trod laidOut (by kernel_rfl) (of_decide_eq_true (by kernel_rfl)) k0 bel lt0) (trodAll_cons_mk (Below.trod laidOut (by kernel_rfl) (of_decide_eq_true (by kernel_rfl)) k1 bel lt1) trodAll_mk0)), rfl, bel.frame _, fun h => by cases h⟩

theorem over : Rows.sumSwapRow.holds Try.pinned (OpenSpec.ofChange Rows.sumSwapSpec) :=
  OpenClaim.holds_of_wide 6 Try.f6 rfl rfl rfl rfl rfl rfl rfl ⟨rfl, rfl, rfl, rfl, rfl⟩ rfl rfl rfl rfl rfl (by kernel_rfl) Try.func6 (by kernel_rfl)
    (of_decide_eq_true (by kernel_rfl)) (by unfold Func.isWrapper; rw [if_neg (of_decide_eq_false (by kernel_rfl))]; exact ⟨rfl, rfl⟩)
    (fun os started H enc _ => lifted os started H enc)
theorem proved : Rows.SumSwapSaid := over
#print axioms proved
end Go.Proofs.Ytplimhmdhgkplaa.sumSwap
