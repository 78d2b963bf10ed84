/-
  The statement SumRollsUptoSaid of this seat, proved: for every input the law returns true and its arguments read behind the call as before. Conditions: none but the row's own (each argument within the reach).
-/
import Derived.Test.YtplimhmdhgkplaaRows
import Derived.JoinedCond
import Derived.Deep.CondSized
import Derived.Test.YtplimhmdhgkplaaWords
import Derived.WalkKit
import Derived.ProofKit
import Derived.OpenShut
import Derived.ShutString
import Derived.ChangeOld
import Derived.Below
import Derived.SizedLaws
import Derived.Lib.Hide
import Derived.Test.YtplimhmdhgkplaaSumW
import Derived.BigQuiet
namespace Go.Proofs.Ytplimhmdhgkplaa.sumRolls
open Go.ChangeShapes Go.WideShapes Go.ChangeAt Go.RowKit Go.IntWalk Go.Proofs.Ytplimhmdhgkplaa.Wd
open Go.ChangeMaps (open_string shut_string)
set_option linter.unusedVariables false

/-- What the bound gives: a text's length. -/
theorem le_of_bulk {H : Type} {l : List (DataW H)} (h : Rows.uptoBulkAll l ≤ 1048576) : ∀ (i : Nat) {bs : List UInt8}, l[i]? = some (.lit (.string bs)) → bs.length ≤ 1048576 := by
  have hp : ∀ (l : List (DataW H)) (i : Nat) (bs : List UInt8), l[i]? = some (.lit (.string bs)) → bs.length ≤ Rows.uptoBulkAll l := by
    intro l
    induction l with
    | nil => intro i bs h; simp at h
    | cons x r ih =>
      intro i bs hx
      simp only [Rows.uptoBulkAll]
      rcases i with _ | i
      · simp only [List.getElem?_cons_zero, Option.some.injEq] at hx
        subst hx
        simp only [Rows.uptoBulk]
        omega
      · have := ih i bs (by simpa using hx)
        omega
  exact fun i bs hx => Nat.le_trans (hp l i bs hx) h
theorem own : ownKnob Try.prog.godebug = none := by kernel_rfl
theorem laidOut : laidOutB Try.prog = true := by kernel_rfl
open Go.Proofs.Ytplimhmdhgkplaa.Sm Go.PlainAid

set_option maxRecDepth 100000 in
set_option maxHeartbeats 4000000 in
theorem walk (s0 : ByteArray) (a1 : Int) (w : World) (r0 : s0.size ≤ 140737488351232) (q0 : s0.size ≤ 1048576) (l1 : -9223372036854775808 ≤ a1) (h1 : a1 ≤ 9223372036854775807) :
    Calls Try.prog 7 #[.string s0, .int .i64 a1] w fun e w' => e = .returned (.bool true) ∧ Below w.heap.size w w' := by
  by_cases hi : 1 ≤ a1 ∧ a1 ≤ s0.size
  · obtain ⟨n, rfl⟩ := Int.eq_ofNat_of_zero_le (show 0 ≤ a1 by omega)
    have h1n : 1 ≤ n := by omega
    have hns : n ≤ s0.size := by omega
    clear hi
    have hbt := get_bt s0
    have hsub : ∀ (p k : Nat) (W : World), k ≤ s0.size → Calls Try.prog 8 #[.string (s0.extract p k)] W fun e w' => e = .returned (.int .i64 (sm (s0.extract p k).data.toList : Int)) ∧ W = w' := fun p k W hk => of_ok _ W (by rw [ByteArray.size_extract]; unfold maxLen; omega)
    have HS := Lib.hid hsub
    have HF := Lib.hid (hsub 0 n)
    clear hsub
    go_enter Try.func7, Try.ntmps7
    go_wp2_with fail
    refine (of_ab _).mono ?_
    rintro e w1 ⟨rfl, rfl⟩
    go_wp2_with fail
    refine (of_ac _).mono ?_
    rintro e w1 ⟨rfl, rfl⟩
    go_wp2_with fail
    refine (HF.out _ hns).mono ?_
    rintro e w1 ⟨rfl, rfl⟩
    obtain ⟨v0, HV0⟩ : ∃ v, Hid (sm (s0.extract 0 n).data.toList = v) := ⟨_, rfl⟩
    rw [HV0.out]
    have hv0 : v0 < 1000003 := by rw [← HV0.out]; exact sm_lt _
    go_wp2
    go_loopw [5, 6] (fun x i wr => ∃ (p k v : Nat), k ≤ s0.size ∧ k = p + n ∧ v < 1000003 ∧ x = .int .i64 v ∧ i = .int .i64 k ∧ Hid (sm (s0.extract p k).data.toList = v) ∧ Hid (Below w.heap.size w wr)) (fun _ i _ => s0.size - (intOf i).toNat)
    case atStart => exact ⟨0, n, v0, hns, by omega, hv0, rfl, rfl, HV0, Below.refl _ _⟩
    case round =>
      obtain ⟨p, k, v, hks, hk, hv, rfl, rfl, HV, HB⟩ := hrel
      by_cases hlt : k < s0.size
      · obtain ⟨o, c, ho, hc, hr⟩ := window s0 p n k hk (by omega) hlt
        rw [HV.out] at hr
        have HR := Lib.hid (fun W => roll_q v o.toNat c.toNat n W hv (by have := o.toNat_lt; omega) (by have := c.toNat_lt; omega) (by omega) (by omega))
        have HO := Lib.hid (fun W => HS.out (p + 1) (k + 1) W (by omega))
        have hy : rl v o.toNat c.toNat n < 1000003 := rl_lt _ _ _ _
        rw [← ho, ← hc] at HR
        have HY := Lib.hid hr
        rw [← hr] at HO
        generalize rl v o.toNat c.toNat n = y at *
        have hd1 : (k : Int) - (n : Int) = (p : Int) := by omega
        have hw1 : IntKind.i64.wrap ((k : Int) - (n : Int)) = (p : Int) := by rw [hd1]; exact IntWalk.i64_in _ ⟨by omega, by omega⟩
        have hp1 : (p : Int) < s0.size := by omega
        have hp2 : p < s0.size := by omega
        have hk1 : (k : Int) < s0.size := by omega
        have b0 := bt_nonneg s0 k
        have b1 := bt_le s0 k
        have b2 := bt_nonneg s0 p
        have b3 := bt_le s0 p
        have HK := Lib.hid hk
        have HD := Lib.hid hd1
        clear hk ho hc hr hd1
        go_wp2
        go_quiet ((go_at_call 10; with_reducible exact Calls.quiet_of_same (HR.out _)))
        clear hw1
        have hd1 := HD.out
        have hpk : p < k := by have := HK.out; omega
        have q1 : (k : Int) + 1 ≤ s0.size := by omega
        have q2 : ((k : Int) + 1).toNat = k + 1 := by omega
        have q3 : ((p : Int) + 1).toNat = p + 1 := by omega
        have q4 : (0 : Int) ≤ (p : Int) + 1 := by omega
        have q5 : (p : Int) + 1 ≤ (k : Int) + 1 := by omega
        have q6 : (0 : Int) ≤ (k : Int) + 1 := by omega
        go_wp2_with fail
        refine (HO.out _).mono ?_
        rintro e w1 ⟨rfl, rfl⟩
        clear q2 q3 hd1
        go_wp2
        go_roundw
        case rel => exact ⟨p + 1, k + 1, y, by omega, by have := HK.out; omega, hy, rfl, by go_num, HY.out.symm, below_drewN HB.out _⟩
        case measure => simp [intOf]; omega
      · go_wp2
        go_ret
        exact ⟨rfl, HB.out⟩
  · by_cases h : a1 < 1
    · go_enter Try.func7, Try.ntmps7
      go_wp2_with fail
      refine (of_ab _).mono ?_
      rintro e w1 ⟨rfl, rfl⟩
      go_wp2_with fail
      refine (of_ac _).mono ?_
      rintro e w1 ⟨rfl, rfl⟩
      go_wp2
      go_ret
      exact ⟨rfl, Below.refl _ _⟩
    · have h' : (s0.size : Int) < a1 := by omega
      go_enter Try.func7, Try.ntmps7
      go_wp2_with fail
      refine (of_ab _).mono ?_
      rintro e w1 ⟨rfl, rfl⟩
      go_wp2_with fail
      refine (of_ac _).mono ?_
      rintro e w1 ⟨rfl, rfl⟩
      go_wp2
      go_ret
      exact ⟨rfl, Below.refl _ _⟩


set_option maxRecDepth 100000 in
theorem lifted (os : Os) (started : os.Started) (H : Type) (enc : TypeId × Value → H) (FF : Stop.Interp) :
    ReturnsInHanded {} Try.checked os 7 .any ((Rows.OpenSpec.upto Rows.sumRollsSpec).pre6 enc Try.prog Try.f7 Rows.sumRollsUptoRow.domain false) (((Rows.OpenSpec.upto Rows.sumRollsSpec).at FF).post enc Try.prog Try.f7 false true false false) := by
  refine returnsInHanded_of_cond_sized (C := Try.checked) (s := Rows.OpenSpec.upto Rows.sumRollsSpec) (k := Rows.uptoSmall) rfl own started (by kernel_rfl) Try.func7
    (OpenSpec.witness (enc := enc) (C := Try.checked) (s := Rows.OpenSpec.upto Rows.sumRollsSpec) (k := Rows.uptoSmall) rfl false ⟨#[], #[.string ByteArray.empty, .int .i64 0], []⟩ 8 (by kernel_rfl) (by kernel_rfl) (by kernel_rfl) (x := ([.lit (.string []), .lit (.int .i64 0)], [], [])) (by kernel_rfl) rfl (by kernel_rfl)) ?_
  intro W base args ds gs before hval0 hW hcnd hk0 hsz0 _
  have hval : ∀ (j : Nat) t v, Try.f7.params[j]? = some t → args[j]? = some v → Value.okWide Try.prog W .any base t v := hval0
  have hsz : (DataW.weightsEach Try.prog (Try.f7.params.toList ++ Rows.sumRollsSpec.plain.varTypes Try.prog) (ds ++ gs)).all (· ≤ reachBytes) = true := hsz0
  have hW' := hW
  obtain ⟨p, q, hA0, hV0, rfl, hfz, hnd⟩ := hW
  have hV : DataW.TrodVars enc Try.prog W (fun _ => true) [] gs q := hV0
  have hA : DataW.TrodAll enc Try.prog W 0 (fun _ => true) true Try.f7.params.toList args.toList ds p := hA0
  rw [Try.params7] at hA hval hsz
  obtain ⟨v0, vs0, d0, ds0, p0, q0, hargs, rfl, rfl, h0, rr0⟩ := trodAll_cons hA
  obtain ⟨v1, vs1, d1, ds1, p1, q1, rfl, rfl, rfl, h1, rr1⟩ := trodAll_cons rr0
  obtain ⟨rfl, rfl, rfl⟩ := trodAll_nil rr1
  obtain rfl : args = #[v0, v1] := by cases args; simp_all
  obtain ⟨rfl, rfl⟩ := trodVars_none hV
  have k0 := h0
  have lt0 : ∀ x ∈ p0, x.block < W.heap.size := by obtain ⟨m, hm⟩ := k0; exact DataW.trod_lt m _ _ _ hm
  have k1 := h1
  have lt1 : ∀ x ∈ p1, x.block < W.heap.size := by obtain ⟨m, hm⟩ := k1; exact DataW.trod_lt m _ _ _ hm
  obtain ⟨s0, rfl, rfl, rfl, w0⟩ := open_string Try.underlying9 (hval 0 9 v0 rfl rfl) h0
  have r0 : s0.size ≤ 140737488351232 := by
    have := sized_string hsz (j := 0) (t := 9) rfl rfl
    simp only [reachBytes] at this
    simpa using this
  obtain ⟨a1, rfl, rfl, rfl, w1⟩ := open_int Try.underlying3 (hval 1 3 v1 rfl rfl) h1
  obtain ⟨l1, hh1⟩ := bounds_i64 w1
  clear hA0 hval0
  have hu : Rows.uptoBulkAll _ ≤ 1048576 := of_decide_eq_true hk0
  refine (walk s0 a1 W r0 (by rw [← data_len]; exact le_of_bulk hu 0 rfl) l1 hh1).mono fun e W' ⟨he, bel⟩ => ?_
  subst he
  exact ⟨_, rfl, _, _, _, [], _, [], hW', trodAll_mk1 (shut_bool Try.underlying4 _), (trodAll_cons_mk (Below.trod laidOut (by kernel_rfl) (of_decide_eq_true (by kernel_rfl)) k0 bel lt0) (trodAll_cons_mk (Below.trod laidOut (by kernel_rfl) (of_decide_eq_true (by kernel_rfl)) k1 bel lt1) trodAll_mk0)), rfl, bel.frame _, fun h => by cases h⟩

theorem over : Rows.sumRollsUptoRow.holds Try.pinned (Rows.OpenSpec.upto Rows.sumRollsSpec) :=
  OpenClaim.holds_of_cond 7 Try.f7 rfl rfl rfl rfl rfl rfl rfl ⟨rfl, rfl, rfl, rfl, rfl⟩ rfl rfl rfl rfl rfl (by kernel_rfl) Try.func7 (by kernel_rfl)
    (of_decide_eq_true (by kernel_rfl)) (by unfold Func.isWrapper; rw [if_neg (of_decide_eq_false (by kernel_rfl))]; exact ⟨rfl, rfl⟩)
    (fun os started H enc _ FF => lifted os started H enc FF)
theorem proved : Rows.SumRollsUptoSaid := over
#print axioms proved
end Go.Proofs.Ytplimhmdhgkplaa.sumRolls
