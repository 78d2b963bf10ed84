/-
  The statement NearMetricSaid of this seat, proved: for every input the law returns true and its arguments read behind the call as before. Conditions: none but the row's own (each argument within the reach).
-/
import Derived.Test.YtiaoffaaflmgiaaRows
import Derived.Test.YtiaoffaaflmgiaaWords
import Derived.WalkKit
import Derived.ProofKit
import Derived.OpenShut
import Derived.ShutString
import Derived.ChangeOld
import Derived.Below
import Derived.SizedLaws
import Derived.Lib.Hide
import Derived.Test.YtiaoffaaflmgiaaNearK
import Derived.Deep.QuietTactic
import Derived.BigQuiet
namespace Go.Proofs.Ytiaoffaaflmgiaa.nearMetric
open Go.ChangeShapes Go.WideShapes Go.ChangeAt Go.RowKit Go.IntWalk Go.Proofs.Ytiaoffaaflmgiaa.Wd
open Go.ChangeMaps (open_string shut_string)
set_option linter.unusedVariables false

theorem own : ownKnob Try.prog.godebug = none := by kernel_rfl
theorem laidOut : laidOutB Try.prog = true := by kernel_rfl
open Go.Proofs.Ytiaoffaaflmgiaa.Wo Go.Proofs.Ytiaoffaaflmgiaa.Ne

set_option maxRecDepth 100000 in
set_option maxHeartbeats 4000000 in
theorem walk (a0 : Int) (A1 : Option Addr) (c1 : Nat) (z1 : List Int) (A2 : Option Addr) (c2 : Nat) (z2 : List Int) (A3 : Option Addr) (c3 : Nat) (z3 : List Int) (w : World) (l0 : -9223372036854775808 ≤ a0) (h0 : a0 ≤ 9223372036854775807) (v1 : IntsAt w w.heap.size A1 z1) (r1 : z1.length ≤ 17592186043904) (v2 : IntsAt w w.heap.size A2 z2) (r2 : z2.length ≤ 17592186043904) (v3 : IntsAt w w.heap.size A3 z3) (r3 : z3.length ≤ 17592186043904) :
    Calls Try.prog 3 #[.int .i64 a0, .slice A1 z1.length c1, .slice A2 z2.length c2, .slice A3 z3.length c3] w fun e w' => e = .returned (.bool true) ∧ Below w.heap.size w w' := by
  have hL : Small a0 := ⟨l0, h0⟩
  have V1 := Lib.hid v1
  have V2 := Lib.hid v2
  have V3 := Lib.hid v3
  by_cases f12 : Fine a0 z1 ∧ Fine a0 z2
  · obtain ⟨f1, f2⟩ := f12
    have HA := Lib.hid (fun W (h : IntsAt W W.heap.size A1 z1) (k : IntsAt W W.heap.size A2 z2) => dist_ok (c := c1) (d := c2) hL h k f1 f2)
    have HB := Lib.hid (fun W (h : IntsAt W W.heap.size A1 z1) (k : IntsAt W W.heap.size A2 z2) => dist_ok (c := c2) (d := c1) hL k h f2 f1)
    rw [lev_symm z2 z1] at HB
    have HI := Lib.hid (fun W (h : IntsAt W W.heap.size A1 z1) (k : IntsAt W W.heap.size A2 z2) => ints_any A1 A2 c1 c2 z1 z2 W h k (by omega) (by omega))
    have hz : (((lev z1 z2 : Nat) : Int) == 0) = decide (z1 = z2) := by
      rw [Bool.eq_iff_iff, beq_iff_eq, decide_eq_true_iff, ← lev_zero]; omega
    have hbb : ∀ b : Bool, (b != b) = false := by intro b; cases b <;> rfl
    have hb2 := hbb (decide (z1 = z2))
    by_cases f3 : Fine a0 z3
    · have HC := Lib.hid (fun W (h : IntsAt W W.heap.size A2 z2) (k : IntsAt W W.heap.size A3 z3) => dist_ok (c := c2) (d := c3) hL h k f2 f3)
      have HD := Lib.hid (fun W (h : IntsAt W W.heap.size A1 z1) (k : IntsAt W W.heap.size A3 z3) => dist_ok (c := c1) (d := c3) hL h k f1 f3)
      have HM := Lib.hid (fun W (h : IntsAt W W.heap.size A1 z1) => mirror_ok (c := c1) hL h f1)
      have HN := Lib.hid (fun W (h : IntsAt W W.heap.size A2 z2) => mirror_ok (c := c2) hL h f2)
      have HZ := Lib.hid (fun W X Y k l (h : IntsAt W W.heap.size X z1.reverse) (h' : IntsAt W W.heap.size Y z2.reverse) => dist_ok (c := k) (d := l) hL h h' (reverse_fine f1) (reverse_fine f2))
      rw [lev_rev] at HZ
      have ht := lev_tri z1 z2 z3
      have hl1 : z1.reverse.length ≤ 80 := by rw [List.length_reverse]; exact f1.2.1
      have hl2 : z2.reverse.length ≤ 80 := by rw [List.length_reverse]; exact f2.2.1
      have b1 := lev_max z1 z2
      have b2 := lev_max z2 z3
      have b3 := lev_max z1 z3
      have m1 := f1.2.1
      have m2 := f2.2.1
      have m3 := f3.2.1
      clear f1 f2 f3 v1 v2 v3 hbb
      generalize z1.reverse = R1 at *
      generalize z2.reverse = R2 at *
      generalize lev z1 z2 = X at *
      generalize lev z2 z3 = Y at *
      generalize lev z1 z3 = Z at *
      have hw : (Z : Int) ≤ (X : Int) + (Y : Int) := by omega
      generalize decide (z1 = z2) = same at *
      go_enter Try.func3, Try.ntmps3
      go_wp2_with fail
      refine (HA.out _ V1.out V2.out).mono ?_
      rintro e w1 ⟨rfl, hb⟩
      have B1 := Lib.hid hb
      clear hb HA
      go_wp2_with fail
      refine (HB.out _ (V1.out.on B1.out) (V2.out.on B1.out)).mono ?_
      rintro e w2 ⟨rfl, hb⟩
      have B2 := Lib.hid (B1.out.trans (hb.mono B1.out.size))
      clear hb HB B1
      go_wp2_with fail
      refine (HI.out _ (V1.out.on B2.out) (V2.out.on B2.out)).mono ?_
      rintro e w3 ⟨he, n, rfl⟩
      obtain rfl := he.out
      have B3 := Lib.hid (below_drewN B2.out n)
      clear he HI B2
      generalize w2.drewN n = w3 at *
      go_wp2_with fail
      refine (HC.out _ (V2.out.on B3.out) (V3.out.on B3.out)).mono ?_
      rintro e w4 ⟨rfl, hb⟩
      have B4 := Lib.hid (B3.out.trans (hb.mono B3.out.size))
      clear hb HC B3
      go_wp2_with fail
      refine (HD.out _ (V1.out.on B4.out) (V3.out.on B4.out)).mono ?_
      rintro e w5 ⟨rfl, hb⟩
      have B5 := Lib.hid (B4.out.trans (hb.mono B4.out.size))
      clear hb HD B4
      go_wp2_with fail
      refine (HM.out _ (V1.out.on B5.out)).mono ?_
      rintro e w6 ⟨X1, k1, rfl, hx, hb⟩
      have HX1 := Lib.hid hx
      have B6 := Lib.hid (B5.out.trans (hb.mono B5.out.size))
      clear hb hx HM B5
      go_wp2_with fail
      refine (HN.out _ (V2.out.on B6.out)).mono ?_
      rintro e w7 ⟨X2, k2, rfl, hx, hb⟩
      have HX1 := Lib.hid (HX1.out.on hb)
      have HX2 := Lib.hid hx
      have B7 := Lib.hid (B6.out.trans (hb.mono B6.out.size))
      clear hb hx HN B6
      go_wp2_with fail
      refine (HZ.out _ X1 X2 k1 k2 HX1.out HX2.out).mono ?_
      rintro e w8 ⟨rfl, hb⟩
      have B8 := Lib.hid (B7.out.trans (hb.mono B7.out.size))
      clear hb HZ B7
      go_wp2
      go_ret
      exact ⟨rfl, B8.out⟩
    · have HC := Lib.hid (fun W (h : IntsAt W W.heap.size A2 z2) (k : IntsAt W W.heap.size A3 z3) => dist_bad (c := c2) (d := c3) hL h k (by omega) (by omega) (fun q => f3 q.2))
      have HD := Lib.hid (fun W (h : IntsAt W W.heap.size A1 z1) (k : IntsAt W W.heap.size A3 z3) => dist_bad (c := c1) (d := c3) hL h k (by omega) (by omega) (fun q => f3 q.2))
      clear f1 f2 f3 v1 v2 v3 hbb
      generalize lev z1 z2 = X at *
      generalize decide (z1 = z2) = same at *
      go_enter Try.func3, Try.ntmps3
      go_wp2_with fail
      refine (HA.out _ V1.out V2.out).mono ?_
      rintro e w1 ⟨rfl, hb⟩
      have B1 := Lib.hid hb
      clear hb HA
      go_wp2_with fail
      refine (HB.out _ (V1.out.on B1.out) (V2.out.on B1.out)).mono ?_
      rintro e w2 ⟨rfl, hb⟩
      have B2 := Lib.hid (B1.out.trans (hb.mono B1.out.size))
      clear hb HB B1
      go_wp2_with fail
      refine (HI.out _ (V1.out.on B2.out) (V2.out.on B2.out)).mono ?_
      rintro e w3 ⟨he, n, rfl⟩
      obtain rfl := he.out
      have B3 := Lib.hid (below_drewN B2.out n)
      clear he HI B2
      generalize w2.drewN n = w3 at *
      go_wp2_with fail
      refine (HC.out _ (V2.out.on B3.out) (V3.out.on B3.out)).mono ?_
      rintro e w4 ⟨⟨k1, rfl⟩, hb⟩
      have B4 := Lib.hid (B3.out.trans (hb.mono B3.out.size))
      clear hb HC B3
      go_wp2_with fail
      refine (HD.out _ (V1.out.on B4.out) (V3.out.on B4.out)).mono ?_
      rintro e w5 ⟨⟨k2, rfl⟩, hb⟩
      have B5 := Lib.hid (B4.out.trans (hb.mono B4.out.size))
      clear hb HD B4
      go_wp2_with fail
      go_quiet (fail)
      go_wp2
      go_ret
      exact ⟨rfl, below_drewN B5.out _⟩
  · have HA := Lib.hid (fun W (h : IntsAt W W.heap.size A1 z1) (k : IntsAt W W.heap.size A2 z2) => dist_bad (c := c1) (d := c2) hL h k (by omega) (by omega) f12)
    have HB := Lib.hid (fun W (h : IntsAt W W.heap.size A1 z1) (k : IntsAt W W.heap.size A2 z2) => dist_bad (c := c2) (d := c1) hL k h (by omega) (by omega) (fun q => f12 ⟨q.2, q.1⟩))
    clear f12 v1 v2 v3
    go_enter Try.func3, Try.ntmps3
    go_wp2_with fail
    refine (HA.out _ V1.out V2.out).mono ?_
    rintro e w1 ⟨⟨k1, rfl⟩, hb⟩
    have B1 := Lib.hid hb
    clear hb HA
    go_wp2_with fail
    refine (HB.out _ (V1.out.on B1.out) (V2.out.on B1.out)).mono ?_
    rintro e w2 ⟨⟨k2, rfl⟩, hb⟩
    have B2 := Lib.hid (B1.out.trans (hb.mono B1.out.size))
    clear hb HB B1
    go_wp2_with fail
    go_quiet (fail)
    go_wp2
    go_ret
    exact ⟨rfl, below_drewN B2.out _⟩


set_option maxRecDepth 100000 in
theorem lifted (os : Os) (started : os.Started) (H : Type) (enc : TypeId × Value → H) :
    ReturnsInHanded {} Try.checked os 3 .any (Rows.nearMetricSpec.pre6 enc Try.prog Try.f3 Rows.nearMetricRow.domain false) (Rows.nearMetricSpec.post enc Try.prog Try.f3 false true false false) := by
  refine returnsInHanded_of_change_sized (C := Try.checked) own started (by kernel_rfl) Try.func3
    (ChangeSpec.witness6 (enc := enc) (C := Try.checked) false ⟨#[], #[.int .i64 0, .slice none 0 0, .slice none 0 0, .slice none 0 0], []⟩ 8 (by kernel_rfl) (by kernel_rfl) (by kernel_rfl) (by kernel_rfl)) ?_
  intro W base args ds gs before hval0 hW hcnd hsz0 _
  have hval : ∀ (j : Nat) t v, Try.f3.params[j]? = some t → args[j]? = some v → Value.okWide Try.prog W .any base t v := hval0
  have hsz : (DataW.weightsEach Try.prog (Try.f3.params.toList ++ Rows.nearMetricSpec.plain.varTypes Try.prog) (ds ++ gs)).all (· ≤ reachBytes) = true := hsz0
  have hW' := hW
  obtain ⟨p, q, hA0, hV0, rfl, hfz, hnd⟩ := hW
  have hV : DataW.TrodVars enc Try.prog W (fun _ => true) [] gs q := hV0
  have hA : DataW.TrodAll enc Try.prog W 0 (fun _ => true) true Try.f3.params.toList args.toList ds p := hA0
  rw [Try.params3] at hA hval hsz
  obtain ⟨v0, vs0, d0, ds0, p0, q0, hargs, rfl, rfl, h0, rr0⟩ := trodAll_cons hA
  obtain ⟨v1, vs1, d1, ds1, p1, q1, rfl, rfl, rfl, h1, rr1⟩ := trodAll_cons rr0
  obtain ⟨v2, vs2, d2, ds2, p2, q2, rfl, rfl, rfl, h2, rr2⟩ := trodAll_cons rr1
  obtain ⟨v3, vs3, d3, ds3, p3, q3, rfl, rfl, rfl, h3, rr3⟩ := trodAll_cons rr2
  obtain ⟨rfl, rfl, rfl⟩ := trodAll_nil rr3
  obtain rfl : args = #[v0, v1, v2, v3] := by cases args; simp_all
  obtain ⟨rfl, rfl⟩ := trodVars_none hV
  have k0 := h0
  have lt0 : ∀ x ∈ p0, x.block < W.heap.size := by obtain ⟨m, hm⟩ := k0; exact DataW.trod_lt m _ _ _ hm
  have k1 := h1
  have lt1 : ∀ x ∈ p1, x.block < W.heap.size := by obtain ⟨m, hm⟩ := k1; exact DataW.trod_lt m _ _ _ hm
  have k2 := h2
  have lt2 : ∀ x ∈ p2, x.block < W.heap.size := by obtain ⟨m, hm⟩ := k2; exact DataW.trod_lt m _ _ _ hm
  have k3 := h3
  have lt3 : ∀ x ∈ p3, x.block < W.heap.size := by obtain ⟨m, hm⟩ := k3; exact DataW.trod_lt m _ _ _ hm
  obtain ⟨a0, rfl, rfl, rfl, w0⟩ := open_int Try.underlying3 (hval 0 3 v0 rfl rfl) h0
  obtain ⟨l0, hh0⟩ := bounds_i64 w0
  obtain ⟨A1, len1, c1, rfl⟩ := okWide_slice Try.underlying22 (hval 1 22 v1 rfl rfl)
  obtain ⟨z1, rfl, x1, r1⟩ : ∃ zs : List Int, len1 = zs.length ∧ IntsAt W W.heap.size A1 zs ∧ zs.length ≤ 17592186043904 := by
    obtain ⟨fuel, hf⟩ := h1
    rcases open_ints Try.underlying22 Try.underlying3 (by kernel_rfl) hf with ⟨hcs, _⟩ | ⟨x, l, c, zs, hcs, _, hl, hm, hz, hx, hcell, hwz⟩
    · simp [Value.cells] at hcs
      obtain ⟨rfl, rfl, rfl⟩ := hcs
      exact ⟨[], rfl, IntsAt.nil _ _ _, by simp⟩
    · simp [Value.cells] at hcs
      obtain ⟨rfl, rfl, rfl⟩ := hcs
      have hd := congrArg Prod.fst hx
      simp only at hd
      have := sized_slice hsz (j := 1) (t := 22) (e := 3) rfl (by rw [hd]; rfl) Try.underlying22
      rw [(show Try.prog.bytesOf 3 = 8 by kernel_rfl)] at this
      simp only [reachBytes, lits, List.length_map, List.length_take, List.length_drop] at this
      have hz' : zs.length = c1 := by simpa using hz
      exact ⟨zs.take len1, by rw [List.length_take]; omega, intsAt_of_open hcell hwz len1, by rw [List.length_take]; omega⟩
  obtain ⟨A2, len2, c2, rfl⟩ := okWide_slice Try.underlying22 (hval 2 22 v2 rfl rfl)
  obtain ⟨z2, rfl, x2, r2⟩ : ∃ zs : List Int, len2 = zs.length ∧ IntsAt W W.heap.size A2 zs ∧ zs.length ≤ 17592186043904 := by
    obtain ⟨fuel, hf⟩ := h2
    rcases open_ints Try.underlying22 Try.underlying3 (by kernel_rfl) hf with ⟨hcs, _⟩ | ⟨x, l, c, zs, hcs, _, hl, hm, hz, hx, hcell, hwz⟩
    · simp [Value.cells] at hcs
      obtain ⟨rfl, rfl, rfl⟩ := hcs
      exact ⟨[], rfl, IntsAt.nil _ _ _, by simp⟩
    · simp [Value.cells] at hcs
      obtain ⟨rfl, rfl, rfl⟩ := hcs
      have hd := congrArg Prod.fst hx
      simp only at hd
      have := sized_slice hsz (j := 2) (t := 22) (e := 3) rfl (by rw [hd]; rfl) Try.underlying22
      rw [(show Try.prog.bytesOf 3 = 8 by kernel_rfl)] at this
      simp only [reachBytes, lits, List.length_map, List.length_take, List.length_drop] at this
      have hz' : zs.length = c2 := by simpa using hz
      exact ⟨zs.take len2, by rw [List.length_take]; omega, intsAt_of_open hcell hwz len2, by rw [List.length_take]; omega⟩
  obtain ⟨A3, len3, c3, rfl⟩ := okWide_slice Try.underlying22 (hval 3 22 v3 rfl rfl)
  obtain ⟨z3, rfl, x3, r3⟩ : ∃ zs : List Int, len3 = zs.length ∧ IntsAt W W.heap.size A3 zs ∧ zs.length ≤ 17592186043904 := by
    obtain ⟨fuel, hf⟩ := h3
    rcases open_ints Try.underlying22 Try.underlying3 (by kernel_rfl) hf with ⟨hcs, _⟩ | ⟨x, l, c, zs, hcs, _, hl, hm, hz, hx, hcell, hwz⟩
    · simp [Value.cells] at hcs
      obtain ⟨rfl, rfl, rfl⟩ := hcs
      exact ⟨[], rfl, IntsAt.nil _ _ _, by simp⟩
    · simp [Value.cells] at hcs
      obtain ⟨rfl, rfl, rfl⟩ := hcs
      have hd := congrArg Prod.fst hx
      simp only at hd
      have := sized_slice hsz (j := 3) (t := 22) (e := 3) rfl (by rw [hd]; rfl) Try.underlying22
      rw [(show Try.prog.bytesOf 3 = 8 by kernel_rfl)] at this
      simp only [reachBytes, lits, List.length_map, List.length_take, List.length_drop] at this
      have hz' : zs.length = c3 := by simpa using hz
      exact ⟨zs.take len3, by rw [List.length_take]; omega, intsAt_of_open hcell hwz len3, by rw [List.length_take]; omega⟩
  clear hA0 hval0
  refine (walk a0 A1 c1 z1 A2 c2 z2 A3 c3 z3 W l0 hh0 x1 r1 x2 r2 x3 r3).mono fun e W' ⟨he, bel⟩ => ?_
  subst he
  exact ⟨_, rfl, _, _, _, [], _, [], hW', trodAll_mk1 (shut_bool Try.underlying4 _), (trodAll_cons_mk (Below.trod laidOut (by kernel_rfl) (of_decide_eq_true (by kernel_rfl)) k0 bel lt0) (trodAll_cons_mk (Below.trod laidOut (by kernel_rfl) (of_decide_eq_true (by kernel_rfl)) k1 bel lt1) (trodAll_cons_mk (Below.trod laidOut (by kernel_rfl) (of_decide_eq_true (by kernel_rfl)) k2 bel lt2) (trodAll_cons_mk (Below.trod laidOut (by kernel_rfl) (of_decide_eq_true (by kernel_rfl)) k3 bel lt3) trodAll_mk0)))), rfl, bel.frame _, fun h => by cases h⟩

theorem over : Rows.nearMetricRow.holds Try.pinned (OpenSpec.ofChange Rows.nearMetricSpec) :=
  OpenClaim.holds_of_wide 3 Try.f3 rfl rfl rfl rfl rfl rfl rfl ⟨rfl, rfl, rfl, rfl, rfl⟩ rfl rfl rfl rfl rfl (by kernel_rfl) Try.func3 (by kernel_rfl)
    (of_decide_eq_true (by kernel_rfl)) (by unfold Func.isWrapper; rw [if_neg (of_decide_eq_false (by kernel_rfl))]; exact ⟨rfl, rfl⟩)
    (fun os started H enc _ => lifted os started H enc)
theorem proved : Rows.NearMetricSaid := over
#print axioms proved
end Go.Proofs.Ytiaoffaaflmgiaa.nearMetric
