/-
  The statement NearBoundsSaid of this seat, proved: for every input the law returns true and its arguments read behind the call as before. Conditions: none but the row's own (each argument within the reach).
-/
import Derived.Test.YtiaoffaaflmgiaaRows
import Derived.Test.YtiaoffaaflmgiaaWords
import Derived.WalkKit
import Derived.ProofKit
import Derived.OpenShut
import Derived.ShutString
import Derived.ChangeOld
import Derived.Below
import Derived.SizedLaws
import Derived.Lib.Hide
import Derived.Test.YtiaoffaaflmgiaaNearK
import Derived.Deep.QuietTactic
import Derived.BigQuiet
namespace Go.Proofs.Ytiaoffaaflmgiaa.nearBounds
open Go.ChangeShapes Go.WideShapes Go.ChangeAt Go.RowKit Go.IntWalk Go.Proofs.Ytiaoffaaflmgiaa.Wd
open Go.ChangeMaps (open_string shut_string)
set_option linter.unusedVariables false

theorem own : ownKnob Try.prog.godebug = none := by kernel_rfl
theorem laidOut : laidOutB Try.prog = true := by kernel_rfl
open Go.Proofs.Ytiaoffaaflmgiaa.Wo Go.Proofs.Ytiaoffaaflmgiaa.Ne
theorem bounds_of (v z : List Int) : (com v z).length ≤ v.length ∧ (com v z).length ≤ z.length ∧ v.length ≤ z.length + lev v z ∧ z.length ≤ v.length + lev v z ∧ lev v z ≤ max v.length z.length ∧
    lev v z ≤ (v.length - (com v z).length) + (z.length - (com v z).length) ∧ v.length ≤ (com v z).length + lev v z ∧ z.length ≤ (com v z).length + lev v z := by
  have h := com_best v z
  obtain ⟨c, h1, h2, h3, h4⟩ := al_com (al_lev v z)
  have h5 := ll_ge v z c h1 h2
  rw [← com_len] at h5
  exact ⟨h.left.length_le, h.right.length_le, (lev_len v z).1, (lev_len v z).2, lev_max v z, lev_com h.left h.right, by omega, by omega⟩

set_option maxRecDepth 100000 in
set_option maxHeartbeats 4000000 in
theorem walk (a0 : Int) (A1 : Option Addr) (c1 : Nat) (z1 : List Int) (A2 : Option Addr) (c2 : Nat) (z2 : List Int) (w : World) (l0 : -9223372036854775808 ≤ a0) (h0 : a0 ≤ 9223372036854775807) (v1 : IntsAt w w.heap.size A1 z1) (r1 : z1.length ≤ 17592186043904) (m1 : z1.length ≤ c1) (v2 : IntsAt w w.heap.size A2 z2) (r2 : z2.length ≤ 17592186043904) (m2 : z2.length ≤ c2) :
    Calls Try.prog 5 #[.int .i64 a0, .slice A1 z1.length c1, .slice A2 z2.length c2] w fun e w' => e = .returned (.bool true) ∧ Below w.heap.size w w' := by
  have hL : Small a0 := ⟨l0, h0⟩
  have V1 := Lib.hid v1
  have V2 := Lib.hid v2
  by_cases f12 : Fine a0 z1 ∧ Fine a0 z2
  · obtain ⟨f1, f2⟩ := f12
    have HD := Lib.hid (fun W (h : IntsAt W W.heap.size A1 z1) (k : IntsAt W W.heap.size A2 z2) => dist_ok (c := c1) (d := c2) hL h k f1 f2)
    have HC := Lib.hid (fun W (h : IntsAt W W.heap.size A1 z1) (k : IntsAt W W.heap.size A2 z2) => com_ok (c := c1) (d := c2) hL h k f1 f2 m1 m2)
    obtain ⟨b1, b2, b3, b4, b5, b6, b7, b8⟩ := bounds_of z1 z2
    have k1 := f1.2.1
    have k2 := f2.2.1
    clear f1 f2 v1 v2
    generalize com z1 z2 = C at *
    generalize lev z1 z2 = D at *
    have i1 : (C.length : Int) ≤ (z1.length : Int) := by omega
    have i2 : (C.length : Int) ≤ (z2.length : Int) := by omega
    have i6 : (D : Int) ≤ (z1.length : Int) - (C.length : Int) + (z2.length : Int) - (C.length : Int) := by omega
    by_cases hlt : z1.length < z2.length
    · have i0 : (z1.length : Int) - (z2.length : Int) < 0 := by omega
      have i3 : -((z1.length : Int) - (z2.length : Int)) ≤ (D : Int) := by omega
      have i4 : (D : Int) ≤ (z2.length : Int) := by omega
      have i5 : (z2.length : Int) - (C.length : Int) ≤ (D : Int) := by omega
      clear b1 b2 b3 b4 b5 b6 b7 b8
      go_enter Try.func5, Try.ntmps5
      go_wp2_with fail
      refine (HD.out _ V1.out V2.out).mono ?_
      rintro e u1 ⟨rfl, hb⟩
      have B1 := Lib.hid hb
      clear hb  HD 
      go_wp2_with fail
      refine (HC.out _ (V1.out.on B1.out) (V2.out.on B1.out)).mono ?_
      rintro e u2 ⟨X, n, rfl, hx, hb⟩
      have B2 := Lib.hid (B1.out.trans (hb.mono B1.out.size))
      clear hb  HC B1
      clear hx
      go_wp2
      go_ret
      exact ⟨rfl, B2.out⟩
    · have i0 : ¬ ((z1.length : Int) - (z2.length : Int) < 0) := by omega
      have i3 : (z1.length : Int) - (z2.length : Int) ≤ (D : Int) := by omega
      have i4 : (D : Int) ≤ (z1.length : Int) := by omega
      have i5 : (z1.length : Int) - (C.length : Int) ≤ (D : Int) := by omega
      clear b1 b2 b3 b4 b5 b6 b7 b8
      go_enter Try.func5, Try.ntmps5
      go_wp2_with fail
      refine (HD.out _ V1.out V2.out).mono ?_
      rintro e u1 ⟨rfl, hb⟩
      have B1 := Lib.hid hb
      clear hb  HD 
      go_wp2_with fail
      refine (HC.out _ (V1.out.on B1.out) (V2.out.on B1.out)).mono ?_
      rintro e u2 ⟨X, n, rfl, hx, hb⟩
      have B2 := Lib.hid (B1.out.trans (hb.mono B1.out.size))
      clear hb  HC B1
      clear hx
      go_wp2
      go_ret
      exact ⟨rfl, B2.out⟩
  · have HD := Lib.hid (fun W (h : IntsAt W W.heap.size A1 z1) (k : IntsAt W W.heap.size A2 z2) => dist_bad (c := c1) (d := c2) hL h k (by omega) (by omega) f12)
    have HC := Lib.hid (fun W (h : IntsAt W W.heap.size A1 z1) (k : IntsAt W W.heap.size A2 z2) => com_bad (c := c1) (d := c2) hL h k (by omega) (by omega) m1 m2 f12)
    clear f12 v1 v2
    go_enter Try.func5, Try.ntmps5
    go_wp2_with fail
    refine (HD.out _ V1.out V2.out).mono ?_
    rintro e u1 ⟨⟨k1, rfl⟩, hb⟩
    have B1 := Lib.hid hb
    clear hb  HD 
    go_wp2_with fail
    refine (HC.out _ (V1.out.on B1.out) (V2.out.on B1.out)).mono ?_
    rintro e u2 ⟨X, n, i, rfl, hb⟩
    have B2 := Lib.hid (B1.out.trans (hb.mono B1.out.size))
    clear hb  HC B1
    go_wp2_with fail
    go_quiet (fail)
    go_wp2
    go_ret
    exact ⟨rfl, below_drewN B2.out _⟩


set_option maxRecDepth 100000 in
theorem lifted (os : Os) (started : os.Started) (H : Type) (enc : TypeId × Value → H) :
    ReturnsInHanded {} Try.checked os 5 .any (Rows.nearBoundsSpec.pre6 enc Try.prog Try.f5 Rows.nearBoundsRow.domain false) (Rows.nearBoundsSpec.post enc Try.prog Try.f5 false true false false) := by
  refine returnsInHanded_of_change_sized (C := Try.checked) own started (by kernel_rfl) Try.func5
    (ChangeSpec.witness6 (enc := enc) (C := Try.checked) false ⟨#[], #[.int .i64 0, .slice none 0 0, .slice none 0 0], []⟩ 8 (by kernel_rfl) (by kernel_rfl) (by kernel_rfl) (by kernel_rfl)) ?_
  intro W base args ds gs before hval0 hW hcnd hsz0 _
  have hval : ∀ (j : Nat) t v, Try.f5.params[j]? = some t → args[j]? = some v → Value.okWide Try.prog W .any base t v := hval0
  have hsz : (DataW.weightsEach Try.prog (Try.f5.params.toList ++ Rows.nearBoundsSpec.plain.varTypes Try.prog) (ds ++ gs)).all (· ≤ reachBytes) = true := hsz0
  have hW' := hW
  obtain ⟨p, q, hA0, hV0, rfl, hfz, hnd⟩ := hW
  have hV : DataW.TrodVars enc Try.prog W (fun _ => true) [] gs q := hV0
  have hA : DataW.TrodAll enc Try.prog W 0 (fun _ => true) true Try.f5.params.toList args.toList ds p := hA0
  rw [Try.params5] at hA hval hsz
  obtain ⟨v0, vs0, d0, ds0, p0, q0, hargs, rfl, rfl, h0, rr0⟩ := trodAll_cons hA
  obtain ⟨v1, vs1, d1, ds1, p1, q1, rfl, rfl, rfl, h1, rr1⟩ := trodAll_cons rr0
  obtain ⟨v2, vs2, d2, ds2, p2, q2, rfl, rfl, rfl, h2, rr2⟩ := trodAll_cons rr1
  obtain ⟨rfl, rfl, rfl⟩ := trodAll_nil rr2
  obtain rfl : args = #[v0, v1, v2] := by cases args; simp_all
  obtain ⟨rfl, rfl⟩ := trodVars_none hV
  have k0 := h0
  have lt0 : ∀ x ∈ p0, x.block < W.heap.size := by obtain ⟨m, hm⟩ := k0; exact DataW.trod_lt m _ _ _ hm
  have k1 := h1
  have lt1 : ∀ x ∈ p1, x.block < W.heap.size := by obtain ⟨m, hm⟩ := k1; exact DataW.trod_lt m _ _ _ hm
  have k2 := h2
  have lt2 : ∀ x ∈ p2, x.block < W.heap.size := by obtain ⟨m, hm⟩ := k2; exact DataW.trod_lt m _ _ _ hm
  obtain ⟨a0, rfl, rfl, rfl, w0⟩ := open_int Try.underlying3 (hval 0 3 v0 rfl rfl) h0
  obtain ⟨l0, hh0⟩ := bounds_i64 w0
  obtain ⟨A1, len1, c1, rfl⟩ := okWide_slice Try.underlying22 (hval 1 22 v1 rfl rfl)
  obtain ⟨z1, rfl, x1, r1, m1⟩ : ∃ zs : List Int, len1 = zs.length ∧ IntsAt W W.heap.size A1 zs ∧ zs.length ≤ 17592186043904 ∧ zs.length ≤ c1 := by
    obtain ⟨fuel, hf⟩ := h1
    rcases open_ints Try.underlying22 Try.underlying3 (by kernel_rfl) hf with ⟨hcs, _⟩ | ⟨x, l, c, zs, hcs, _, hl, hm, hz, hx, hcell, hwz⟩
    · simp [Value.cells] at hcs
      obtain ⟨rfl, rfl, rfl⟩ := hcs
      exact ⟨[], rfl, IntsAt.nil _ _ _, by simp, by simp⟩
    · simp [Value.cells] at hcs
      obtain ⟨rfl, rfl, rfl⟩ := hcs
      have hd := congrArg Prod.fst hx
      simp only at hd
      have := sized_slice hsz (j := 1) (t := 22) (e := 3) rfl (by rw [hd]; rfl) Try.underlying22
      rw [(show Try.prog.bytesOf 3 = 8 by kernel_rfl)] at this
      simp only [reachBytes, lits, List.length_map, List.length_take, List.length_drop] at this
      have hz' : zs.length = c1 := by simpa using hz
      exact ⟨zs.take len1, by rw [List.length_take]; omega, intsAt_of_open hcell hwz len1, by rw [List.length_take]; omega, by rw [List.length_take]; omega⟩
  obtain ⟨A2, len2, c2, rfl⟩ := okWide_slice Try.underlying22 (hval 2 22 v2 rfl rfl)
  obtain ⟨z2, rfl, x2, r2, m2⟩ : ∃ zs : List Int, len2 = zs.length ∧ IntsAt W W.heap.size A2 zs ∧ zs.length ≤ 17592186043904 ∧ zs.length ≤ c2 := by
    obtain ⟨fuel, hf⟩ := h2
    rcases open_ints Try.underlying22 Try.underlying3 (by kernel_rfl) hf with ⟨hcs, _⟩ | ⟨x, l, c, zs, hcs, _, hl, hm, hz, hx, hcell, hwz⟩
    · simp [Value.cells] at hcs
      obtain ⟨rfl, rfl, rfl⟩ := hcs
      exact ⟨[], rfl, IntsAt.nil _ _ _, by simp, by simp⟩
    · simp [Value.cells] at hcs
      obtain ⟨rfl, rfl, rfl⟩ := hcs
      have hd := congrArg Prod.fst hx
      simp only at hd
      have := sized_slice hsz (j := 2) (t := 22) (e := 3) rfl (by rw [hd]; rfl) Try.underlying22
      rw [(show Try.prog.bytesOf 3 = 8 by kernel_rfl)] at this
      simp only [reachBytes, lits, List.length_map, List.length_take, List.length_drop] at this
      have hz' : zs.length = c2 := by simpa using hz
      exact ⟨zs.take len2, by rw [List.length_take]; omega, intsAt_of_open hcell hwz len2, by rw [List.length_take]; omega, by rw [List.length_take]; omega⟩
  clear hA0 hval0
  refine (walk a0 A1 c1 z1 A2 c2 z2 W l0 hh0 x1 r1 m1 x2 r2 m2).mono fun e W' ⟨he, bel⟩ => ?_
  subst he
  exact ⟨_, rfl, _, _, _, [], _, [], hW', trodAll_mk1 (shut_bool Try.underlying4 _), (trodAll_cons_mk (Below.trod laidOut (by kernel_rfl) (of_decide_eq_true (by kernel_rfl)) k0 bel lt0) (trodAll_cons_mk (Below.trod laidOut (by kernel_rfl) (of_decide_eq_true (by kernel_rfl)) k1 bel lt1) (trodAll_cons_mk (Below.trod laidOut (by kernel_rfl) (of_decide_eq_true (by kernel_rfl)) k2 bel lt2) trodAll_mk0))), rfl, bel.frame _, fun h => by cases h⟩

theorem over : Rows.nearBoundsRow.holds Try.pinned (OpenSpec.ofChange Rows.nearBoundsSpec) :=
  OpenClaim.holds_of_wide 5 Try.f5 rfl rfl rfl rfl rfl rfl rfl ⟨rfl, rfl, rfl, rfl, rfl⟩ rfl rfl rfl rfl rfl (by kernel_rfl) Try.func5 (by kernel_rfl)
    (of_decide_eq_true (by kernel_rfl)) (by unfold Func.isWrapper; rw [if_neg (of_decide_eq_false (by kernel_rfl))]; exact ⟨rfl, rfl⟩)
    (fun os started H enc _ => lifted os started H enc)
theorem proved : Rows.NearBoundsSaid := over
#print axioms proved
end Go.Proofs.Ytiaoffaaflmgiaa.nearBounds
