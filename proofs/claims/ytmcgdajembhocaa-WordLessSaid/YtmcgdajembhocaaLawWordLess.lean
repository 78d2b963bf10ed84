/-
  The statement WordLessSaid of this seat, proved: for every input the law returns true and its arguments read behind the call as before. Conditions: none but the row's own (each argument within the reach).
-/
import Derived.Test.YtmcgdajembhocaaRows
import Derived.Test.YtmcgdajembhocaaWords
import Derived.WalkKit
import Derived.ProofKit
import Derived.OpenShut
import Derived.ShutString
import Derived.ChangeOld
import Derived.Below
import Derived.SizedLaws
import Derived.Lib.Hide
import Derived.Test.YtmcgdajembhocaaWordL
import Derived.Deep.QuietTactic
import Derived.BigQuiet
namespace Go.Proofs.Ytmcgdajembhocaa.wordLess
open Go.ChangeShapes Go.WideShapes Go.ChangeAt Go.RowKit Go.IntWalk Go.Proofs.Ytmcgdajembhocaa.Wd
open Go.ChangeMaps (open_string shut_string)
set_option linter.unusedVariables false

theorem own : ownKnob Try.prog.godebug = none := by kernel_rfl
theorem laidOut : laidOutB Try.prog = true := by kernel_rfl
open Go.Proofs.Ytmcgdajembhocaa.Wo
theorem less_same {u v : List Int} : (lss u v = false ∧ lss v u = false) ↔ u = v :=
  ⟨fun h => lss_total h.1 h.2, fun h => by subst h; exact ⟨lss_irr u, lss_irr u⟩⟩

set_option maxRecDepth 100000 in
set_option maxHeartbeats 4000000 in
theorem walk (a0 : Int) (A1 : Option Addr) (c1 : Nat) (z1 : List Int) (A2 : Option Addr) (c2 : Nat) (z2 : List Int) (A3 : Option Addr) (c3 : Nat) (z3 : List Int) (w : World) (l0 : -9223372036854775808 ≤ a0) (h0 : a0 ≤ 9223372036854775807) (v1 : IntsAt w w.heap.size A1 z1) (r1 : z1.length ≤ 17592186043904) (v2 : IntsAt w w.heap.size A2 z2) (r2 : z2.length ≤ 17592186043904) (v3 : IntsAt w w.heap.size A3 z3) (r3 : z3.length ≤ 17592186043904) :
    Calls Try.prog 5 #[.int .i64 a0, .slice A1 z1.length c1, .slice A2 z2.length c2, .slice A3 z3.length c3] w fun e w' => e = .returned (.bool true) ∧ Below w.heap.size w w' := by
  have hL : Small a0 := ⟨l0, h0⟩
  have V1 := Lib.hid v1
  have V2 := Lib.hid v2
  have V3 := Lib.hid v3
  by_cases f12 : Fine a0 z1 ∧ Fine a0 z2
  · obtain ⟨f1, f2⟩ := f12
    have HX := Lib.hid (fun W (h : IntsAt W W.heap.size A1 z1) (k : IntsAt W W.heap.size A2 z2) => less_ok (c := c1) (d := c2) hL h k f1 f2)
    have HY := Lib.hid (fun W (h : IntsAt W W.heap.size A1 z1) (k : IntsAt W W.heap.size A2 z2) => less_ok (c := c2) (d := c1) hL k h f2 f1)
    have HS := Lib.hid (fun W (h : IntsAt W W.heap.size A1 z1) (k : IntsAt W W.heap.size A2 z2) => sub_ok (c := c1) (d := c2) hL h k f1 f2)
    have HI := Lib.hid (fun W (h : IntsAt W W.heap.size A1 z1) (k : IntsAt W W.heap.size A2 z2) => ints_any A1 A2 c1 c2 z1 z2 W h k (by omega) (by omega))
    obtain ⟨same, hsame⟩ : ∃ b, b = decide (z1 = z2) := ⟨_, rfl⟩
    rw [← hsame] at HI
    obtain ⟨x, hx⟩ : ∃ b, b = lss z1 z2 := ⟨_, rfl⟩
    obtain ⟨y, hy⟩ : ∃ b, b = lss z2 z1 := ⟨_, rfl⟩
    obtain ⟨sb, hsb⟩ : ∃ b, b = z1.isSublist z2 := ⟨_, rfl⟩
    have g1 : (x && y) = false := by
      rcases hh : lss z1 z2 with _ | _
      · rw [hx, hh]; rfl
      · rw [hy, lss_asym hh, Bool.and_false]
    have g2 : same = (!x && !y) := by
      rw [hsame, hx, hy, Bool.eq_iff_iff]
      have := less_same (u := z1) (v := z2)
      simp only [decide_eq_true_iff, Bool.and_eq_true, Bool.not_eq_true']
      exact this.symm
    have g3 : (sb && y) = false := by
      rcases hh : z1.isSublist z2 with _ | _
      · rw [hsb, hh]; rfl
      · rw [hy, lss_sub (List.isSublist_iff_sublist.1 hh), Bool.and_false]
    rw [← hx] at HX
    rw [← hy] at HY
    rw [← hsb] at HS
    clear hsame hy hsb
    by_cases f3 : Fine a0 z3
    · have HZ := Lib.hid (fun W (h : IntsAt W W.heap.size A2 z2) (k : IntsAt W W.heap.size A3 z3) => less_ok (c := c2) (d := c3) hL h k f2 f3)
      have HT := Lib.hid (fun W (h : IntsAt W W.heap.size A1 z1) (k : IntsAt W W.heap.size A3 z3) => less_ok (c := c1) (d := c3) hL h k f1 f3)
      obtain ⟨z, hz⟩ : ∃ b, b = lss z2 z3 := ⟨_, rfl⟩
      obtain ⟨t, ht⟩ : ∃ b, b = lss z1 z3 := ⟨_, rfl⟩
      have g4 : (!x || !z || t) = true := by
        rw [hx, hz, ht]
        rcases h1 : lss z1 z2 with _ | _
        · rfl
        · rcases h2 : lss z2 z3 with _ | _
          · rfl
          · rw [lss_trans h1 h2]; rfl
      rw [← hz] at HZ
      rw [← ht] at HT
      have HF : Hid (∀ W0, Below w.heap.size w W0 → IntsAt W0 W0.heap.size A1 z1 ∧ IntsAt W0 W0.heap.size A2 z2 ∧ IntsAt W0 W0.heap.size A3 z3) := fun W0 h => ⟨V1.out.on h, V2.out.on h, V3.out.on h⟩
      clear hx hz ht f1 f2 f3 v1 v2 v3
      rcases x with _ | _ <;> rcases y with _ | _ <;> rcases sb with _ | _ <;> rcases z with _ | _ <;> rcases t with _ | _ <;>
        first
        | exact absurd g1 (by decide)
        | exact absurd g3 (by decide)
        | exact absurd g4 (by decide)
        | (obtain rfl := g2
           clear g1 g3 g4
           go_enter Try.func5, Try.ntmps5
           go_wp2_with fail
           refine (HX.out _ V1.out V2.out).mono ?_
           rintro e w1 ⟨rfl, rfl⟩
           go_wp2_with fail
           refine (HY.out _ V1.out V2.out).mono ?_
           rintro e w1 ⟨rfl, rfl⟩
           go_wp2_with fail
           refine (HI.out _ V1.out V2.out).mono ?_
           rintro e w2 ⟨he, n, rfl⟩
           obtain rfl := he.out
           have HB : Hid (Below w.heap.size w (w.drewN n)) := below_drewN (Below.refl _ _) n
           obtain ⟨k1, k2, k3⟩ := HF.out _ HB.out
           have K1 := Lib.hid k1
           have K2 := Lib.hid k2
           have K3 := Lib.hid k3
           clear he HI HF k1 k2 k3
           go_wp2_with fail
           refine (HS.out _ K1.out K2.out).mono ?_
           rintro e w1 ⟨rfl, rfl⟩
           go_wp2_with fail
           refine (HZ.out _ K2.out K3.out).mono ?_
           rintro e w1 ⟨rfl, rfl⟩
           go_wp2_with fail
           refine (HT.out _ K1.out K3.out).mono ?_
           rintro e w1 ⟨rfl, rfl⟩
           go_wp2
           go_ret
           exact ⟨rfl, HB.out⟩)
    · have HZ := Lib.hid (fun W (h : IntsAt W W.heap.size A2 z2) (k : IntsAt W W.heap.size A3 z3) => less_bad (c := c2) (d := c3) hL h k (by omega) (by omega) (fun h => f3 h.2))
      have HT := Lib.hid (fun W (h : IntsAt W W.heap.size A1 z1) (k : IntsAt W W.heap.size A3 z3) => less_bad (c := c1) (d := c3) hL h k (by omega) (by omega) (fun h => f3 h.2))
      have HF : Hid (∀ W0, Below w.heap.size w W0 → IntsAt W0 W0.heap.size A1 z1 ∧ IntsAt W0 W0.heap.size A2 z2 ∧ IntsAt W0 W0.heap.size A3 z3) := fun W0 h => ⟨V1.out.on h, V2.out.on h, V3.out.on h⟩
      clear hx f1 f2 f3 v1 v2 v3
      rcases x with _ | _ <;> rcases y with _ | _ <;> rcases sb with _ | _ <;>
        first
        | exact absurd g1 (by decide)
        | exact absurd g3 (by decide)
        | (obtain rfl := g2
           clear g1 g3
           go_enter Try.func5, Try.ntmps5
           go_wp2_with fail
           refine (HX.out _ V1.out V2.out).mono ?_
           rintro e w1 ⟨rfl, rfl⟩
           go_wp2_with fail
           refine (HY.out _ V1.out V2.out).mono ?_
           rintro e w1 ⟨rfl, rfl⟩
           go_wp2_with fail
           refine (HI.out _ V1.out V2.out).mono ?_
           rintro e w2 ⟨he, n, rfl⟩
           obtain rfl := he.out
           have HB : Hid (Below w.heap.size w (w.drewN n)) := below_drewN (Below.refl _ _) n
           obtain ⟨k1, k2, k3⟩ := HF.out _ HB.out
           have K1 := Lib.hid k1
           have K2 := Lib.hid k2
           have K3 := Lib.hid k3
           clear he HI HF k1 k2 k3
           go_wp2_with fail
           refine (HS.out _ K1.out K2.out).mono ?_
           rintro e w1 ⟨rfl, rfl⟩
           go_wp2_with fail
           refine (HZ.out _ K2.out K3.out).mono ?_
           rintro e w1 ⟨⟨i1, rfl⟩, rfl⟩
           go_wp2_with fail
           refine (HT.out _ K1.out K3.out).mono ?_
           rintro e w1 ⟨⟨i2, rfl⟩, rfl⟩
           clear HX HY HS HZ HT K1 K2 K3 V1 V2 V3
           generalize hW : w.drewN n = W at *
           clear hW
           go_wp2
           go_quiet (fail)
           go_wp2
           go_ret
           exact ⟨rfl, below_drewN HB.out _⟩)
  · have HX := Lib.hid (fun W (h : IntsAt W W.heap.size A1 z1) (k : IntsAt W W.heap.size A2 z2) => less_bad (c := c1) (d := c2) hL h k (by omega) (by omega) f12)
    have HY := Lib.hid (fun W (h : IntsAt W W.heap.size A1 z1) (k : IntsAt W W.heap.size A2 z2) => less_bad (c := c2) (d := c1) hL k h (by omega) (by omega) (fun h => f12 ⟨h.2, h.1⟩))
    clear f12 v1 v2 v3
    go_enter Try.func5, Try.ntmps5
    go_wp2_with fail
    refine (HX.out _ V1.out V2.out).mono ?_
    rintro e w1 ⟨⟨i1, rfl⟩, rfl⟩
    go_wp2_with fail
    refine (HY.out _ V1.out V2.out).mono ?_
    rintro e w1 ⟨⟨i2, rfl⟩, rfl⟩
    clear HX HY V1 V2 V3
    go_wp2
    go_quiet (fail)
    go_wp2
    go_ret
    exact ⟨rfl, below_drewN (Below.refl _ _) _⟩


set_option maxRecDepth 100000 in
theorem lifted (os : Os) (started : os.Started) (H : Type) (enc : TypeId × Value → H) :
    ReturnsInHanded {} Try.checked os 5 .any (Rows.wordLessSpec.pre6 enc Try.prog Try.f5 Rows.wordLessRow.domain false) (Rows.wordLessSpec.post enc Try.prog Try.f5 false true false false) := by
  refine returnsInHanded_of_change_sized (C := Try.checked) own started (by kernel_rfl) Try.func5
    (ChangeSpec.witness6 (enc := enc) (C := Try.checked) false ⟨#[], #[.int .i64 0, .slice none 0 0, .slice none 0 0, .slice none 0 0], []⟩ 8 (by kernel_rfl) (by kernel_rfl) (by kernel_rfl) (by kernel_rfl)) ?_
  intro W base args ds gs before hval0 hW hcnd hsz0 _
  have hval : ∀ (j : Nat) t v, Try.f5.params[j]? = some t → args[j]? = some v → Value.okWide Try.prog W .any base t v := hval0
  have hsz : (DataW.weightsEach Try.prog (Try.f5.params.toList ++ Rows.wordLessSpec.plain.varTypes Try.prog) (ds ++ gs)).all (· ≤ reachBytes) = true := hsz0
  have hW' := hW
  obtain ⟨p, q, hA0, hV0, rfl, hfz, hnd⟩ := hW
  have hV : DataW.TrodVars enc Try.prog W (fun _ => true) [] gs q := hV0
  have hA : DataW.TrodAll enc Try.prog W 0 (fun _ => true) true Try.f5.params.toList args.toList ds p := hA0
  rw [Try.params5] at hA hval hsz
  obtain ⟨v0, vs0, d0, ds0, p0, q0, hargs, rfl, rfl, h0, rr0⟩ := trodAll_cons hA
  obtain ⟨v1, vs1, d1, ds1, p1, q1, rfl, rfl, rfl, h1, rr1⟩ := trodAll_cons rr0
  obtain ⟨v2, vs2, d2, ds2, p2, q2, rfl, rfl, rfl, h2, rr2⟩ := trodAll_cons rr1
  obtain ⟨v3, vs3, d3, ds3, p3, q3, rfl, rfl, rfl, h3, rr3⟩ := trodAll_cons rr2
  obtain ⟨rfl, rfl, rfl⟩ := trodAll_nil rr3
  obtain rfl : args = #[v0, v1, v2, v3] := by cases args; simp_all
  obtain ⟨rfl, rfl⟩ := trodVars_none hV
  have k0 := h0
  have lt0 : ∀ x ∈ p0, x.block < W.heap.size := by obtain ⟨m, hm⟩ := k0; exact DataW.trod_lt m _ _ _ hm
  have k1 := h1
  have lt1 : ∀ x ∈ p1, x.block < W.heap.size := by obtain ⟨m, hm⟩ := k1; exact DataW.trod_lt m _ _ _ hm
  have k2 := h2
  have lt2 : ∀ x ∈ p2, x.block < W.heap.size := by obtain ⟨m, hm⟩ := k2; exact DataW.trod_lt m _ _ _ hm
  have k3 := h3
  have lt3 : ∀ x ∈ p3, x.block < W.heap.size := by obtain ⟨m, hm⟩ := k3; exact DataW.trod_lt m _ _ _ hm
  obtain ⟨a0, rfl, rfl, rfl, w0⟩ := open_int Try.underlying3 (hval 0 3 v0 rfl rfl) h0
  obtain ⟨l0, hh0⟩ := bounds_i64 w0
  obtain ⟨A1, len1, c1, rfl⟩ := okWide_slice Try.underlying22 (hval 1 22 v1 rfl rfl)
  obtain ⟨z1, rfl, x1, r1⟩ : ∃ zs : List Int, len1 = zs.length ∧ IntsAt W W.heap.size A1 zs ∧ zs.length ≤ 17592186043904 := by
    obtain ⟨fuel, hf⟩ := h1
    rcases open_ints Try.underlying22 Try.underlying3 (by kernel_rfl) hf with ⟨hcs, _⟩ | ⟨x, l, c, zs, hcs, _, hl, hm, hz, hx, hcell, hwz⟩
    · simp [Value.cells] at hcs
      obtain ⟨rfl, rfl, rfl⟩ := hcs
      exact ⟨[], rfl, IntsAt.nil _ _ _, by simp⟩
    · simp [Value.cells] at hcs
      obtain ⟨rfl, rfl, rfl⟩ := hcs
      have hd := congrArg Prod.fst hx
      simp only at hd
      have := sized_slice hsz (j := 1) (t := 22) (e := 3) rfl (by rw [hd]; rfl) Try.underlying22
      rw [(show Try.prog.bytesOf 3 = 8 by kernel_rfl)] at this
      simp only [reachBytes, lits, List.length_map, List.length_take, List.length_drop] at this
      have hz' : zs.length = c1 := by simpa using hz
      exact ⟨zs.take len1, by rw [List.length_take]; omega, intsAt_of_open hcell hwz len1, by rw [List.length_take]; omega⟩
  obtain ⟨A2, len2, c2, rfl⟩ := okWide_slice Try.underlying22 (hval 2 22 v2 rfl rfl)
  obtain ⟨z2, rfl, x2, r2⟩ : ∃ zs : List Int, len2 = zs.length ∧ IntsAt W W.heap.size A2 zs ∧ zs.length ≤ 17592186043904 := by
    obtain ⟨fuel, hf⟩ := h2
    rcases open_ints Try.underlying22 Try.underlying3 (by kernel_rfl) hf with ⟨hcs, _⟩ | ⟨x, l, c, zs, hcs, _, hl, hm, hz, hx, hcell, hwz⟩
    · simp [Value.cells] at hcs
      obtain ⟨rfl, rfl, rfl⟩ := hcs
      exact ⟨[], rfl, IntsAt.nil _ _ _, by simp⟩
    · simp [Value.cells] at hcs
      obtain ⟨rfl, rfl, rfl⟩ := hcs
      have hd := congrArg Prod.fst hx
      simp only at hd
      have := sized_slice hsz (j := 2) (t := 22) (e := 3) rfl (by rw [hd]; rfl) Try.underlying22
      rw [(show Try.prog.bytesOf 3 = 8 by kernel_rfl)] at this
      simp only [reachBytes, lits, List.length_map, List.length_take, List.length_drop] at this
      have hz' : zs.length = c2 := by simpa using hz
      exact ⟨zs.take len2, by rw [List.length_take]; omega, intsAt_of_open hcell hwz len2, by rw [List.length_take]; omega⟩
  obtain ⟨A3, len3, c3, rfl⟩ := okWide_slice Try.underlying22 (hval 3 22 v3 rfl rfl)
  obtain ⟨z3, rfl, x3, r3⟩ : ∃ zs : List Int, len3 = zs.length ∧ IntsAt W W.heap.size A3 zs ∧ zs.length ≤ 17592186043904 := by
    obtain ⟨fuel, hf⟩ := h3
    rcases open_ints Try.underlying22 Try.underlying3 (by kernel_rfl) hf with ⟨hcs, _⟩ | ⟨x, l, c, zs, hcs, _, hl, hm, hz, hx, hcell, hwz⟩
    · simp [Value.cells] at hcs
      obtain ⟨rfl, rfl, rfl⟩ := hcs
      exact ⟨[], rfl, IntsAt.nil _ _ _, by simp⟩
    · simp [Value.cells] at hcs
      obtain ⟨rfl, rfl, rfl⟩ := hcs
      have hd := congrArg Prod.fst hx
      simp only at hd
      have := sized_slice hsz (j := 3) (t := 22) (e := 3) rfl (by rw [hd]; rfl) Try.underlying22
      rw [(show Try.prog.bytesOf 3 = 8 by kernel_rfl)] at this
      simp only [reachBytes, lits, List.length_map, List.length_take, List.length_drop] at this
      have hz' : zs.length = c3 := by simpa using hz
      exact ⟨zs.take len3, by rw [List.length_take]; omega, intsAt_of_open hcell hwz len3, by rw [List.length_take]; omega⟩
  clear hA0 hval0
  refine (walk a0 A1 c1 z1 A2 c2 z2 A3 c3 z3 W l0 hh0 x1 r1 x2 r2 x3 r3).mono fun e W' ⟨he, bel⟩ => ?_
  subst he
  exact ⟨_, rfl, _, _, _, [], _, [], hW', trodAll_mk1 (shut_bool Try.underlying4 _), (trodAll_cons_mk (Below.trod laidOut (by kernel_rfl) (of_decide_eq_true (by kernel_rfl)) k0 bel lt0) (trodAll_cons_mk (Below.trod laidOut (by kernel_rfl) (of_decide_eq_true (by kernel_rfl)) k1 bel lt1) (trodAll_cons_mk (Below.trod laidOut (by kernel_rfl) (of_decide_eq_true (by kernel_rfl)) k2 bel lt2) (trodAll_cons_mk (Below.trod laidOut (by kernel_rfl) (of_decide_eq_true (by kernel_rfl)) k3 bel lt3) trodAll_mk0)))), rfl, bel.frame _, fun h => by cases h⟩

theorem over : Rows.wordLessRow.holds Try.pinned (OpenSpec.ofChange Rows.wordLessSpec) :=
  OpenClaim.holds_of_wide 5 Try.f5 rfl rfl rfl rfl rfl rfl rfl ⟨rfl, rfl, rfl, rfl, rfl⟩ rfl rfl rfl rfl rfl (by kernel_rfl) Try.func5 (by kernel_rfl)
    (of_decide_eq_true (by kernel_rfl)) (by unfold Func.isWrapper; rw [if_neg (of_decide_eq_false (by kernel_rfl))]; exact ⟨rfl, rfl⟩)
    (fun os started H enc _ => lifted os started H enc)
theorem proved : Rows.WordLessSaid := over
#print axioms proved
end Go.Proofs.Ytmcgdajembhocaa.wordLess
