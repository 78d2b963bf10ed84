/-
  The statement NearLongestSaid of this seat, proved: for every input the law returns true and its arguments read behind the call as before. Conditions: none but the row's own (each argument within the reach).
-/
import Derived.Test.YtiaoffaaflmgiaaRows
import Derived.Test.YtiaoffaaflmgiaaWords
import Derived.WalkKit
import Derived.ProofKit
import Derived.OpenShut
import Derived.ShutString
import Derived.ChangeOld
import Derived.Below
import Derived.SizedLaws
import Derived.Lib.Hide
import Derived.Test.YtiaoffaaflmgiaaNearK
import Derived.Deep.QuietTactic
import Derived.BigQuiet
namespace Go.Proofs.Ytiaoffaaflmgiaa.nearLongest
open Go.ChangeShapes Go.WideShapes Go.ChangeAt Go.RowKit Go.IntWalk Go.Proofs.Ytiaoffaaflmgiaa.Wd
open Go.ChangeMaps (open_string shut_string)
set_option linter.unusedVariables false

theorem own : ownKnob Try.prog.godebug = none := by kernel_rfl
theorem laidOut : laidOutB Try.prog = true := by kernel_rfl
open Go.Proofs.Ytiaoffaaflmgiaa.Wo Go.Proofs.Ytiaoffaaflmgiaa.Ne
theorem com_left (v z : List Int) : (com v z).isSublist v = true := List.isSublist_iff_sublist.2 (com_best v z).left
theorem com_right (v z : List Int) : (com v z).isSublist z = true := List.isSublist_iff_sublist.2 (com_best v z).right
theorem com_longest {u v z : List Int} (h : u.isSublist v = true) (k : u.isSublist z = true) : u.length < (com v z).length ∨ (u.length = (com v z).length ∧ lss u (com v z) = false) := by
  rcases (com_best v z).best u (List.isSublist_iff_sublist.1 h) (List.isSublist_iff_sublist.1 k) with h1 | ⟨h1, h2⟩
  · exact .inl h1
  · exact .inr ⟨h1, by rw [lss_lx h1]; exact h2⟩

set_option maxRecDepth 100000 in
set_option maxHeartbeats 4000000 in
theorem walk (a0 : Int) (A1 : Option Addr) (c1 : Nat) (z1 : List Int) (A2 : Option Addr) (c2 : Nat) (z2 : List Int) (A3 : Option Addr) (c3 : Nat) (z3 : List Int) (w : World) (l0 : -9223372036854775808 ≤ a0) (h0 : a0 ≤ 9223372036854775807) (v1 : IntsAt w w.heap.size A1 z1) (r1 : z1.length ≤ 17592186043904) (m1 : z1.length ≤ c1) (v2 : IntsAt w w.heap.size A2 z2) (r2 : z2.length ≤ 17592186043904) (m2 : z2.length ≤ c2) (v3 : IntsAt w w.heap.size A3 z3) (r3 : z3.length ≤ 17592186043904) (m3 : z3.length ≤ c3) :
    Calls Try.prog 4 #[.int .i64 a0, .slice A1 z1.length c1, .slice A2 z2.length c2, .slice A3 z3.length c3] w fun e w' => e = .returned (.bool true) ∧ Below w.heap.size w w' := by
  have hL : Small a0 := ⟨l0, h0⟩
  have V1 := Lib.hid v1
  have V2 := Lib.hid v2
  have V3 := Lib.hid v3
  by_cases f12 : Fine a0 z1 ∧ Fine a0 z2
  · obtain ⟨f1, f2⟩ := f12
    have HC := Lib.hid (fun W (h : IntsAt W W.heap.size A1 z1) (k : IntsAt W W.heap.size A2 z2) => com_ok (c := c1) (d := c2) hL h k f1 f2 m1 m2)
    have HS := Lib.hid (fun W X n (h : IntsAt W W.heap.size X (com z1 z2)) (k : IntsAt W W.heap.size A1 z1) => sub_ok (c := n) (d := c1) hL h k (com_fine f1) f1)
    have HT := Lib.hid (fun W X n (h : IntsAt W W.heap.size X (com z1 z2)) (k : IntsAt W W.heap.size A2 z2) => sub_ok (c := n) (d := c2) hL h k (com_fine f1) f2)
    rw [com_left] at HS
    rw [com_right] at HT
    have hcl := (com_fine f1 (z := z2)).2.1
    by_cases f3 : Fine a0 z3
    · have HX := Lib.hid (fun W (h : IntsAt W W.heap.size A3 z3) (k : IntsAt W W.heap.size A1 z1) => sub_ok (c := c3) (d := c1) hL h k f3 f1)
      have HY := Lib.hid (fun W (h : IntsAt W W.heap.size A3 z3) (k : IntsAt W W.heap.size A2 z2) => sub_ok (c := c3) (d := c2) hL h k f3 f2)
      have HL := Lib.hid (fun W X n (h : IntsAt W W.heap.size A3 z3) (k : IntsAt W W.heap.size X (com z1 z2)) => less_ok (c := c3) (d := n) hL h k f3 (com_fine f1))
      have hlo := com_longest (u := z3) (v := z1) (z := z2)
      clear f1 f2 f3 v1 v2 v3
      generalize com z1 z2 = C at *
      generalize z3.isSublist z1 = x at *
      generalize z3.isSublist z2 = y at *
      generalize lss z3 C = t at *
      go_enter Try.func4, Try.ntmps4
      go_wp2_with fail
      refine (HC.out _ V1.out V2.out).mono ?_
      rintro e u1 ⟨X, n, rfl, hx, hb⟩
      have B1 := Lib.hid hb
      clear hb  HC 
      have HCX := Lib.hid hx
      clear hx
      go_wp2_with fail
      refine (HS.out _ X n HCX.out (V1.out.on B1.out)).mono ?_
      rintro e u9 ⟨rfl, rfl⟩
      clear HS
      go_wp2_with fail
      refine (HT.out _ X n HCX.out (V2.out.on B1.out)).mono ?_
      rintro e u9 ⟨rfl, rfl⟩
      clear HT
      rcases x with _ | _
      · clear hlo HL
        go_wp2_with fail
        refine (HX.out _ (V3.out.on B1.out) (V1.out.on B1.out)).mono ?_
        rintro e u9 ⟨rfl, rfl⟩
        clear HX
        go_wp2_with fail
        refine (HY.out _ (V3.out.on B1.out) (V2.out.on B1.out)).mono ?_
        rintro e u9 ⟨rfl, rfl⟩
        clear HY
        go_wp2_with fail
        go_quiet (fail)
        go_wp2
        go_ret
        exact ⟨rfl, below_drewN B1.out _⟩
      · rcases y with _ | _
        · clear hlo HL
          go_wp2_with fail
          refine (HX.out _ (V3.out.on B1.out) (V1.out.on B1.out)).mono ?_
          rintro e u9 ⟨rfl, rfl⟩
          clear HX
          go_wp2_with fail
          refine (HY.out _ (V3.out.on B1.out) (V2.out.on B1.out)).mono ?_
          rintro e u9 ⟨rfl, rfl⟩
          clear HY
          go_wp2_with fail
          go_quiet (fail)
          go_wp2
          go_ret
          exact ⟨rfl, below_drewN B1.out _⟩
        · have HLO := Lib.hid (hlo rfl rfl)
          clear hlo
          go_wp2_with fail
          refine (HX.out _ (V3.out.on B1.out) (V1.out.on B1.out)).mono ?_
          rintro e u9 ⟨rfl, rfl⟩
          clear HX
          go_wp2_with fail
          refine (HY.out _ (V3.out.on B1.out) (V2.out.on B1.out)).mono ?_
          rintro e u9 ⟨rfl, rfl⟩
          clear HY
          rcases HLO.out with hlo | ⟨hlo, rfl⟩
          · have hlt : (z3.length : Int) < (C.length : Int) := by omega
            go_wp2_with fail
            refine (HL.out _ X n (V3.out.on B1.out) HCX.out).mono ?_
            rintro e u9 ⟨rfl, rfl⟩
            clear HL
            go_wp2
            go_ret
            exact ⟨rfl, B1.out⟩
          · have hlt : ¬ ((z3.length : Int) < (C.length : Int)) := by omega
            have hle : ((z3.length : Int) == (C.length : Int)) = true := by simp; omega
            clear hlo
            go_wp2_with fail
            refine (HL.out _ X n (V3.out.on B1.out) HCX.out).mono ?_
            rintro e u9 ⟨rfl, rfl⟩
            clear HL
            go_wp2
            go_ret
            exact ⟨rfl, B1.out⟩
    · have HX := Lib.hid (fun W (h : IntsAt W W.heap.size A3 z3) (k : IntsAt W W.heap.size A1 z1) => sub_bad (c := c3) (d := c1) hL h k (by omega) (by omega) (fun q => f3 q.1))
      have HY := Lib.hid (fun W (h : IntsAt W W.heap.size A3 z3) (k : IntsAt W W.heap.size A2 z2) => sub_bad (c := c3) (d := c2) hL h k (by omega) (by omega) (fun q => f3 q.1))
      clear f1 f2 f3 v1 v2 v3
      generalize com z1 z2 = C at *
      go_enter Try.func4, Try.ntmps4
      go_wp2_with fail
      refine (HC.out _ V1.out V2.out).mono ?_
      rintro e u1 ⟨X, n, rfl, hx, hb⟩
      have B1 := Lib.hid hb
      clear hb  HC 
      have HCX := Lib.hid hx
      clear hx
      go_wp2_with fail
      refine (HS.out _ X n HCX.out (V1.out.on B1.out)).mono ?_
      rintro e u9 ⟨rfl, rfl⟩
      clear HS
      go_wp2_with fail
      refine (HT.out _ X n HCX.out (V2.out.on B1.out)).mono ?_
      rintro e u9 ⟨rfl, rfl⟩
      clear HT
      go_wp2_with fail
      refine (HX.out _ (V3.out.on B1.out) (V1.out.on B1.out)).mono ?_
      rintro e u9 ⟨⟨k1, rfl⟩, rfl⟩
      clear HX
      go_wp2_with fail
      refine (HY.out _ (V3.out.on B1.out) (V2.out.on B1.out)).mono ?_
      rintro e u9 ⟨⟨k2, rfl⟩, rfl⟩
      clear HY
      go_wp2_with fail
      go_quiet (fail)
      go_wp2
      go_ret
      exact ⟨rfl, below_drewN B1.out _⟩
  · have HC := Lib.hid (fun W (h : IntsAt W W.heap.size A1 z1) (k : IntsAt W W.heap.size A2 z2) => com_bad (c := c1) (d := c2) hL h k (by omega) (by omega) m1 m2 f12)
    clear f12 v1 v2 v3
    go_enter Try.func4, Try.ntmps4
    go_wp2_with fail
    refine (HC.out _ V1.out V2.out).mono ?_
    rintro e u1 ⟨X, n, i, rfl, hb⟩
    have B1 := Lib.hid hb
    clear hb  HC 
    go_wp2
    go_ret
    exact ⟨rfl, B1.out⟩


set_option maxRecDepth 100000 in
theorem lifted (os : Os) (started : os.Started) (H : Type) (enc : TypeId × Value → H) :
    ReturnsInHanded {} Try.checked os 4 .any (Rows.nearLongestSpec.pre6 enc Try.prog Try.f4 Rows.nearLongestRow.domain false) (Rows.nearLongestSpec.post enc Try.prog Try.f4 false true false false) := by
  refine returnsInHanded_of_change_sized (C := Try.checked) own started (by kernel_rfl) Try.func4
    (ChangeSpec.witness6 (enc := enc) (C := Try.checked) false ⟨#[], #[.int .i64 0, .slice none 0 0, .slice none 0 0, .slice none 0 0], []⟩ 8 (by kernel_rfl) (by kernel_rfl) (by kernel_rfl) (by kernel_rfl)) ?_
  intro W base args ds gs before hval0 hW hcnd hsz0 _
  have hval : ∀ (j : Nat) t v, Try.f4.params[j]? = some t → args[j]? = some v → Value.okWide Try.prog W .any base t v := hval0
  have hsz : (DataW.weightsEach Try.prog (Try.f4.params.toList ++ Rows.nearLongestSpec.plain.varTypes Try.prog) (ds ++ gs)).all (· ≤ reachBytes) = true := hsz0
  have hW' := hW
  obtain ⟨p, q, hA0, hV0, rfl, hfz, hnd⟩ := hW
  have hV : DataW.TrodVars enc Try.prog W (fun _ => true) [] gs q := hV0
  have hA : DataW.TrodAll enc Try.prog W 0 (fun _ => true) true Try.f4.params.toList args.toList ds p := hA0
  rw [Try.params4] at hA hval hsz
  obtain ⟨v0, vs0, d0, ds0, p0, q0, hargs, rfl, rfl, h0, rr0⟩ := trodAll_cons hA
  obtain ⟨v1, vs1, d1, ds1, p1, q1, rfl, rfl, rfl, h1, rr1⟩ := trodAll_cons rr0
  obtain ⟨v2, vs2, d2, ds2, p2, q2, rfl, rfl, rfl, h2, rr2⟩ := trodAll_cons rr1
  obtain ⟨v3, vs3, d3, ds3, p3, q3, rfl, rfl, rfl, h3, rr3⟩ := trodAll_cons rr2
  obtain ⟨rfl, rfl, rfl⟩ := trodAll_nil rr3
  obtain rfl : args = #[v0, v1, v2, v3] := by cases args; simp_all
  obtain ⟨rfl, rfl⟩ := trodVars_none hV
  have k0 := h0
  have lt0 : ∀ x ∈ p0, x.block < W.heap.size := by obtain ⟨m, hm⟩ := k0; exact DataW.trod_lt m _ _ _ hm
  have k1 := h1
  have lt1 : ∀ x ∈ p1, x.block < W.heap.size := by obtain ⟨m, hm⟩ := k1; exact DataW.trod_lt m _ _ _ hm
  have k2 := h2
  have lt2 : ∀ x ∈ p2, x.block < W.heap.size := by obtain ⟨m, hm⟩ := k2; exact DataW.trod_lt m _ _ _ hm
  have k3 := h3
  have lt3 : ∀ x ∈ p3, x.block < W.heap.size := by obtain ⟨m, hm⟩ := k3; exact DataW.trod_lt m _ _ _ hm
  obtain ⟨a0, rfl, rfl, rfl, w0⟩ := open_int Try.underlying3 (hval 0 3 v0 rfl rfl) h0
  obtain ⟨l0, hh0⟩ := bounds_i64 w0
  obtain ⟨A1, len1, c1, rfl⟩ := okWide_slice Try.underlying22 (hval 1 22 v1 rfl rfl)
  obtain ⟨z1, rfl, x1, r1, m1⟩ : ∃ zs : List Int, len1 = zs.length ∧ IntsAt W W.heap.size A1 zs ∧ zs.length ≤ 17592186043904 ∧ zs.length ≤ c1 := by
    obtain ⟨fuel, hf⟩ := h1
    rcases open_ints Try.underlying22 Try.underlying3 (by kernel_rfl) hf with ⟨hcs, _⟩ | ⟨x, l, c, zs, hcs, _, hl, hm, hz, hx, hcell, hwz⟩
    · simp [Value.cells] at hcs
      obtain ⟨rfl, rfl, rfl⟩ := hcs
      exact ⟨[], rfl, IntsAt.nil _ _ _, by simp, by simp⟩
    · simp [Value.cells] at hcs
      obtain ⟨rfl, rfl, rfl⟩ := hcs
      have hd := congrArg Prod.fst hx
      simp only at hd
      have := sized_slice hsz (j := 1) (t := 22) (e := 3) rfl (by rw [hd]; rfl) Try.underlying22
      rw [(show Try.prog.bytesOf 3 = 8 by kernel_rfl)] at this
      simp only [reachBytes, lits, List.length_map, List.length_take, List.length_drop] at this
      have hz' : zs.length = c1 := by simpa using hz
      exact ⟨zs.take len1, by rw [List.length_take]; omega, intsAt_of_open hcell hwz len1, by rw [List.length_take]; omega, by rw [List.length_take]; omega⟩
  obtain ⟨A2, len2, c2, rfl⟩ := okWide_slice Try.underlying22 (hval 2 22 v2 rfl rfl)
  obtain ⟨z2, rfl, x2, r2, m2⟩ : ∃ zs : List Int, len2 = zs.length ∧ IntsAt W W.heap.size A2 zs ∧ zs.length ≤ 17592186043904 ∧ zs.length ≤ c2 := by
    obtain ⟨fuel, hf⟩ := h2
    rcases open_ints Try.underlying22 Try.underlying3 (by kernel_rfl) hf with ⟨hcs, _⟩ | ⟨x, l, c, zs, hcs, _, hl, hm, hz, hx, hcell, hwz⟩
    · simp [Value.cells] at hcs
      obtain ⟨rfl, rfl, rfl⟩ := hcs
      exact ⟨[], rfl, IntsAt.nil _ _ _, by simp, by simp⟩
    · simp [Value.cells] at hcs
      obtain ⟨rfl, rfl, rfl⟩ := hcs
      have hd := congrArg Prod.fst hx
      simp only at hd
      have := sized_slice hsz (j := 2) (t := 22) (e := 3) rfl (by rw [hd]; rfl) Try.underlying22
      rw [(show Try.prog.bytesOf 3 = 8 by kernel_rfl)] at this
      simp only [reachBytes, lits, List.length_map, List.length_take, List.length_drop] at this
      have hz' : zs.length = c2 := by simpa using hz
      exact ⟨zs.take len2, by rw [List.length_take]; omega, intsAt_of_open hcell hwz len2, by rw [List.length_take]; omega, by rw [List.length_take]; omega⟩
  obtain ⟨A3, len3, c3, rfl⟩ := okWide_slice Try.underlying22 (hval 3 22 v3 rfl rfl)
  obtain ⟨z3, rfl, x3, r3, m3⟩ : ∃ zs : List Int, len3 = zs.length ∧ IntsAt W W.heap.size A3 zs ∧ zs.length ≤ 17592186043904 ∧ zs.length ≤ c3 := by
    obtain ⟨fuel, hf⟩ := h3
    rcases open_ints Try.underlying22 Try.underlying3 (by kernel_rfl) hf with ⟨hcs, _⟩ | ⟨x, l, c, zs, hcs, _, hl, hm, hz, hx, hcell, hwz⟩
    · simp [Value.cells] at hcs
      obtain ⟨rfl, rfl, rfl⟩ := hcs
      exact ⟨[], rfl, IntsAt.nil _ _ _, by simp, by simp⟩
    · simp [Value.cells] at hcs
      obtain ⟨rfl, rfl, rfl⟩ := hcs
      have hd := congrArg Prod.fst hx
      simp only at hd
      have := sized_slice hsz (j := 3) (t := 22) (e := 3) rfl (by rw [hd]; rfl) Try.underlying22
      rw [(show Try.prog.bytesOf 3 = 8 by kernel_rfl)] at this
      simp only [reachBytes, lits, List.length_map, List.length_take, List.length_drop] at this
      have hz' : zs.length = c3 := by simpa using hz
      exact ⟨zs.take len3, by rw [List.length_take]; omega, intsAt_of_open hcell hwz len3, by rw [List.length_take]; omega, by rw [List.length_take]; omega⟩
  clear hA0 hval0
  refine (walk a0 A1 c1 z1 A2 c2 z2 A3 c3 z3 W l0 hh0 x1 r1 m1 x2 r2 m2 x3 r3 m3).mono fun e W' ⟨he, bel⟩ => ?_
  subst he
  exact ⟨_, rfl, _, _, _, [], _, [], hW', trodAll_mk1 (shut_bool Try.underlying4 _), (trodAll_cons_mk (Below.trod laidOut (by kernel_rfl) (of_decide_eq_true (by kernel_rfl)) k0 bel lt0) (trodAll_cons_mk (Below.trod laidOut (by kernel_rfl) (of_decide_eq_true (by kernel_rfl)) k1 bel lt1) (trodAll_cons_mk (Below.trod laidOut (by kernel_rfl) (of_decide_eq_true (by kernel_rfl)) k2 bel lt2) (trodAll_cons_mk (Below.trod laidOut (by kernel_rfl) (of_decide_eq_true (by kernel_rfl)) k3 bel lt3) trodAll_mk0)))), rfl, bel.frame _, fun h => by cases h⟩

theorem over : Rows.nearLongestRow.holds Try.pinned (OpenSpec.ofChange Rows.nearLongestSpec) :=
  OpenClaim.holds_of_wide 4 Try.f4 rfl rfl rfl rfl rfl rfl rfl ⟨rfl, rfl, rfl, rfl, rfl⟩ rfl rfl rfl rfl rfl (by kernel_rfl) Try.func4 (by kernel_rfl)
    (of_decide_eq_true (by kernel_rfl)) (by unfold Func.isWrapper; rw [if_neg (of_decide_eq_false (by kernel_rfl))]; exact ⟨rfl, rfl⟩)
    (fun os started H enc _ => lifted os started H enc)
theorem proved : Rows.NearLongestSaid := over
#print axioms proved
end Go.Proofs.Ytiaoffaaflmgiaa.nearLongest
