/-
  The statement WordOrderSaid of this seat, proved: for every input the law returns true and its arguments read behind the call as before. Conditions: none but the row's own (each argument within the reach).
-/
import Derived.Test.YtmcgdajembhocaaRows
import Derived.Test.YtmcgdajembhocaaWords
import Derived.WalkKit
import Derived.ProofKit
import Derived.OpenShut
import Derived.ShutString
import Derived.ChangeOld
import Derived.Below
import Derived.SizedLaws
import Derived.Lib.Hide
import Derived.Test.YtmcgdajembhocaaWordL
import Derived.Deep.QuietTactic
import Derived.BigQuiet
namespace Go.Proofs.Ytmcgdajembhocaa.wordOrder
open Go.ChangeShapes Go.WideShapes Go.ChangeAt Go.RowKit Go.IntWalk Go.Proofs.Ytmcgdajembhocaa.Wd
open Go.ChangeMaps (open_string shut_string)
set_option linter.unusedVariables false

theorem own : ownKnob Try.prog.godebug = none := by kernel_rfl
theorem laidOut : laidOutB Try.prog = true := by kernel_rfl
open Go.Proofs.Ytmcgdajembhocaa.Wo
theorem order_back (u v : List Int) : u.reverse.isSublist v.reverse = u.isSublist v := by
  rw [Bool.eq_iff_iff, List.isSublist_iff_sublist, List.isSublist_iff_sublist, List.reverse_sublist]
theorem order_anti {u v : List Int} (h : u.isSublist v = true) : v.isSublist u = decide (u = v) := by
  have h1 := List.isSublist_iff_sublist.1 h
  by_cases e : u = v
  · subst e; rw [h]; simp
  · rw [decide_eq_false e, Bool.eq_false_iff]
    intro h2
    exact e (h1.eq_of_length_le (List.isSublist_iff_sublist.1 h2).length_le)
theorem order_trans {u v w : List Int} (h : u.isSublist v = true) (h2 : v.isSublist w = true) : u.isSublist w = true :=
  List.isSublist_iff_sublist.2 ((List.isSublist_iff_sublist.1 h).trans (List.isSublist_iff_sublist.1 h2))
theorem order_self (u : List Int) : u.isSublist u = true := List.isSublist_iff_sublist.2 (List.Sublist.refl u)

set_option maxRecDepth 100000 in
set_option maxHeartbeats 4000000 in
theorem walk (a0 : Int) (A1 : Option Addr) (c1 : Nat) (z1 : List Int) (A2 : Option Addr) (c2 : Nat) (z2 : List Int) (A3 : Option Addr) (c3 : Nat) (z3 : List Int) (w : World) (l0 : -9223372036854775808 ≤ a0) (h0 : a0 ≤ 9223372036854775807) (v1 : IntsAt w w.heap.size A1 z1) (r1 : z1.length ≤ 17592186043904) (v2 : IntsAt w w.heap.size A2 z2) (r2 : z2.length ≤ 17592186043904) (v3 : IntsAt w w.heap.size A3 z3) (r3 : z3.length ≤ 17592186043904) :
    Calls Try.prog 4 #[.int .i64 a0, .slice A1 z1.length c1, .slice A2 z2.length c2, .slice A3 z3.length c3] w fun e w' => e = .returned (.bool true) ∧ Below w.heap.size w w' := by
  have hL : Small a0 := ⟨l0, h0⟩
  have V1 := Lib.hid v1
  have V2 := Lib.hid v2
  have V3 := Lib.hid v3
  by_cases f1 : Fine a0 z1
  · have HS := Lib.hid (fun W (h : IntsAt W W.heap.size A1 z1) => sub_ok (c := c1) (d := c1) hL h h f1 f1)
    rw [order_self] at HS
    by_cases f2 : Fine a0 z2
    · have HX := Lib.hid (fun W (h : IntsAt W W.heap.size A1 z1) (k : IntsAt W W.heap.size A2 z2) => sub_ok (c := c1) (d := c2) hL h k f1 f2)
      have HT := Lib.hid (fun W (h : IntsAt W W.heap.size A1 z1) (k : IntsAt W W.heap.size A2 z2) => sub_ok (c := c2) (d := c1) hL k h f2 f1)
      by_cases f3 : Fine a0 z3
      · have HY := Lib.hid (fun W (h : IntsAt W W.heap.size A2 z2) (k : IntsAt W W.heap.size A3 z3) => sub_ok (c := c2) (d := c3) hL h k f2 f3)
        have HZ := Lib.hid (fun W (h : IntsAt W W.heap.size A1 z1) (k : IntsAt W W.heap.size A3 z3) => sub_ok (c := c1) (d := c3) hL h k f1 f3)
        have HM := Lib.hid (fun W (h : IntsAt W W.heap.size A1 z1) => mirror_ok (c := c1) hL h f1)
        have HN := Lib.hid (fun W (h : IntsAt W W.heap.size A2 z2) => mirror_ok (c := c2) hL h f2)
        have HB := Lib.hid (fun W X Y k l (h : IntsAt W W.heap.size X z1.reverse) (h' : IntsAt W W.heap.size Y z2.reverse) => sub_ok (c := k) (d := l) hL h h' (reverse_fine f1) (reverse_fine f2))
        rw [order_back] at HB
        have hl1 : z1.reverse.length ≤ 80 := by rw [List.length_reverse]; exact f1.2.1
        have hl2 : z2.reverse.length ≤ 80 := by rw [List.length_reverse]; exact f2.2.1
        have ha := order_anti (u := z1) (v := z2)
        have htr := order_trans (u := z1) (v := z2) (w := z3)
        have hle := sub_len (v := z1) (w := z2)
        have HI := Lib.hid (fun W n (h : IntsAt W W.heap.size A1 z1) (k : IntsAt W W.heap.size A2 z2) => ints_any A1 A2 c1 c2 z1 z2 (W.drewN n) (h.below (below_drewN (Below.refl _ _) n)) (k.below (below_drewN (Below.refl _ _) n)) (by omega) (by omega))
        clear f1 f2 f3 v1 v2 v3
        generalize z1.reverse = R1 at *
        generalize z2.reverse = R2 at *
        generalize z1.isSublist z2 = x at *
        generalize z2.isSublist z1 = t at *
        generalize z2.isSublist z3 = y at *
        generalize z1.isSublist z3 = zz at *
        generalize decide (z1 = z2) = same at *
        go_enter Try.func4, Try.ntmps4
        go_wp2_with fail
        refine (HS.out _ V1.out).mono ?_
        rintro e w1 ⟨rfl, rfl⟩
        go_wp2_with fail
        refine (HX.out _ V1.out V2.out).mono ?_
        rintro e w1 ⟨rfl, rfl⟩
        go_wp2_with fail
        refine (HY.out _ V2.out V3.out).mono ?_
        rintro e w1 ⟨rfl, rfl⟩
        go_wp2_with fail
        refine (HZ.out _ V1.out V3.out).mono ?_
        rintro e w1 ⟨rfl, rfl⟩
        go_wp2_with fail
        refine (HT.out _ V1.out V2.out).mono ?_
        rintro e w1 ⟨rfl, rfl⟩
        have hss : ∀ b : Bool, (b != b) = false := by intro b; cases b <;> rfl
        have hse : ∀ b : Bool, (b == b) = true := by intro b; cases b <;> rfl
        rcases x with _ | _
        · have HB0 : Hid (Below w.heap.size w w) := Below.refl _ _
          clear ha htr hle HI hss hse
          go_wp2_with fail
          refine (HM.out _ ((V1.out.below HB0.out).more HB0.out.size)).mono ?_
          rintro e w3 ⟨X, k3, rfl, hx3, hb3⟩
          have HX3 := Lib.hid hx3
          have HB3 := Lib.hid (HB0.out.trans (hb3.mono HB0.out.size))
          clear hx3 hb3 HM
          go_wp2_with fail
          refine (HN.out _ ((V2.out.below HB3.out).more HB3.out.size)).mono ?_
          rintro e w4 ⟨Y, k4, rfl, hx4, hb4⟩
          have HX3 := Lib.hid (HX3.out.on hb4)
          have HX4 := Lib.hid hx4
          have HB4 := Lib.hid (HB3.out.trans (hb4.mono HB3.out.size))
          clear hx4 hb4 HN
          go_wp2_with fail
          refine (HB.out _ X Y k3 k4 HX3.out HX4.out).mono ?_
          rintro e w5 ⟨rfl, rfl⟩
          clear HB
          go_wp2
          go_ret
          exact ⟨rfl, HB4.out⟩
        · obtain rfl := ha rfl
          have hl := hle rfl
          have hyz : y = true → zz = true := fun h => htr rfl h
          have hs := hss t
          clear ha htr hle hss hse
          rcases y with _ | _
          · clear hyz
            go_wp2_with fail
            refine (HI.out _ 0 V1.out V2.out).mono ?_
            rintro e w2 ⟨he, n, rfl⟩
            obtain rfl := he.out
            have HB0 : Hid (Below w.heap.size w ((w.drewN 0).drewN n)) := below_drewN (below_drewN (Below.refl _ _) 0) n
            clear he HI
            go_wp2_with fail
            refine (HM.out _ ((V1.out.below HB0.out).more HB0.out.size)).mono ?_
            rintro e w3 ⟨X, k3, rfl, hx3, hb3⟩
            have HX3 := Lib.hid hx3
            have HB3 := Lib.hid (HB0.out.trans (hb3.mono HB0.out.size))
            clear hx3 hb3 HM
            go_wp2_with fail
            refine (HN.out _ ((V2.out.below HB3.out).more HB3.out.size)).mono ?_
            rintro e w4 ⟨Y, k4, rfl, hx4, hb4⟩
            have HX3 := Lib.hid (HX3.out.on hb4)
            have HX4 := Lib.hid hx4
            have HB4 := Lib.hid (HB3.out.trans (hb4.mono HB3.out.size))
            clear hx4 hb4 HN
            go_wp2_with fail
            refine (HB.out _ X Y k3 k4 HX3.out HX4.out).mono ?_
            rintro e w5 ⟨rfl, rfl⟩
            clear HB
            go_wp2
            go_ret
            exact ⟨rfl, HB4.out⟩
          · obtain rfl := hyz rfl
            clear hyz
            go_wp2_with fail
            refine (HI.out _ 0 V1.out V2.out).mono ?_
            rintro e w2 ⟨he, n, rfl⟩
            obtain rfl := he.out
            have HB0 : Hid (Below w.heap.size w ((w.drewN 0).drewN n)) := below_drewN (below_drewN (Below.refl _ _) 0) n
            clear he HI
            go_wp2_with fail
            refine (HM.out _ ((V1.out.below HB0.out).more HB0.out.size)).mono ?_
            rintro e w3 ⟨X, k3, rfl, hx3, hb3⟩
            have HX3 := Lib.hid hx3
            have HB3 := Lib.hid (HB0.out.trans (hb3.mono HB0.out.size))
            clear hx3 hb3 HM
            go_wp2_with fail
            refine (HN.out _ ((V2.out.below HB3.out).more HB3.out.size)).mono ?_
            rintro e w4 ⟨Y, k4, rfl, hx4, hb4⟩
            have HX3 := Lib.hid (HX3.out.on hb4)
            have HX4 := Lib.hid hx4
            have HB4 := Lib.hid (HB3.out.trans (hb4.mono HB3.out.size))
            clear hx4 hb4 HN
            go_wp2_with fail
            refine (HB.out _ X Y k3 k4 HX3.out HX4.out).mono ?_
            rintro e w5 ⟨rfl, rfl⟩
            clear HB
            go_wp2
            go_ret
            exact ⟨rfl, HB4.out⟩
      · have HY := Lib.hid (fun W (h : IntsAt W W.heap.size A2 z2) (k : IntsAt W W.heap.size A3 z3) => sub_bad (c := c2) (d := c3) hL h k (by omega) (by omega) (fun h => f3 h.2))
        have HZ := Lib.hid (fun W (h : IntsAt W W.heap.size A1 z1) (k : IntsAt W W.heap.size A3 z3) => sub_bad (c := c1) (d := c3) hL h k (by omega) (by omega) (fun h => f3 h.2))
        clear f1 f2 f3 v1 v2 v3
        generalize z1.isSublist z2 = x at *
        generalize z2.isSublist z1 = t at *
        go_enter Try.func4, Try.ntmps4
        go_wp2_with fail
        refine (HS.out _ V1.out).mono ?_
        rintro e w1 ⟨rfl, rfl⟩
        go_wp2_with fail
        refine (HX.out _ V1.out V2.out).mono ?_
        rintro e w1 ⟨rfl, rfl⟩
        go_wp2_with fail
        refine (HY.out _ V2.out V3.out).mono ?_
        rintro e w1 ⟨⟨k, rfl⟩, rfl⟩
        go_wp2_with fail
        refine (HZ.out _ V1.out V3.out).mono ?_
        rintro e w1 ⟨⟨k', rfl⟩, rfl⟩
        go_wp2_with fail
        refine (HT.out _ V1.out V2.out).mono ?_
        rintro e w1 ⟨rfl, rfl⟩
        go_wp2
        go_quiet (fail)
        go_wp2
        go_ret
        exact ⟨rfl, below_drewN (Below.refl _ _) _⟩
    · have HX := Lib.hid (fun W (h : IntsAt W W.heap.size A1 z1) (k : IntsAt W W.heap.size A2 z2) => sub_bad (c := c1) (d := c2) hL h k (by omega) (by omega) (fun h => f2 h.2))
      have HT := Lib.hid (fun W (h : IntsAt W W.heap.size A1 z1) (k : IntsAt W W.heap.size A2 z2) => sub_bad (c := c2) (d := c1) hL k h (by omega) (by omega) (fun h => f2 h.1))
      have HY := Lib.hid (fun W (h : IntsAt W W.heap.size A2 z2) (k : IntsAt W W.heap.size A3 z3) => sub_bad (c := c2) (d := c3) hL h k (by omega) (by omega) (fun h => f2 h.1))
      have HZ := Lib.hid (fun W (h : IntsAt W W.heap.size A1 z1) (k : IntsAt W W.heap.size A3 z3) => sub_any a0 A1 c1 z1 A3 c3 z3 W hL h k (by omega) (by omega))
      clear f1 f2 v1 v2 v3
      generalize subOut a0 z1 z3 = q at *
      obtain ⟨q1, q2⟩ := q
      unfold boolOut at HZ
      simp only at HZ
      generalize errV q2 = E at *
      go_enter Try.func4, Try.ntmps4
      go_wp2_with fail
      refine (HS.out _ V1.out).mono ?_
      rintro e w1 ⟨rfl, rfl⟩
      go_wp2_with fail
      refine (HX.out _ V1.out V2.out).mono ?_
      rintro e w1 ⟨⟨k, rfl⟩, rfl⟩
      go_wp2_with fail
      refine (HY.out _ V2.out V3.out).mono ?_
      rintro e w1 ⟨⟨k', rfl⟩, rfl⟩
      go_wp2_with fail
      refine (HZ.out _ V1.out V3.out).mono ?_
      rintro e w1 ⟨he, rfl⟩
      obtain rfl := he.out
      clear he HZ
      go_wp2_with fail
      refine (HT.out _ V1.out V2.out).mono ?_
      rintro e w1 ⟨⟨k2, rfl⟩, rfl⟩
      go_wp2
      go_quiet (fail)
      go_wp2
      go_ret
      exact ⟨rfl, below_drewN (Below.refl _ _) _⟩
  · have HS := Lib.hid (fun W (h : IntsAt W W.heap.size A1 z1) => sub_bad (c := c1) (d := c1) hL h h (by omega) (by omega) (fun h => f1 h.1))
    clear f1 v1 v2 v3
    go_enter Try.func4, Try.ntmps4
    go_wp2_with fail
    refine (HS.out _ V1.out).mono ?_
    rintro e w1 ⟨⟨k, rfl⟩, rfl⟩
    go_wp2
    go_ret
    exact ⟨rfl, Below.refl _ _⟩


set_option maxRecDepth 100000 in
theorem lifted (os : Os) (started : os.Started) (H : Type) (enc : TypeId × Value → H) :
    ReturnsInHanded {} Try.checked os 4 .any (Rows.wordOrderSpec.pre6 enc Try.prog Try.f4 Rows.wordOrderRow.domain false) (Rows.wordOrderSpec.post enc Try.prog Try.f4 false true false false) := by
  refine returnsInHanded_of_change_sized (C := Try.checked) own started (by kernel_rfl) Try.func4
    (ChangeSpec.witness6 (enc := enc) (C := Try.checked) false ⟨#[], #[.int .i64 0, .slice none 0 0, .slice none 0 0, .slice none 0 0], []⟩ 8 (by kernel_rfl) (by kernel_rfl) (by kernel_rfl) (by kernel_rfl)) ?_
  intro W base args ds gs before hval0 hW hcnd hsz0 _
  have hval : ∀ (j : Nat) t v, Try.f4.params[j]? = some t → args[j]? = some v → Value.okWide Try.prog W .any base t v := hval0
  have hsz : (DataW.weightsEach Try.prog (Try.f4.params.toList ++ Rows.wordOrderSpec.plain.varTypes Try.prog) (ds ++ gs)).all (· ≤ reachBytes) = true := hsz0
  have hW' := hW
  obtain ⟨p, q, hA0, hV0, rfl, hfz, hnd⟩ := hW
  have hV : DataW.TrodVars enc Try.prog W (fun _ => true) [] gs q := hV0
  have hA : DataW.TrodAll enc Try.prog W 0 (fun _ => true) true Try.f4.params.toList args.toList ds p := hA0
  rw [Try.params4] at hA hval hsz
  obtain ⟨v0, vs0, d0, ds0, p0, q0, hargs, rfl, rfl, h0, rr0⟩ := trodAll_cons hA
  obtain ⟨v1, vs1, d1, ds1, p1, q1, rfl, rfl, rfl, h1, rr1⟩ := trodAll_cons rr0
  obtain ⟨v2, vs2, d2, ds2, p2, q2, rfl, rfl, rfl, h2, rr2⟩ := trodAll_cons rr1
  obtain ⟨v3, vs3, d3, ds3, p3, q3, rfl, rfl, rfl, h3, rr3⟩ := trodAll_cons rr2
  obtain ⟨rfl, rfl, rfl⟩ := trodAll_nil rr3
  obtain rfl : args = #[v0, v1, v2, v3] := by cases args; simp_all
  obtain ⟨rfl, rfl⟩ := trodVars_none hV
  have k0 := h0
  have lt0 : ∀ x ∈ p0, x.block < W.heap.size := by obtain ⟨m, hm⟩ := k0; exact DataW.trod_lt m _ _ _ hm
  have k1 := h1
  have lt1 : ∀ x ∈ p1, x.block < W.heap.size := by obtain ⟨m, hm⟩ := k1; exact DataW.trod_lt m _ _ _ hm
  have k2 := h2
  have lt2 : ∀ x ∈ p2, x.block < W.heap.size := by obtain ⟨m, hm⟩ := k2; exact DataW.trod_lt m _ _ _ hm
  have k3 := h3
  have lt3 : ∀ x ∈ p3, x.block < W.heap.size := by obtain ⟨m, hm⟩ := k3; exact DataW.trod_lt m _ _ _ hm
  obtain ⟨a0, rfl, rfl, rfl, w0⟩ := open_int Try.underlying3 (hval 0 3 v0 rfl rfl) h0
  obtain ⟨l0, hh0⟩ := bounds_i64 w0
  obtain ⟨A1, len1, c1, rfl⟩ := okWide_slice Try.underlying22 (hval 1 22 v1 rfl rfl)
  obtain ⟨z1, rfl, x1, r1⟩ : ∃ zs : List Int, len1 = zs.length ∧ IntsAt W W.heap.size A1 zs ∧ zs.length ≤ 17592186043904 := by
    obtain ⟨fuel, hf⟩ := h1
    rcases open_ints Try.underlying22 Try.underlying3 (by kernel_rfl) hf with ⟨hcs, _⟩ | ⟨x, l, c, zs, hcs, _, hl, hm, hz, hx, hcell, hwz⟩
    · simp [Value.cells] at hcs
      obtain ⟨rfl, rfl, rfl⟩ := hcs
      exact ⟨[], rfl, IntsAt.nil _ _ _, by simp⟩
    · simp [Value.cells] at hcs
      obtain ⟨rfl, rfl, rfl⟩ := hcs
      have hd := congrArg Prod.fst hx
      simp only at hd
      have := sized_slice hsz (j := 1) (t := 22) (e := 3) rfl (by rw [hd]; rfl) Try.underlying22
      rw [(show Try.prog.bytesOf 3 = 8 by kernel_rfl)] at this
      simp only [reachBytes, lits, List.length_map, List.length_take, List.length_drop] at this
      have hz' : zs.length = c1 := by simpa using hz
      exact ⟨zs.take len1, by rw [List.length_take]; omega, intsAt_of_open hcell hwz len1, by rw [List.length_take]; omega⟩
  obtain ⟨A2, len2, c2, rfl⟩ := okWide_slice Try.underlying22 (hval 2 22 v2 rfl rfl)
  obtain ⟨z2, rfl, x2, r2⟩ : ∃ zs : List Int, len2 = zs.length ∧ IntsAt W W.heap.size A2 zs ∧ zs.length ≤ 17592186043904 := by
    obtain ⟨fuel, hf⟩ := h2
    rcases open_ints Try.underlying22 Try.underlying3 (by kernel_rfl) hf with ⟨hcs, _⟩ | ⟨x, l, c, zs, hcs, _, hl, hm, hz, hx, hcell, hwz⟩
    · simp [Value.cells] at hcs
      obtain ⟨rfl, rfl, rfl⟩ := hcs
      exact ⟨[], rfl, IntsAt.nil _ _ _, by simp⟩
    · simp [Value.cells] at hcs
      obtain ⟨rfl, rfl, rfl⟩ := hcs
      have hd := congrArg Prod.fst hx
      simp only at hd
      have := sized_slice hsz (j := 2) (t := 22) (e := 3) rfl (by rw [hd]; rfl) Try.underlying22
      rw [(show Try.prog.bytesOf 3 = 8 by kernel_rfl)] at this
      simp only [reachBytes, lits, List.length_map, List.length_take, List.length_drop] at this
      have hz' : zs.length = c2 := by simpa using hz
      exact ⟨zs.take len2, by rw [List.length_take]; omega, intsAt_of_open hcell hwz len2, by rw [List.length_take]; omega⟩
  obtain ⟨A3, len3, c3, rfl⟩ := okWide_slice Try.underlying22 (hval 3 22 v3 rfl rfl)
  obtain ⟨z3, rfl, x3, r3⟩ : ∃ zs : List Int, len3 = zs.length ∧ IntsAt W W.heap.size A3 zs ∧ zs.length ≤ 17592186043904 := by
    obtain ⟨fuel, hf⟩ := h3
    rcases open_ints Try.underlying22 Try.underlying3 (by kernel_rfl) hf with ⟨hcs, _⟩ | ⟨x, l, c, zs, hcs, _, hl, hm, hz, hx, hcell, hwz⟩
    · simp [Value.cells] at hcs
      obtain ⟨rfl, rfl, rfl⟩ := hcs
      exact ⟨[], rfl, IntsAt.nil _ _ _, by simp⟩
    · simp [Value.cells] at hcs
      obtain ⟨rfl, rfl, rfl⟩ := hcs
      have hd := congrArg Prod.fst hx
      simp only at hd
      have := sized_slice hsz (j := 3) (t := 22) (e := 3) rfl (by rw [hd]; rfl) Try.underlying22
      rw [(show Try.prog.bytesOf 3 = 8 by kernel_rfl)] at this
      simp only [reachBytes, lits, List.length_map, List.length_take, List.length_drop] at this
      have hz' : zs.length = c3 := by simpa using hz
      exact ⟨zs.take len3, by rw [List.length_take]; omega, intsAt_of_open hcell hwz len3, by rw [List.length_take]; omega⟩
  clear hA0 hval0
  refine (walk a0 A1 c1 z1 A2 c2 z2 A3 c3 z3 W l0 hh0 x1 r1 x2 r2 x3 r3).mono fun e W' ⟨he, bel⟩ => ?_
  subst he
  exact ⟨_, rfl, _, _, _, [], _, [], hW', trodAll_mk1 (shut_bool Try.underlying4 _), (trodAll_cons_mk (Below.trod laidOut (by kernel_rfl) (of_decide_eq_true (by kernel_rfl)) k0 bel lt0) (trodAll_cons_mk (Below.trod laidOut (by kernel_rfl) (of_decide_eq_true (by kernel_rfl)) k1 bel lt1) (trodAll_cons_mk (Below.trod laidOut (by kernel_rfl) (of_decide_eq_true (by kernel_rfl)) k2 bel lt2) (trodAll_cons_mk (Below.trod laidOut (by kernel_rfl) (of_decide_eq_true (by kernel_rfl)) k3 bel lt3) trodAll_mk0)))), rfl, bel.frame _, fun h => by cases h⟩

theorem over : Rows.wordOrderRow.holds Try.pinned (OpenSpec.ofChange Rows.wordOrderSpec) :=
  OpenClaim.holds_of_wide 4 Try.f4 rfl rfl rfl rfl rfl rfl rfl ⟨rfl, rfl, rfl, rfl, rfl⟩ rfl rfl rfl rfl rfl (by kernel_rfl) Try.func4 (by kernel_rfl)
    (of_decide_eq_true (by kernel_rfl)) (by unfold Func.isWrapper; rw [if_neg (of_decide_eq_false (by kernel_rfl))]; exact ⟨rfl, rfl⟩)
    (fun os started H enc _ => lifted os started H enc)
theorem proved : Rows.WordOrderSaid := over
#print axioms proved
end Go.Proofs.Ytmcgdajembhocaa.wordOrder
