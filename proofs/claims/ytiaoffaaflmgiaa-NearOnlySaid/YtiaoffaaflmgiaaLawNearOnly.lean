/-
  The statement NearOnlySaid of this seat, proved: for every input the law returns true and its arguments read behind the call as before. Conditions: none but the row's own (each argument within the reach).
-/
import Derived.Test.YtiaoffaaflmgiaaRows
import Derived.Test.YtiaoffaaflmgiaaWords
import Derived.WalkKit
import Derived.ProofKit
import Derived.OpenShut
import Derived.ShutString
import Derived.ChangeOld
import Derived.Below
import Derived.SizedLaws
import Derived.Lib.Hide
import Derived.Test.YtiaoffaaflmgiaaNearK
import Derived.Deep.QuietTactic
import Derived.BigQuiet
namespace Go.Proofs.Ytiaoffaaflmgiaa.nearOnly
open Go.ChangeShapes Go.WideShapes Go.ChangeAt Go.RowKit Go.IntWalk Go.Proofs.Ytiaoffaaflmgiaa.Wd
open Go.ChangeMaps (open_string shut_string)
set_option linter.unusedVariables false

theorem own : ownKnob Try.prog.godebug = none := by kernel_rfl
theorem laidOut : laidOutB Try.prog = true := by kernel_rfl
open Go.Proofs.Ytiaoffaaflmgiaa.Wo Go.Proofs.Ytiaoffaaflmgiaa.Ne
theorem only_near (s : Int) (v z : List Int) : lev (only s v) (only s z) ≤ lev v z := lev_filter (has s) v z
theorem fact_lev : lev [0, 1] [1] = 1 := by
  rw [lev_cons, lev_cons, lev_nil, lev_nil2, lev_nil2]; decide
theorem fact_near (w : World) : Calls Try.prog 7 #[.int .i64 2, .slice (some ⟨w.heap.size, 0, none⟩) 2 2, .slice (some ⟨w.heap.size + 1, 0, none⟩) 1 1] ((w.alloc (.cells #[.int .i64 0, .int .i64 1] 3)).alloc (.cells #[.int .i64 1] 3)) fun e w' =>
    e = .returned (.tuple #[.int .i64 1, .nilIface]) ∧ Below w.heap.size w w' := by
  have hb1 : Below w.heap.size w (w.alloc (.cells #[.int .i64 0, .int .i64 1] 3)) := (Below.refl _ _).alloc (Nat.le_refl _) _
  have hs1 : (w.alloc (.cells #[.int .i64 0, .int .i64 1] 3)).heap.size = w.heap.size + 1 := by simp
  have hA : IntsAt (w.alloc (.cells #[.int .i64 0, .int .i64 1] 3)) (w.alloc (.cells #[.int .i64 0, .int .i64 1] 3)).heap.size (some ⟨w.heap.size, 0, none⟩) [0, 1] := by
    refine ⟨fun k u hk => ⟨_, rfl, by simp, ?_⟩, by intro z hz; simp at hz; rcases hz with rfl | rfl <;> exact ⟨by decide, by decide⟩⟩
    rcases k with _ | _ | k
    · simp at hk; subst hk; simp [Addr.add, i64]
    · simp at hk; subst hk; simp [Addr.add, i64]
    · simp at hk
  generalize w.alloc (.cells #[.int .i64 0, .int .i64 1] 3) = w1 at *
  have hb2 : Below w1.heap.size w1 (w1.alloc (.cells #[.int .i64 1] 3)) := (Below.refl _ _).alloc (Nat.le_refl _) _
  have hB : IntsAt (w1.alloc (.cells #[.int .i64 1] 3)) (w1.alloc (.cells #[.int .i64 1] 3)).heap.size (some ⟨w1.heap.size, 0, none⟩) [1] := by
    refine ⟨fun k u hk => ⟨_, rfl, by simp, ?_⟩, by intro z hz; simp at hz; subst hz; exact ⟨by decide, by decide⟩⟩
    rcases k with _ | k
    · simp at hk; subst hk; simp [Addr.add, i64]
    · simp at hk
  rw [← hs1]
  have h := dist_ok (L := 2) (c := 2) (d := 1) ⟨by decide, by decide⟩ (hA.on hb2) hB ⟨by decide, by decide, by decide⟩ ⟨by decide, by decide, by decide⟩
  rw [fact_lev] at h
  exact h.mono fun e w' ⟨h1, h3⟩ => ⟨h1, hb1.trans ((hb2.trans (h3.mono hb2.size)).mono (by omega))⟩
theorem only_two {L : Int} {A : Option Addr} {c : Nat} {v : List Int} {w : World} {s : Int} (hL : Small L) (hs : Small s) (hA : IntsAt w w.heap.size A v) (hv : v.length ≤ 17592186044416) :
    Calls Try.prog 13 #[.int .i64 L, .slice A v.length c, .int .i64 s] w fun e w' => ∃ (X : Option Addr) (n k : Nat), (e = .returned (.tuple #[.slice X n k, .nilIface]) ∨ ∃ i : Int, e = .returned (.tuple #[.slice X n k, .iface 45 (.int .i64 i)])) ∧ Below w.heap.size w w' := by
  by_cases h : Fine L v ∧ setOk L s
  · exact (only_ok (c := c) hL hA h.1 h.2).mono fun e w' ⟨X, k, h1, _, h3⟩ => ⟨X, _, k, .inl h1, h3⟩
  · exact (only_bad (c := c) hL hs hA hv h).mono fun e w' ⟨X, k, i, h1, h3⟩ => ⟨X, _, k, .inr ⟨i, h1⟩, h3⟩

set_option maxRecDepth 100000 in
set_option maxHeartbeats 4000000 in
theorem walk (a0 : Int) (A1 : Option Addr) (c1 : Nat) (z1 : List Int) (A2 : Option Addr) (c2 : Nat) (z2 : List Int) (a3 : Int) (w : World) (l0 : -9223372036854775808 ≤ a0) (h0 : a0 ≤ 9223372036854775807) (v1 : IntsAt w w.heap.size A1 z1) (r1 : z1.length ≤ 17592186043904) (m1 : z1.length ≤ c1) (v2 : IntsAt w w.heap.size A2 z2) (r2 : z2.length ≤ 17592186043904) (m2 : z2.length ≤ c2) (l3 : -9223372036854775808 ≤ a3) (h3 : a3 ≤ 9223372036854775807) :
    Calls Try.prog 6 #[.int .i64 a0, .slice A1 z1.length c1, .slice A2 z2.length c2, .int .i64 a3] w fun e w' => e = .returned (.bool true) ∧ Below w.heap.size w w' := by
  have hL : Small a0 := ⟨l0, h0⟩
  have hS : Small a3 := ⟨l3, h3⟩
  have V1 := Lib.hid v1
  have V2 := Lib.hid v2
  have HP := Lib.hid (fun W => fact_near W)
  by_cases f12 : Fine a0 z1 ∧ Fine a0 z2
  · obtain ⟨f1, f2⟩ := f12
    have HD := Lib.hid (fun W (h : IntsAt W W.heap.size A1 z1) (k : IntsAt W W.heap.size A2 z2) => dist_ok (c := c1) (d := c2) hL h k f1 f2)
    by_cases fs : setOk a0 a3
    · have HA := Lib.hid (fun W (h : IntsAt W W.heap.size A1 z1) => only_ok (c := c1) hL h f1 fs)
      have HB := Lib.hid (fun W (h : IntsAt W W.heap.size A2 z2) => only_ok (c := c2) hL h f2 fs)
      have HE := Lib.hid (fun W X Y m n (h : IntsAt W W.heap.size X (only a3 z1)) (k : IntsAt W W.heap.size Y (only a3 z2)) => dist_ok (c := m) (d := n) hL h k (only_fine f1 a3) (only_fine f2 a3))
      have hn := only_near a3 z1 z2
      clear f1 f2 fs v1 v2
      generalize lev (only a3 z1) (only a3 z2) = X at *
      generalize lev z1 z2 = D at *
      generalize only a3 z1 = O1 at *
      generalize only a3 z2 = O2 at *
      have hi : (X : Int) ≤ (D : Int) := by omega
      go_enter Try.func6, Try.ntmps6
      go_wp2_with fail
      refine (HP.out _).mono ?_
      rintro e u0 ⟨rfl, hb⟩
      have B1 := Lib.hid hb
      clear hb HP
      go_wp2_with fail
      refine (HA.out _ (V1.out.on B1.out)).mono ?_
      rintro e u1 ⟨X1, k1, rfl, hx, hb⟩
      have B2 := Lib.hid (B1.out.trans (hb.mono B1.out.size))
      clear hb  HA B1
      have X1H := Lib.hid hx
      clear hx
      go_wp2_with fail
      refine (HB.out _ (V2.out.on B2.out)).mono ?_
      rintro e u2 ⟨X2, k2, rfl, hx, hb⟩
      have X1H := Lib.hid (X1H.out.on hb)
      have B3 := Lib.hid (B2.out.trans (hb.mono B2.out.size))
      clear hb  HB B2
      have X2H := Lib.hid hx
      clear hx
      go_wp2_with fail
      refine (HD.out _ (V1.out.on B3.out) (V2.out.on B3.out)).mono ?_
      rintro e u3 ⟨rfl, hb⟩
      have X1H := Lib.hid (X1H.out.on hb)
      have X2H := Lib.hid (X2H.out.on hb)
      have B4 := Lib.hid (B3.out.trans (hb.mono B3.out.size))
      clear hb  HD B3
      go_wp2_with fail
      refine (HE.out _ X1 X2 k1 k2 X1H.out X2H.out).mono ?_
      rintro e u4 ⟨rfl, hb⟩
      have B5 := Lib.hid (B4.out.trans (hb.mono B4.out.size))
      clear hb  HE B4
      go_wp2
      go_ret
      exact ⟨rfl, B5.out⟩
    · have HA := Lib.hid (fun W (h : IntsAt W W.heap.size A1 z1) => only_bad (c := c1) hL hS h (by omega) (fun q => fs q.2))
      have HB := Lib.hid (fun W (h : IntsAt W W.heap.size A2 z2) => only_bad (c := c2) hL hS h (by omega) (fun q => fs q.2))
      obtain ⟨P, hP, p1, p2, p3⟩ := shl_lim f1.1.1 f1.1.2
      obtain ⟨g1, g6⟩ := f1.1
      have g0 : 0 ≤ a0 := by omega
      have g64 : a0 ≤ 64 := by omega
      have hs : ¬ (0 ≤ a3 ∧ a3 < P) := by rw [← p1]; exact fs
      clear f1 f2 fs v1 v2 p1
      generalize lev z1 z2 = D at *
      rcases (show a3 < 0 ∨ (¬ a3 < 0 ∧ P ≤ a3) by omega) with hs | ⟨hs, hs2⟩
      · go_enter Try.func6, Try.ntmps6
        go_wp2_with fail
        refine (HP.out _).mono ?_
        rintro e u0 ⟨rfl, hb⟩
        have B1 := Lib.hid hb
        clear hb HP
        go_wp2_with fail
        refine (HA.out _ (V1.out.on B1.out)).mono ?_
        rintro e u1 ⟨X1, k1, i1, rfl, hb⟩
        have B2 := Lib.hid (B1.out.trans (hb.mono B1.out.size))
        clear hb  HA B1
        go_wp2_with fail
        refine (HB.out _ (V2.out.on B2.out)).mono ?_
        rintro e u2 ⟨X2, k2, i2, rfl, hb⟩
        have B3 := Lib.hid (B2.out.trans (hb.mono B2.out.size))
        clear hb  HB B2
        go_wp2_with fail
        refine (HD.out _ (V1.out.on B3.out) (V2.out.on B3.out)).mono ?_
        rintro e u3 ⟨rfl, hb⟩
        have B4 := Lib.hid (B3.out.trans (hb.mono B3.out.size))
        clear hb  HD B3
        go_wp2
        go_ret
        exact ⟨rfl, B4.out⟩
      · go_enter Try.func6, Try.ntmps6
        go_wp2_with fail
        refine (HP.out _).mono ?_
        rintro e u0 ⟨rfl, hb⟩
        have B1 := Lib.hid hb
        clear hb HP
        go_wp2_with fail
        refine (HA.out _ (V1.out.on B1.out)).mono ?_
        rintro e u1 ⟨X1, k1, i1, rfl, hb⟩
        have B2 := Lib.hid (B1.out.trans (hb.mono B1.out.size))
        clear hb  HA B1
        go_wp2_with fail
        refine (HB.out _ (V2.out.on B2.out)).mono ?_
        rintro e u2 ⟨X2, k2, i2, rfl, hb⟩
        have B3 := Lib.hid (B2.out.trans (hb.mono B2.out.size))
        clear hb  HB B2
        go_wp2_with fail
        refine (HD.out _ (V1.out.on B3.out) (V2.out.on B3.out)).mono ?_
        rintro e u3 ⟨rfl, hb⟩
        have B4 := Lib.hid (B3.out.trans (hb.mono B3.out.size))
        clear hb  HD B3
        go_wp2
        go_ret
        exact ⟨rfl, B4.out⟩
  · have HD := Lib.hid (fun W (h : IntsAt W W.heap.size A1 z1) (k : IntsAt W W.heap.size A2 z2) => dist_bad (c := c1) (d := c2) hL h k (by omega) (by omega) f12)
    have HA := Lib.hid (fun W (h : IntsAt W W.heap.size A1 z1) => only_two (c := c1) hL hS h (by omega))
    have HB := Lib.hid (fun W (h : IntsAt W W.heap.size A2 z2) => only_two (c := c2) hL hS h (by omega))
    clear f12 v1 v2
    go_enter Try.func6, Try.ntmps6
    go_wp2_with fail
    refine (HP.out _).mono ?_
    rintro e u0 ⟨rfl, hb⟩
    have B1 := Lib.hid hb
    clear hb HP
    go_wp2_with fail
    refine (HA.out _ (V1.out.on B1.out)).mono ?_
    rintro e u1 ⟨X1, n1, k1, he, hb⟩
    have B2 := Lib.hid (B1.out.trans (hb.mono B1.out.size))
    clear hb  HA B1
    rcases he with rfl | ⟨i1, rfl⟩
    ·
      go_wp2_with fail
      refine (HB.out _ (V2.out.on B2.out)).mono ?_
      rintro e u2 ⟨X2, n2, k2, he, hb⟩
      have B3 := Lib.hid (B2.out.trans (hb.mono B2.out.size))
      clear hb  HB B2
      rcases he with rfl | ⟨i2, rfl⟩
      ·
        go_wp2_with fail
        refine (HD.out _ (V1.out.on B3.out) (V2.out.on B3.out)).mono ?_
        rintro e u3 ⟨⟨i3, rfl⟩, hb⟩
        have B4 := Lib.hid (B3.out.trans (hb.mono B3.out.size))
        clear hb  HD B3
        go_wp2
        go_ret
        exact ⟨rfl, B4.out⟩
      ·
        go_wp2_with fail
        refine (HD.out _ (V1.out.on B3.out) (V2.out.on B3.out)).mono ?_
        rintro e u4 ⟨⟨i3, rfl⟩, hb⟩
        have B4 := Lib.hid (B3.out.trans (hb.mono B3.out.size))
        clear hb  HD B3
        go_wp2
        go_ret
        exact ⟨rfl, B4.out⟩
    ·
      go_wp2_with fail
      refine (HB.out _ (V2.out.on B2.out)).mono ?_
      rintro e u5 ⟨X2, n2, k2, he, hb⟩
      have B3 := Lib.hid (B2.out.trans (hb.mono B2.out.size))
      clear hb  HB B2
      rcases he with rfl | ⟨i2, rfl⟩
      ·
        go_wp2_with fail
        refine (HD.out _ (V1.out.on B3.out) (V2.out.on B3.out)).mono ?_
        rintro e u6 ⟨⟨i3, rfl⟩, hb⟩
        have B4 := Lib.hid (B3.out.trans (hb.mono B3.out.size))
        clear hb  HD B3
        go_wp2
        go_ret
        exact ⟨rfl, B4.out⟩
      ·
        go_wp2_with fail
        refine (HD.out _ (V1.out.on B3.out) (V2.out.on B3.out)).mono ?_
        rintro e u7 ⟨⟨i3, rfl⟩, hb⟩
        have B4 := Lib.hid (B3.out.trans (hb.mono B3.out.size))
        clear hb  HD B3
        go_wp2
        go_ret
        exact ⟨rfl, B4.out⟩


set_option maxRecDepth 100000 in
theorem lifted (os : Os) (started : os.Started) (H : Type) (enc : TypeId × Value → H) :
    ReturnsInHanded {} Try.checked os 6 .any (Rows.nearOnlySpec.pre6 enc Try.prog Try.f6 Rows.nearOnlyRow.domain false) (Rows.nearOnlySpec.post enc Try.prog Try.f6 false true false false) := by
  refine returnsInHanded_of_change_sized (C := Try.checked) own started (by kernel_rfl) Try.func6
    (ChangeSpec.witness6 (enc := enc) (C := Try.checked) false ⟨#[], #[.int .i64 0, .slice none 0 0, .slice none 0 0, .int .i64 0], []⟩ 8 (by kernel_rfl) (by kernel_rfl) (by kernel_rfl) (by kernel_rfl)) ?_
  intro W base args ds gs before hval0 hW hcnd hsz0 _
  have hval : ∀ (j : Nat) t v, Try.f6.params[j]? = some t → args[j]? = some v → Value.okWide Try.prog W .any base t v := hval0
  have hsz : (DataW.weightsEach Try.prog (Try.f6.params.toList ++ Rows.nearOnlySpec.plain.varTypes Try.prog) (ds ++ gs)).all (· ≤ reachBytes) = true := hsz0
  have hW' := hW
  obtain ⟨p, q, hA0, hV0, rfl, hfz, hnd⟩ := hW
  have hV : DataW.TrodVars enc Try.prog W (fun _ => true) [] gs q := hV0
  have hA : DataW.TrodAll enc Try.prog W 0 (fun _ => true) true Try.f6.params.toList args.toList ds p := hA0
  rw [Try.params6] at hA hval hsz
  obtain ⟨v0, vs0, d0, ds0, p0, q0, hargs, rfl, rfl, h0, rr0⟩ := trodAll_cons hA
  obtain ⟨v1, vs1, d1, ds1, p1, q1, rfl, rfl, rfl, h1, rr1⟩ := trodAll_cons rr0
  obtain ⟨v2, vs2, d2, ds2, p2, q2, rfl, rfl, rfl, h2, rr2⟩ := trodAll_cons rr1
  obtain ⟨v3, vs3, d3, ds3, p3, q3, rfl, rfl, rfl, h3, rr3⟩ := trodAll_cons rr2
  obtain ⟨rfl, rfl, rfl⟩ := trodAll_nil rr3
  obtain rfl : args = #[v0, v1, v2, v3] := by cases args; simp_all
  obtain ⟨rfl, rfl⟩ := trodVars_none hV
  have k0 := h0
  have lt0 : ∀ x ∈ p0, x.block < W.heap.size := by obtain ⟨m, hm⟩ := k0; exact DataW.trod_lt m _ _ _ hm
  have k1 := h1
  have lt1 : ∀ x ∈ p1, x.block < W.heap.size := by obtain ⟨m, hm⟩ := k1; exact DataW.trod_lt m _ _ _ hm
  have k2 := h2
  have lt2 : ∀ x ∈ p2, x.block < W.heap.size := by obtain ⟨m, hm⟩ := k2; exact DataW.trod_lt m _ _ _ hm
  have k3 := h3
  have lt3 : ∀ x ∈ p3, x.block < W.heap.size := by obtain ⟨m, hm⟩ := k3; exact DataW.trod_lt m _ _ _ hm
  obtain ⟨a0, rfl, rfl, rfl, w0⟩ := open_int Try.underlying3 (hval 0 3 v0 rfl rfl) h0
  obtain ⟨l0, hh0⟩ := bounds_i64 w0
  obtain ⟨A1, len1, c1, rfl⟩ := okWide_slice Try.underlying22 (hval 1 22 v1 rfl rfl)
  obtain ⟨z1, rfl, x1, r1, m1⟩ : ∃ zs : List Int, len1 = zs.length ∧ IntsAt W W.heap.size A1 zs ∧ zs.length ≤ 17592186043904 ∧ zs.length ≤ c1 := by
    obtain ⟨fuel, hf⟩ := h1
    rcases open_ints Try.underlying22 Try.underlying3 (by kernel_rfl) hf with ⟨hcs, _⟩ | ⟨x, l, c, zs, hcs, _, hl, hm, hz, hx, hcell, hwz⟩
    · simp [Value.cells] at hcs
      obtain ⟨rfl, rfl, rfl⟩ := hcs
      exact ⟨[], rfl, IntsAt.nil _ _ _, by simp, by simp⟩
    · simp [Value.cells] at hcs
      obtain ⟨rfl, rfl, rfl⟩ := hcs
      have hd := congrArg Prod.fst hx
      simp only at hd
      have := sized_slice hsz (j := 1) (t := 22) (e := 3) rfl (by rw [hd]; rfl) Try.underlying22
      rw [(show Try.prog.bytesOf 3 = 8 by kernel_rfl)] at this
      simp only [reachBytes, lits, List.length_map, List.length_take, List.length_drop] at this
      have hz' : zs.length = c1 := by simpa using hz
      exact ⟨zs.take len1, by rw [List.length_take]; omega, intsAt_of_open hcell hwz len1, by rw [List.length_take]; omega, by rw [List.length_take]; omega⟩
  obtain ⟨A2, len2, c2, rfl⟩ := okWide_slice Try.underlying22 (hval 2 22 v2 rfl rfl)
  obtain ⟨z2, rfl, x2, r2, m2⟩ : ∃ zs : List Int, len2 = zs.length ∧ IntsAt W W.heap.size A2 zs ∧ zs.length ≤ 17592186043904 ∧ zs.length ≤ c2 := by
    obtain ⟨fuel, hf⟩ := h2
    rcases open_ints Try.underlying22 Try.underlying3 (by kernel_rfl) hf with ⟨hcs, _⟩ | ⟨x, l, c, zs, hcs, _, hl, hm, hz, hx, hcell, hwz⟩
    · simp [Value.cells] at hcs
      obtain ⟨rfl, rfl, rfl⟩ := hcs
      exact ⟨[], rfl, IntsAt.nil _ _ _, by simp, by simp⟩
    · simp [Value.cells] at hcs
      obtain ⟨rfl, rfl, rfl⟩ := hcs
      have hd := congrArg Prod.fst hx
      simp only at hd
      have := sized_slice hsz (j := 2) (t := 22) (e := 3) rfl (by rw [hd]; rfl) Try.underlying22
      rw [(show Try.prog.bytesOf 3 = 8 by kernel_rfl)] at this
      simp only [reachBytes, lits, List.length_map, List.length_take, List.length_drop] at this
      have hz' : zs.length = c2 := by simpa using hz
      exact ⟨zs.take len2, by rw [List.length_take]; omega, intsAt_of_open hcell hwz len2, by rw [List.length_take]; omega, by rw [List.length_take]; omega⟩
  obtain ⟨a3, rfl, rfl, rfl, w3⟩ := open_int Try.underlying3 (hval 3 3 v3 rfl rfl) h3
  obtain ⟨l3, hh3⟩ := bounds_i64 w3
  clear hA0 hval0
  refine (walk a0 A1 c1 z1 A2 c2 z2 a3 W l0 hh0 x1 r1 m1 x2 r2 m2 l3 hh3).mono fun e W' ⟨he, bel⟩ => ?_
  subst he
  exact ⟨_, rfl, _, _, _, [], _, [], hW', trodAll_mk1 (shut_bool Try.underlying4 _), (trodAll_cons_mk (Below.trod laidOut (by kernel_rfl) (of_decide_eq_true (by kernel_rfl)) k0 bel lt0) (trodAll_cons_mk (Below.trod laidOut (by kernel_rfl) (of_decide_eq_true (by kernel_rfl)) k1 bel lt1) (trodAll_cons_mk (Below.trod laidOut (by kernel_rfl) (of_decide_eq_true (by kernel_rfl)) k2 bel lt2) (trodAll_cons_mk (Below.trod laidOut (by kernel_rfl) (of_decide_eq_true (by kernel_rfl)) k3 bel lt3) trodAll_mk0)))), rfl, bel.frame _, fun h => by cases h⟩

theorem over : Rows.nearOnlyRow.holds Try.pinned (OpenSpec.ofChange Rows.nearOnlySpec) :=
  OpenClaim.holds_of_wide 6 Try.f6 rfl rfl rfl rfl rfl rfl rfl ⟨rfl, rfl, rfl, rfl, rfl⟩ rfl rfl rfl rfl rfl (by kernel_rfl) Try.func6 (by kernel_rfl)
    (of_decide_eq_true (by kernel_rfl)) (by unfold Func.isWrapper; rw [if_neg (of_decide_eq_false (by kernel_rfl))]; exact ⟨rfl, rfl⟩)
    (fun os started H enc _ => lifted os started H enc)
theorem proved : Rows.NearOnlySaid := over
#print axioms proved
end Go.Proofs.Ytiaoffaaflmgiaa.nearOnly
