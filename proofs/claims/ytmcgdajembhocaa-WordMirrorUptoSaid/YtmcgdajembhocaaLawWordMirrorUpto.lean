/-
  The statement WordMirrorUptoSaid of this seat, proved: for every input the law returns true and its arguments read behind the call as before. Conditions: none but the row's own (each argument within the reach).
-/
import Derived.Test.YtmcgdajembhocaaRows
import Derived.JoinedCond
import Derived.Deep.CondSized
import Derived.Deep.DeepHandedRow
import Derived.Test.YtmcgdajembhocaaWords
import Derived.WalkKit
import Derived.ProofKit
import Derived.OpenShut
import Derived.ShutString
import Derived.ChangeOld
import Derived.Below
import Derived.SizedLaws
import Derived.Lib.Hide
import Derived.Test.YtmcgdajembhocaaWordL
import Derived.Deep.QuietTactic
import Derived.BigQuiet
namespace Go.Proofs.Ytmcgdajembhocaa.wordMirror
open Go.ChangeShapes Go.WideShapes Go.ChangeAt Go.RowKit Go.IntWalk Go.Proofs.Ytmcgdajembhocaa.Wd
open Go.ChangeMaps (open_string shut_string)
set_option linter.unusedVariables false

/-- What the bound gives: a text's length. -/
theorem le_of_bulk {H : Type} {l : List (DataW H)} (h : Rows.uptoBulkAll l ≤ 1048576) : ∀ (i : Nat) {bs : List UInt8}, l[i]? = some (.lit (.string bs)) → bs.length ≤ 1048576 := by
  have hp : ∀ (l : List (DataW H)) (i : Nat) (bs : List UInt8), l[i]? = some (.lit (.string bs)) → bs.length ≤ Rows.uptoBulkAll l := by
    intro l
    induction l with
    | nil => intro i bs h; simp at h
    | cons x r ih =>
      intro i bs hx
      simp only [Rows.uptoBulkAll]
      rcases i with _ | i
      · simp only [List.getElem?_cons_zero, Option.some.injEq] at hx
        subst hx
        simp only [Rows.uptoBulk]
        omega
      · have := ih i bs (by simpa using hx)
        omega
  exact fun i bs hx => Nat.le_trans (hp l i bs hx) h
/-- What the bound gives: a slice's length. -/
theorem one_le_bulk {H : Type} (d : DataW H) : 1 ≤ Rows.uptoBulk d := by
  rcases d with l | _ | _ | _ | _ | _ | _ | _
  · cases l <;> simp [Rows.uptoBulk]
  all_goals simp [Rows.uptoBulk]
theorem len_le_bulk {H : Type} : ∀ l : List (DataW H), l.length ≤ Rows.uptoBulkAll l
  | [] => Nat.le_refl _
  | d :: l => by
    have h1 := one_le_bulk d
    have h2 := len_le_bulk l
    simp only [Rows.uptoBulkAll, List.length_cons]
    omega
theorem le_of_slice {H : Type} {l : List (DataW H)} (h : Rows.uptoBulkAll l ≤ 1048576) : ∀ (i : Nat) {es sp : List (DataW H)}, l[i]? = some (.slice es sp) → es.length ≤ 1048576 := by
  have hp : ∀ (l : List (DataW H)) (i : Nat) (es sp : List (DataW H)), l[i]? = some (.slice es sp) → es.length ≤ Rows.uptoBulkAll l := by
    intro l
    induction l with
    | nil => intro i es sp h; simp at h
    | cons x r ih =>
      intro i es sp hx
      simp only [Rows.uptoBulkAll]
      rcases i with _ | i
      · simp only [List.getElem?_cons_zero, Option.some.injEq] at hx
        subst hx
        have := len_le_bulk es
        simp only [Rows.uptoBulk]
        omega
      · have := ih i es sp (by simpa using hx)
        omega
  exact fun i es sp hx => Nat.le_trans (hp l i es sp hx) h
theorem own : ownKnob Try.prog.godebug = none := by kernel_rfl
theorem laidOut : laidOutB Try.prog = true := by kernel_rfl
open Go.Proofs.Ytmcgdajembhocaa.Wo

set_option maxRecDepth 100000 in
set_option maxHeartbeats 4000000 in
theorem walk (a0 : Int) (A1 : Option Addr) (c1 : Nat) (z1 : List Int) (A2 : Option Addr) (c2 : Nat) (z2 : List Int) (w : World) (l0 : -9223372036854775808 ≤ a0) (h0 : a0 ≤ 9223372036854775807) (v1 : IntsAt w w.heap.size A1 z1) (r1 : z1.length ≤ 17592186043904) (q1 : z1.length ≤ 1048576) (v2 : IntsAt w w.heap.size A2 z2) (r2 : z2.length ≤ 17592186043904) (q2 : z2.length ≤ 1048576) :
    Calls Try.prog 6 #[.int .i64 a0, .slice A1 z1.length c1, .slice A2 z2.length c2] w fun e w' => e = .returned (.bool true) ∧ Below w.heap.size w w' := by
  have hL : Small a0 := ⟨l0, h0⟩
  have V1 := Lib.hid v1
  have V2 := Lib.hid v2
  have hj : (z1 ++ z2).length = z1.length + z2.length := List.length_append
  have HJ := Lib.hid (fun W (h : IntsAt W W.heap.size A1 z1) (k : IntsAt W W.heap.size A2 z2) => joined_ok (c := c1) (d := c2) h k (by omega))
  by_cases f1 : Fine a0 z1
  · have HA := Lib.hid (fun W (h : IntsAt W W.heap.size A1 z1) => mirror_ok (c := c1) hL h f1)
    have HD := Lib.hid (fun W X k (h : IntsAt W W.heap.size X z1.reverse) => mirror_ok (c := k) hL h (reverse_fine f1))
    rw [List.reverse_reverse] at HD
    have hl1 : z1.reverse.length ≤ 80 := by rw [List.length_reverse]; exact f1.2.1
    have hl0 := f1.2.1
    have HI := Lib.hid (fun W X k (h : IntsAt W W.heap.size X z1) (h' : IntsAt W W.heap.size A1 z1) => ints_yes (n := 0) (c := k) (d := c1) rfl h h' (by omega))
    by_cases f2 : Fine a0 z2
    · have HB := Lib.hid (fun W (h : IntsAt W W.heap.size A2 z2) => mirror_ok (c := c2) hL h f2)
      have hl2 : z2.reverse.length ≤ 80 := by rw [List.length_reverse]; exact f2.2.1
      by_cases h80 : z1.length + z2.length ≤ 80
      · have HC := Lib.hid (fun W X k (h : IntsAt W W.heap.size X (z1 ++ z2)) => mirror_ok (c := k) hL h (f1.append f2 h80))
        have HK := Lib.hid (fun W X Y k l (h : IntsAt W W.heap.size X z2.reverse) (h' : IntsAt W W.heap.size Y z1.reverse) => joined_ok (c := k) (d := l) h h' (by omega))
        have HE := Lib.hid (fun W X Y k l (h : IntsAt W W.heap.size X (z2.reverse ++ z1.reverse)) (h' : IntsAt W W.heap.size Y (z2.reverse ++ z1.reverse)) => ints_yes (n := 0) (c := k) (d := l) rfl h h' (by rw [List.length_append]; omega))
        rw [List.reverse_append] at HC
        have hlr : (z2.reverse ++ z1.reverse).length ≤ 160 := by rw [List.length_append]; omega
        have HF : Hid (∀ W0, Below w.heap.size w W0 → IntsAt W0 W0.heap.size A1 z1 ∧ IntsAt W0 W0.heap.size A2 z2) := fun W0 h => ⟨V1.out.on h, V2.out.on h⟩
        have HZ := Lib.hid hj
        have hle1 : (z1 ++ z2).length ≤ 80 := by omega
        clear hj
        clear f1 f2 v1 v2
        generalize z2.reverse ++ z1.reverse = R at *
        generalize z1.reverse = R1 at *
        generalize z2.reverse = R2 at *
        generalize z1 ++ z2 = Z at *
        go_enter Try.func6, Try.ntmps6
        go_wp2_with fail
        refine (HA.out _ V1.out).mono ?_
        rintro e w9 ⟨X1, k1, rfl, hx, hb⟩
        have X1H := Lib.hid hx
        have B1 := Lib.hid hb
        clear hx hb HA
        go_wp2_with fail
        refine (HB.out _ (HF.out _ B1.out).2).mono ?_
        rintro e w9 ⟨X2, k2, rfl, hx, hb⟩
        have X1H := Lib.hid (X1H.out.on hb)
        have X2H := Lib.hid hx
        have B2 := Lib.hid (B1.out.trans (hb.mono B1.out.size))
        clear hx hb HB B1
        go_wp2_with fail
        refine (HJ.out _ (HF.out _ B2.out).1 (HF.out _ B2.out).2).mono ?_
        rintro e w9 ⟨X3, k3, rfl, hx, hb⟩
        have X1H := Lib.hid (X1H.out.on hb)
        have X2H := Lib.hid (X2H.out.on hb)
        have X3H := Lib.hid hx
        have B3 := Lib.hid (B2.out.trans (hb.mono B2.out.size))
        clear hx hb HJ B2
        go_wp2_with fail
        refine (HC.out _ X3 k3 X3H.out).mono ?_
        rintro e w9 ⟨X4, k4, rfl, hx, hb⟩
        have X1H := Lib.hid (X1H.out.on hb)
        have X2H := Lib.hid (X2H.out.on hb)
        have X4H := Lib.hid hx
        have B4 := Lib.hid (B3.out.trans (hb.mono B3.out.size))
        clear hx hb HC B3 X3H
        go_wp2_with fail
        refine (HD.out _ X1 k1 X1H.out).mono ?_
        rintro e w9 ⟨X5, k5, rfl, hx, hb⟩
        have X1H := Lib.hid (X1H.out.on hb)
        have X2H := Lib.hid (X2H.out.on hb)
        have X4H := Lib.hid (X4H.out.on hb)
        have X5H := Lib.hid hx
        have B5 := Lib.hid (B4.out.trans (hb.mono B4.out.size))
        clear hx hb HD B4
        go_wp2_with fail
        refine (HI.out _ X5 k5 X5H.out (HF.out _ B5.out).1).mono ?_
        rintro e w9 ⟨rfl, n, rfl⟩
        have hb := below_drewN (Below.refl w9.heap.size w9) n
        have X1H := Lib.hid (X1H.out.on hb)
        have X2H := Lib.hid (X2H.out.on hb)
        have X4H := Lib.hid (X4H.out.on hb)
        have B6 := Lib.hid (B5.out.trans (hb.mono B5.out.size))
        clear hb HI B5 X5H
        go_wp2_with fail
        refine (HK.out _ X2 X1 k2 k1 X2H.out X1H.out).mono ?_
        rintro e w9 ⟨X7, k7, rfl, hx, hb⟩
        have X4H := Lib.hid (X4H.out.on hb)
        have X7H := Lib.hid hx
        have B7 := Lib.hid (B6.out.trans (hb.mono B6.out.size))
        clear hx hb HK X1H X2H B6
        go_wp2_with fail
        refine (HE.out _ X4 X7 k4 k7 X4H.out X7H.out).mono ?_
        rintro e w9 ⟨rfl, m, rfl⟩
        have B8 := Lib.hid (below_drewN B7.out m)
        clear HE X4H X7H B7
        go_wp2
        go_ret
        exact ⟨rfl, B8.out⟩
      · have HC := Lib.hid (fun W X k (h : IntsAt W W.heap.size X (z1 ++ z2)) => mirror_bad (c := k) hL h (by omega) (fun h => h80 (by have := h.2.1; omega)))
        have HF : Hid (∀ W0, Below w.heap.size w W0 → IntsAt W0 W0.heap.size A1 z1 ∧ IntsAt W0 W0.heap.size A2 z2) := fun W0 h => ⟨V1.out.on h, V2.out.on h⟩
        have hle1 : (z1 ++ z2).length ≤ 2097152 := by omega
        have hq2 := Lib.hid hj
        have hlong : decide ((80 : Int) - (z2.length : Int) < (z1.length : Int)) = true := decide_eq_true (by omega)
        clear hj f1 f2 v1 v2
        generalize z1.reverse = R1 at *
        generalize z2.reverse = R2 at *
        generalize z1 ++ z2 = Z at *
        go_enter Try.func6, Try.ntmps6
        go_wp2_with fail
        refine (HA.out _ V1.out).mono ?_
        rintro e w9 ⟨X1, k1, rfl, hx, hb⟩
        have X1H := Lib.hid hx
        have B1 := Lib.hid (hb)
        clear hx hb HA
        go_wp2_with fail
        refine (HB.out _ (HF.out _ B1.out).2).mono ?_
        rintro e w9 ⟨X2, k2, rfl, hx, hb⟩
        have X1H := Lib.hid (X1H.out.on hb)
        have X2H := Lib.hid hx
        have B2 := Lib.hid (B1.out.trans (hb.mono B1.out.size))
        clear hx hb HB B1
        go_wp2_with fail
        refine (HJ.out _ (HF.out _ B2.out).1 (HF.out _ B2.out).2).mono ?_
        rintro e w9 ⟨X3, k3, rfl, hx, hb⟩
        have X1H := Lib.hid (X1H.out.on hb)
        have X3H := Lib.hid hx
        have B3 := Lib.hid (B2.out.trans (hb.mono B2.out.size))
        clear hx hb HJ B2
        go_wp2_with fail
        refine (HC.out _ X3 k3 X3H.out).mono ?_
        rintro e w9 ⟨X4, k4, i4, rfl, hb⟩
        have X1H := Lib.hid (X1H.out.on hb)
        have B4 := Lib.hid (B3.out.trans (hb.mono B3.out.size))
        clear hb HC B3 X3H
        go_wp2_with fail
        refine (HD.out _ X1 k1 X1H.out).mono ?_
        rintro e w9 ⟨X5, k5, rfl, hx, hb⟩
        have X5H := Lib.hid hx
        have B5 := Lib.hid (B4.out.trans (hb.mono B4.out.size))
        clear hx hb HD B4 X1H
        go_wp2_with fail
        refine (HI.out _ X5 k5 X5H.out (HF.out _ B5.out).1).mono ?_
        rintro e w9 ⟨rfl, n, rfl⟩
        have B6 := Lib.hid (below_drewN B5.out n)
        clear HI B5 X5H
        go_wp2
        go_ret
        exact ⟨rfl, B6.out⟩
    · have HB := Lib.hid (fun W (h : IntsAt W W.heap.size A2 z2) => mirror_bad (c := c2) hL h (by omega) f2)
      have HC := Lib.hid (fun W X k (h : IntsAt W W.heap.size X (z1 ++ z2)) => mirror_bad (c := k) hL h (by omega) (fun h => f2 h.right))
      have HF : Hid (∀ W0, Below w.heap.size w W0 → IntsAt W0 W0.heap.size A1 z1 ∧ IntsAt W0 W0.heap.size A2 z2) := fun W0 h => ⟨V1.out.on h, V2.out.on h⟩
      have hle1 : (z1 ++ z2).length ≤ 2097152 := by omega
      have hq2 := Lib.hid hj

      clear hj f1 f2 v1 v2
      generalize z1.reverse = R1 at *
      generalize z1 ++ z2 = Z at *
      go_enter Try.func6, Try.ntmps6
      go_wp2_with fail
      refine (HA.out _ V1.out).mono ?_
      rintro e w9 ⟨X1, k1, rfl, hx, hb⟩
      have X1H := Lib.hid hx
      have B1 := Lib.hid (hb)
      clear hx hb HA
      go_wp2_with fail
      refine (HB.out _ (HF.out _ B1.out).2).mono ?_
      rintro e w9 ⟨X2, k2, i2, rfl, hb⟩
      have X1H := Lib.hid (X1H.out.on hb)
      have B2 := Lib.hid (B1.out.trans (hb.mono B1.out.size))
      clear hb HB B1
      go_wp2_with fail
      refine (HJ.out _ (HF.out _ B2.out).1 (HF.out _ B2.out).2).mono ?_
      rintro e w9 ⟨X3, k3, rfl, hx, hb⟩
      have X1H := Lib.hid (X1H.out.on hb)
      have X3H := Lib.hid hx
      have B3 := Lib.hid (B2.out.trans (hb.mono B2.out.size))
      clear hx hb HJ B2
      go_wp2_with fail
      refine (HC.out _ X3 k3 X3H.out).mono ?_
      rintro e w9 ⟨X4, k4, i4, rfl, hb⟩
      have X1H := Lib.hid (X1H.out.on hb)
      have B4 := Lib.hid (B3.out.trans (hb.mono B3.out.size))
      clear hb HC B3 X3H
      go_wp2_with fail
      refine (HD.out _ X1 k1 X1H.out).mono ?_
      rintro e w9 ⟨X5, k5, rfl, hx, hb⟩
      have X5H := Lib.hid hx
      have B5 := Lib.hid (B4.out.trans (hb.mono B4.out.size))
      clear hx hb HD B4 X1H
      go_wp2_with fail
      refine (HI.out _ X5 k5 X5H.out (HF.out _ B5.out).1).mono ?_
      rintro e w9 ⟨rfl, n, rfl⟩
      have B6 := Lib.hid (below_drewN B5.out n)
      clear HI B5 X5H
      go_wp2
      go_ret
      exact ⟨rfl, B6.out⟩
  · have HA := Lib.hid (fun W (h : IntsAt W W.heap.size A1 z1) => mirror_bad (c := c1) hL h (by omega) f1)
    have HB := Lib.hid (fun W (h : IntsAt W W.heap.size A2 z2) => mirror_some (c := c2) hL h (by omega))
    have HC := Lib.hid (fun W X k (h : IntsAt W W.heap.size X (z1 ++ z2)) => mirror_bad (c := k) hL h (by omega) (fun h => f1 h.left))
    have HF : Hid (∀ W0, Below w.heap.size w W0 → IntsAt W0 W0.heap.size A1 z1 ∧ IntsAt W0 W0.heap.size A2 z2) := fun W0 h => ⟨V1.out.on h, V2.out.on h⟩
    have hle1 : (z1 ++ z2).length ≤ 2097152 := by omega
    clear hj f1 v1 v2
    generalize z1 ++ z2 = Z at *
    go_enter Try.func6, Try.ntmps6
    go_wp2_with fail
    refine (HA.out _ V1.out).mono ?_
    rintro e w9 ⟨X1, k1, i1, rfl, hb⟩
    have B1 := Lib.hid (hb)
    clear hb HA
    go_wp2_with fail
    refine (HB.out _ (HF.out _ B1.out).2).mono ?_
    rintro e w9 ⟨X2, n2, k2, E2, rfl, hb⟩
    have B2 := Lib.hid (B1.out.trans (hb.mono B1.out.size))
    clear hb HB B1
    go_wp2_with fail
    refine (HJ.out _ (HF.out _ B2.out).1 (HF.out _ B2.out).2).mono ?_
    rintro e w9 ⟨X3, k3, rfl, hx, hb⟩
    have X3H := Lib.hid hx
    have B3 := Lib.hid (B2.out.trans (hb.mono B2.out.size))
    clear hx hb HJ B2
    go_wp2_with fail
    refine (HC.out _ X3 k3 X3H.out).mono ?_
    rintro e w9 ⟨X4, k4, i4, rfl, hb⟩
    have B4 := Lib.hid (B3.out.trans (hb.mono B3.out.size))
    clear hb HC B3 X3H
    go_wp2
    go_ret
    exact ⟨rfl, B4.out⟩


set_option maxRecDepth 100000 in
theorem lifted (os : Os) (started : os.Started) (H : Type) (enc : TypeId × Value → H) (FF : Stop.Interp) :
    ReturnsInHanded {} Try.checked os 6 .any ((Rows.OpenSpec.upto Rows.wordMirrorSpec).pre6 enc Try.prog Try.f6 Rows.wordMirrorUptoRow.domain false) (((Rows.OpenSpec.upto Rows.wordMirrorSpec).at FF).post enc Try.prog Try.f6 false true false false) := by
  refine returnsInHanded_of_cond_sized (C := Try.checked) (s := Rows.OpenSpec.upto Rows.wordMirrorSpec) (k := Rows.uptoSmall) rfl own started (by kernel_rfl) Try.func6
    (OpenSpec.witness (enc := enc) (C := Try.checked) (s := Rows.OpenSpec.upto Rows.wordMirrorSpec) (k := Rows.uptoSmall) rfl false ⟨#[], #[.int .i64 0, .slice none 0 0, .slice none 0 0], []⟩ 8 (by kernel_rfl) (by kernel_rfl) (by kernel_rfl) (x := ([.lit (.int .i64 0), .nil, .nil], [], [])) (by kernel_rfl) rfl (by kernel_rfl)) ?_
  intro W base args ds gs before hval0 hW hcnd hk0 hsz0 _
  have hval : ∀ (j : Nat) t v, Try.f6.params[j]? = some t → args[j]? = some v → Value.okWide Try.prog W .any base t v := hval0
  have hsz : (DataW.weightsEach Try.prog (Try.f6.params.toList ++ Rows.wordMirrorSpec.plain.varTypes Try.prog) (ds ++ gs)).all (· ≤ reachBytes) = true := hsz0
  have hW' := hW
  obtain ⟨p, q, hA0, hV0, rfl, hfz, hnd⟩ := hW
  have hV : DataW.TrodVars enc Try.prog W (fun _ => true) [] gs q := hV0
  have hA : DataW.TrodAll enc Try.prog W 0 (fun _ => true) true Try.f6.params.toList args.toList ds p := hA0
  rw [Try.params6] at hA hval hsz
  obtain ⟨v0, vs0, d0, ds0, p0, q0, hargs, rfl, rfl, h0, rr0⟩ := trodAll_cons hA
  obtain ⟨v1, vs1, d1, ds1, p1, q1, rfl, rfl, rfl, h1, rr1⟩ := trodAll_cons rr0
  obtain ⟨v2, vs2, d2, ds2, p2, q2, rfl, rfl, rfl, h2, rr2⟩ := trodAll_cons rr1
  obtain ⟨rfl, rfl, rfl⟩ := trodAll_nil rr2
  obtain rfl : args = #[v0, v1, v2] := by cases args; simp_all
  obtain ⟨rfl, rfl⟩ := trodVars_none hV
  have k0 := h0
  have lt0 : ∀ x ∈ p0, x.block < W.heap.size := by obtain ⟨m, hm⟩ := k0; exact DataW.trod_lt m _ _ _ hm
  have k1 := h1
  have lt1 : ∀ x ∈ p1, x.block < W.heap.size := by obtain ⟨m, hm⟩ := k1; exact DataW.trod_lt m _ _ _ hm
  have k2 := h2
  have lt2 : ∀ x ∈ p2, x.block < W.heap.size := by obtain ⟨m, hm⟩ := k2; exact DataW.trod_lt m _ _ _ hm
  have hu : Rows.uptoBulkAll _ ≤ 1048576 := of_decide_eq_true hk0
  obtain ⟨a0, rfl, rfl, rfl, w0⟩ := open_int Try.underlying3 (hval 0 3 v0 rfl rfl) h0
  obtain ⟨l0, hh0⟩ := bounds_i64 w0
  obtain ⟨A1, len1, c1, rfl⟩ := okWide_slice Try.underlying22 (hval 1 22 v1 rfl rfl)
  obtain ⟨z1, rfl, x1, r1, q1⟩ : ∃ zs : List Int, len1 = zs.length ∧ IntsAt W W.heap.size A1 zs ∧ zs.length ≤ 17592186043904 ∧ zs.length ≤ 1048576 := by
    obtain ⟨fuel, hf⟩ := h1
    rcases open_ints Try.underlying22 Try.underlying3 (by kernel_rfl) hf with ⟨hcs, _⟩ | ⟨x, l, c, zs, hcs, _, hl, hm, hz, hx, hcell, hwz⟩
    · simp [Value.cells] at hcs
      obtain ⟨rfl, rfl, rfl⟩ := hcs
      exact ⟨[], rfl, IntsAt.nil _ _ _, by simp, by simp⟩
    · simp [Value.cells] at hcs
      obtain ⟨rfl, rfl, rfl⟩ := hcs
      have hd := congrArg Prod.fst hx
      simp only at hd
      have := sized_slice hsz (j := 1) (t := 22) (e := 3) rfl (by rw [hd]; rfl) Try.underlying22
      rw [(show Try.prog.bytesOf 3 = 8 by kernel_rfl)] at this
      simp only [reachBytes, lits, List.length_map, List.length_take, List.length_drop] at this
      have hz' : zs.length = c1 := by simpa using hz
      have hq : (zs.take len1).length ≤ 1048576 := by
        have h9 := le_of_slice hu 1 (es := lits .i64 (zs.take len1)) (sp := lits .i64 (zs.drop len1)) (by rw [← hd]; rfl)
        simpa [lits] using h9
      exact ⟨zs.take len1, by rw [List.length_take]; omega, intsAt_of_open hcell hwz len1, by rw [List.length_take]; omega, hq⟩
  obtain ⟨A2, len2, c2, rfl⟩ := okWide_slice Try.underlying22 (hval 2 22 v2 rfl rfl)
  obtain ⟨z2, rfl, x2, r2, q2⟩ : ∃ zs : List Int, len2 = zs.length ∧ IntsAt W W.heap.size A2 zs ∧ zs.length ≤ 17592186043904 ∧ zs.length ≤ 1048576 := by
    obtain ⟨fuel, hf⟩ := h2
    rcases open_ints Try.underlying22 Try.underlying3 (by kernel_rfl) hf with ⟨hcs, _⟩ | ⟨x, l, c, zs, hcs, _, hl, hm, hz, hx, hcell, hwz⟩
    · simp [Value.cells] at hcs
      obtain ⟨rfl, rfl, rfl⟩ := hcs
      exact ⟨[], rfl, IntsAt.nil _ _ _, by simp, by simp⟩
    · simp [Value.cells] at hcs
      obtain ⟨rfl, rfl, rfl⟩ := hcs
      have hd := congrArg Prod.fst hx
      simp only at hd
      have := sized_slice hsz (j := 2) (t := 22) (e := 3) rfl (by rw [hd]; rfl) Try.underlying22
      rw [(show Try.prog.bytesOf 3 = 8 by kernel_rfl)] at this
      simp only [reachBytes, lits, List.length_map, List.length_take, List.length_drop] at this
      have hz' : zs.length = c2 := by simpa using hz
      have hq : (zs.take len2).length ≤ 1048576 := by
        have h9 := le_of_slice hu 2 (es := lits .i64 (zs.take len2)) (sp := lits .i64 (zs.drop len2)) (by rw [← hd]; rfl)
        simpa [lits] using h9
      exact ⟨zs.take len2, by rw [List.length_take]; omega, intsAt_of_open hcell hwz len2, by rw [List.length_take]; omega, hq⟩
  clear hA0 hval0
  refine (walk a0 A1 c1 z1 A2 c2 z2 W l0 hh0 x1 r1 q1 x2 r2 q2).mono fun e W' ⟨he, bel⟩ => ?_
  subst he
  exact ⟨_, rfl, _, _, _, [], _, [], hW', trodAll_mk1 (shut_bool Try.underlying4 _), (trodAll_cons_mk (Below.trod laidOut (by kernel_rfl) (of_decide_eq_true (by kernel_rfl)) k0 bel lt0) (trodAll_cons_mk (Below.trod laidOut (by kernel_rfl) (of_decide_eq_true (by kernel_rfl)) k1 bel lt1) (trodAll_cons_mk (Below.trod laidOut (by kernel_rfl) (of_decide_eq_true (by kernel_rfl)) k2 bel lt2) trodAll_mk0))), rfl, bel.frame _, fun h => by cases h⟩

theorem over : Rows.wordMirrorUptoRow.holds Try.pinned (Rows.OpenSpec.upto Rows.wordMirrorSpec) :=
  OpenClaim.holds_of_cond 6 Try.f6 rfl rfl rfl rfl rfl rfl rfl ⟨rfl, rfl, rfl, rfl, rfl⟩ rfl rfl rfl rfl rfl (by kernel_rfl) Try.func6 (by kernel_rfl)
    (of_decide_eq_true (by kernel_rfl)) (by unfold Func.isWrapper; rw [if_neg (of_decide_eq_false (by kernel_rfl))]; exact ⟨rfl, rfl⟩)
    (fun os started H enc _ FF => lifted os started H enc FF)
theorem proved : Rows.WordMirrorUptoSaid := over
#print axioms proved
end Go.Proofs.Ytmcgdajembhocaa.wordMirror
