/-
  The statement WordOnlyUptoSaid of this seat, proved: for every input the law returns true and its arguments read behind the call as before. Conditions: none but the row's own (each argument within the reach).
-/
import Derived.Test.YtmcgdajembhocaaRows
import Derived.JoinedCond
import Derived.Deep.CondSized
import Derived.Deep.DeepHandedRow
import Derived.Test.YtmcgdajembhocaaWords
import Derived.WalkKit
import Derived.ProofKit
import Derived.OpenShut
import Derived.ShutString
import Derived.ChangeOld
import Derived.Below
import Derived.SizedLaws
import Derived.Lib.Hide
import Derived.Test.YtmcgdajembhocaaWordL
import Derived.Deep.QuietTactic
import Derived.BigQuiet
namespace Go.Proofs.Ytmcgdajembhocaa.wordOnly
open Go.ChangeShapes Go.WideShapes Go.ChangeAt Go.RowKit Go.IntWalk Go.Proofs.Ytmcgdajembhocaa.Wd
open Go.ChangeMaps (open_string shut_string)
set_option linter.unusedVariables false

/-- What the bound gives: a text's length. -/
theorem le_of_bulk {H : Type} {l : List (DataW H)} (h : Rows.uptoBulkAll l ≤ 1048576) : ∀ (i : Nat) {bs : List UInt8}, l[i]? = some (.lit (.string bs)) → bs.length ≤ 1048576 := by
  have hp : ∀ (l : List (DataW H)) (i : Nat) (bs : List UInt8), l[i]? = some (.lit (.string bs)) → bs.length ≤ Rows.uptoBulkAll l := by
    intro l
    induction l with
    | nil => intro i bs h; simp at h
    | cons x r ih =>
      intro i bs hx
      simp only [Rows.uptoBulkAll]
      rcases i with _ | i
      · simp only [List.getElem?_cons_zero, Option.some.injEq] at hx
        subst hx
        simp only [Rows.uptoBulk]
        omega
      · have := ih i bs (by simpa using hx)
        omega
  exact fun i bs hx => Nat.le_trans (hp l i bs hx) h
/-- What the bound gives: a slice's length. -/
theorem one_le_bulk {H : Type} (d : DataW H) : 1 ≤ Rows.uptoBulk d := by
  rcases d with l | _ | _ | _ | _ | _ | _ | _
  · cases l <;> simp [Rows.uptoBulk]
  all_goals simp [Rows.uptoBulk]
theorem len_le_bulk {H : Type} : ∀ l : List (DataW H), l.length ≤ Rows.uptoBulkAll l
  | [] => Nat.le_refl _
  | d :: l => by
    have h1 := one_le_bulk d
    have h2 := len_le_bulk l
    simp only [Rows.uptoBulkAll, List.length_cons]
    omega
theorem le_of_slice {H : Type} {l : List (DataW H)} (h : Rows.uptoBulkAll l ≤ 1048576) : ∀ (i : Nat) {es sp : List (DataW H)}, l[i]? = some (.slice es sp) → es.length ≤ 1048576 := by
  have hp : ∀ (l : List (DataW H)) (i : Nat) (es sp : List (DataW H)), l[i]? = some (.slice es sp) → es.length ≤ Rows.uptoBulkAll l := by
    intro l
    induction l with
    | nil => intro i es sp h; simp at h
    | cons x r ih =>
      intro i es sp hx
      simp only [Rows.uptoBulkAll]
      rcases i with _ | i
      · simp only [List.getElem?_cons_zero, Option.some.injEq] at hx
        subst hx
        have := len_le_bulk es
        simp only [Rows.uptoBulk]
        omega
      · have := ih i es sp (by simpa using hx)
        omega
  exact fun i es sp hx => Nat.le_trans (hp l i es sp hx) h
theorem own : ownKnob Try.prog.godebug = none := by kernel_rfl
theorem laidOut : laidOutB Try.prog = true := by kernel_rfl
open Go.Proofs.Ytmcgdajembhocaa.Wo
theorem has_bit (s a : Int) : has s a = s.toNat.testBit a.toNat := by
  unfold has; rw [Nat.testBit_eq_decide_div_mod_eq, Bool.eq_iff_iff]; simp
theorem only_append (s : Int) (v w : List Int) : only s (v ++ w) = only s v ++ only s w := List.filter_append ..
theorem only_and (s o v) (hs : 0 ≤ s) (ho : 0 ≤ o) : only o (only s v) = only ((s.toNat &&& o.toNat : Nat) : Int) v := by
  unfold only
  rw [List.filter_filter]
  apply List.filter_congr
  intro a _
  rw [has_bit, has_bit, has_bit, Int.toNat_natCast, Nat.testBit_and, Bool.and_comm]
theorem setOk_and {L s : Int} (o : Nat) (hs : setOk L s) : setOk L ((s.toNat &&& o : Nat) : Int) := by
  obtain ⟨h1, h2⟩ := hs
  have := Nat.and_le_left (n := s.toNat) (m := o)
  exact ⟨by omega, by omega⟩
theorem has_not {L s a : Int} (hs : setOk L s) (ha : 0 ≤ a ∧ a < L) : has (2 ^ L.toNat - 1 - s) a = !has s a := by
  obtain ⟨h1, h2⟩ := hs
  obtain ⟨n, rfl⟩ := Int.eq_ofNat_of_zero_le h1
  obtain ⟨b, rfl⟩ := Int.eq_ofNat_of_zero_le ha.1
  have e : (2 : Int) ^ L.toNat = ((2 ^ L.toNat : Nat) : Int) := by rw [Int.natCast_pow]; rfl
  rw [e] at h2 ⊢
  have e2 : (((2 ^ L.toNat : Nat) : Int) - 1 - (n : Int)).toNat = 2 ^ L.toNat - (n + 1) := by omega
  rw [has_bit, has_bit, e2, Nat.testBit_two_pow_sub_succ (by omega)]
  simp
  omega
theorem only_not {L s : Int} {v : List Int} (hs : setOk L s) (hv : Fine L v) : (only s v).length + (only (2 ^ L.toNat - 1 - s) v).length = v.length := by
  have e : only (2 ^ L.toNat - 1 - s) v = v.filter (fun a => !has s a) := List.filter_congr fun a ha => has_not hs (hv.2.2 a ha)
  rw [e]
  unfold only
  clear hv e hs
  induction v with
  | nil => rfl
  | cons a v ih =>
    simp only [List.filter_cons]
    rcases has s a with _ | _ <;> simp <;> omega
theorem setOk_not {L s : Int} (hs : setOk L s) : setOk L (2 ^ L.toNat - 1 - s) := by
  obtain ⟨h1, h2⟩ := hs
  exact ⟨by omega, by omega⟩
theorem only_left (s : Int) (v : List Int) : (only s v).isSublist v = true := List.isSublist_iff_sublist.2 List.filter_sublist
theorem fact_only (w : World) : Calls Try.prog 7 #[.int .i64 2, .slice (some ⟨w.heap.size, 0, none⟩) 2 2, .int .i64 2] (w.alloc (.cells #[.int .i64 0, .int .i64 1] 3)) fun e w' =>
    ∃ (X : Option Addr) (k : Nat), e = .returned (.tuple #[.slice X 1 k, .nilIface]) ∧ IntsAt w' w'.heap.size X [1] ∧ Below w.heap.size w w' := by
  have hA : IntsAt (w.alloc (.cells #[.int .i64 0, .int .i64 1] 3)) (w.alloc (.cells #[.int .i64 0, .int .i64 1] 3)).heap.size (some ⟨w.heap.size, 0, none⟩) [0, 1] := by
    refine ⟨fun k u hk => ⟨_, rfl, by simp, ?_⟩, by intro z hz; simp at hz; rcases hz with rfl | rfl <;> exact ⟨by decide, by decide⟩⟩
    rcases k with _ | _ | k
    · simp at hk; subst hk; simp [Addr.add, i64]
    · simp at hk; subst hk; simp [Addr.add, i64]
    · simp at hk
  have hf : Fine 2 [0, 1] := ⟨by decide, by decide, by decide⟩
  have ho : only 2 [0, 1] = [1] := by decide
  have h := only_ok (c := 2) (s := 2) ⟨by decide, by decide⟩ hA hf (by decide)
  rw [ho] at h
  exact h.mono fun e w' ⟨X, k, h1, h2, h3⟩ => ⟨X, k, h1, h2, ((Below.refl _ _).alloc (Nat.le_refl _) _).trans (h3.mono (by simp))⟩
theorem fact_ints (w : World) (X : Option Addr) (k : Nat) (hX : IntsAt w w.heap.size X [1]) : Calls Try.prog 8 #[.slice X 1 k, .slice (some ⟨w.heap.size, 0, none⟩) 1 1] (w.alloc (.cells #[.int .i64 1] 3)) fun e w' =>
    e = .returned (.bool true) ∧ Below w.heap.size w w' := by
  have hb : Below w.heap.size w (w.alloc (.cells #[.int .i64 1] 3)) := (Below.refl _ _).alloc (Nat.le_refl _) _
  have hA : IntsAt (w.alloc (.cells #[.int .i64 1] 3)) (w.alloc (.cells #[.int .i64 1] 3)).heap.size (some ⟨w.heap.size, 0, none⟩) [1] := by
    refine ⟨fun k u hk => ⟨_, rfl, by simp, ?_⟩, by intro z hz; simp at hz; subst hz; exact ⟨by decide, by decide⟩⟩
    rcases k with _ | k
    · simp at hk; subst hk; simp [Addr.add, i64]
    · simp at hk
  refine (ints_any X (some ⟨w.heap.size, 0, none⟩) k 1 [1] [1] _ (hX.on hb) hA (by simp) (by simp)).mono ?_
  rintro e w' ⟨he, n, rfl⟩
  exact ⟨by rw [he.out]; simp, below_drewN hb _⟩
theorem small_and (a b : Int) : Small (bits .and .i64 a b) := by
  show Small (IntKind.i64.wrap _)
  rw [IntKind.wrap_i64]
  exact ⟨by omega, by omega⟩

set_option maxRecDepth 100000 in
set_option maxHeartbeats 4000000 in
theorem walk (a0 : Int) (A1 : Option Addr) (c1 : Nat) (z1 : List Int) (A2 : Option Addr) (c2 : Nat) (z2 : List Int) (a3 : Int) (a4 : Int) (w : World) (l0 : -9223372036854775808 ≤ a0) (h0 : a0 ≤ 9223372036854775807) (v1 : IntsAt w w.heap.size A1 z1) (r1 : z1.length ≤ 17592186043904) (q1 : z1.length ≤ 1048576) (v2 : IntsAt w w.heap.size A2 z2) (r2 : z2.length ≤ 17592186043904) (q2 : z2.length ≤ 1048576) (l3 : -9223372036854775808 ≤ a3) (h3 : a3 ≤ 9223372036854775807) (l4 : -9223372036854775808 ≤ a4) (h4 : a4 ≤ 9223372036854775807) :
    Calls Try.prog 3 #[.int .i64 a0, .slice A1 z1.length c1, .slice A2 z2.length c2, .int .i64 a3, .int .i64 a4] w fun e w' => e = .returned (.bool true) ∧ Below w.heap.size w w' := by
  have hL : Small a0 := ⟨l0, h0⟩
  have hS : Small a3 := ⟨l3, h3⟩
  have V1 := Lib.hid v1
  have V2 := Lib.hid v2
  have hj : (z1 ++ z2).length = z1.length + z2.length := List.length_append
  have HJ := Lib.hid (fun W (h : IntsAt W W.heap.size A1 z1) (k : IntsAt W W.heap.size A2 z2) => joined_ok (c := c1) (d := c2) h k (by omega))
  have HP := Lib.hid (fun W => fact_only W)
  have HQ := Lib.hid (fun W X k h => fact_ints W X k h)
  have HF : Hid (∀ W0, Below w.heap.size w W0 → IntsAt W0 W0.heap.size A1 z1 ∧ IntsAt W0 W0.heap.size A2 z2) := fun W0 h => ⟨V1.out.on h, V2.out.on h⟩
  by_cases f1 : Fine a0 z1 ∧ setOk a0 a3
  · obtain ⟨f1, fs⟩ := f1
    have HA := Lib.hid (fun W (h : IntsAt W W.heap.size A1 z1) => only_ok (c := c1) hL h f1 fs)
    have hl0 := f1.2.1
    have hla := only_len a3 z1
    by_cases f2 : Fine a0 z2
    · have HB := Lib.hid (fun W (h : IntsAt W W.heap.size A2 z2) => only_ok (c := c2) hL h f2 fs)
      have hl2 := f2.2.1
      have hlb := only_len a3 z2
      by_cases h80 : z1.length + z2.length ≤ 80
      · have HC := Lib.hid (fun W X k (h : IntsAt W W.heap.size X (z1 ++ z2)) => only_ok (c := k) hL h (f1.append f2 h80) fs)
        rw [only_append] at HC
        have HK := Lib.hid (fun W X Y k l (h : IntsAt W W.heap.size X (only a3 z1)) (h' : IntsAt W W.heap.size Y (only a3 z2)) => joined_ok (c := k) (d := l) h h' (by omega))
        have hlr : (only a3 z1 ++ only a3 z2).length ≤ 160 := by rw [List.length_append]; omega
        have HE := Lib.hid (fun W X Y k l (h : IntsAt W W.heap.size X (only a3 z1 ++ only a3 z2)) (h' : IntsAt W W.heap.size Y (only a3 z1 ++ only a3 z2)) => ints_yes (n := 0) (c := k) (d := l) rfl h h' (by omega))
        have hle1 : (z1 ++ z2).length ≤ 80 := by omega
        have hz := Lib.hid hj
        obtain ⟨P, hP, p1, p2, p3⟩ := shl_lim f1.1.1 f1.1.2
        have fn := setOk_not fs
        obtain ⟨g1, g6⟩ := f1.1
        have g0 : 0 ≤ a0 := by omega
        have g64 : a0 ≤ 64 := by omega
        have HY := Lib.hid (fun W (h : IntsAt W W.heap.size A1 z1) => only_ok (c := c1) hL h f1 fn)
        have hnot := only_not fs f1
        rw [p1] at HY hnot
        have HS := Lib.hid (fun W X k (h : IntsAt W W.heap.size X (only a3 z1)) (h' : IntsAt W W.heap.size A1 z1) => sub_ok (c := k) (d := c1) hL h h' (only_fine f1 a3) f1)
        rw [only_left] at HS
        have hs2 : 0 ≤ a3 ∧ a3 < P := by rw [← p1]; exact fs
        obtain ⟨s1, s2⟩ := hs2
        have hyl : (((only a3 z1).length : Int) + ((only (P - 1 - a3) z1).length : Int) == (z1.length : Int)) = true := by rw [beq_iff_eq]; omega
        have hyle : (only (P - 1 - a3) z1).length ≤ 80 := by omega
        have hra : (only a3 z1).length ≤ 80 := by omega
        by_cases fo : setOk a0 a4
        · have hand : bits .and .i64 a3 a4 = ((a3.toNat &&& a4.toNat : Nat) : Int) := by
            have := and_nat a3.toNat a4.toNat (by omega) (by have := fo.1; omega)
            rw [Int.toNat_of_nonneg s1, Int.toNat_of_nonneg fo.1] at this
            exact this
          have HD := Lib.hid (fun W X k (h : IntsAt W W.heap.size X (only a3 z1)) => only_ok (c := k) hL h (only_fine f1 a3) fo)
          rw [only_and a3 a4 z1 s1 fo.1] at HD
          have HX := Lib.hid (fun W (h : IntsAt W W.heap.size A1 z1) => only_ok (c := c1) hL h f1 (setOk_and a4.toNat fs))
          have hs4 : 0 ≤ a4 ∧ a4 < P := by rw [← p1]; exact fo
          obtain ⟨o1, o2⟩ := hs4
          have hld := only_len ((a3.toNat &&& a4.toNat : Nat) : Int) z1
          rw [← hand] at HD HX hld
          have HI := Lib.hid (fun W n X Y k l (h : IntsAt W W.heap.size X (only (bits .and .i64 a3 a4) z1)) (h' : IntsAt W W.heap.size Y (only (bits .and .i64 a3 a4) z1)) => ints_yes (n := n) (c := k) (d := l) rfl h h' (by omega))
          clear hj f1 f2 v1 v2 fo fs fn hand hnot p1 hla hlb
          generalize only (bits .and .i64 a3 a4) z1 = D at *
          generalize only (P - 1 - a3) z1 = Y at *
          generalize only a3 z1 ++ only a3 z2 = R at *
          generalize only a3 z1 = R1 at *
          generalize only a3 z2 = R2 at *
          generalize z1 ++ z2 = Z at *
          go_enter Try.func3, Try.ntmps3
          go_wp2_with fail
          refine (HP.out _).mono ?_
          rintro e w9 ⟨X0, k0, rfl, hx, hb⟩
          have X0H := Lib.hid hx
          have B1 := Lib.hid (hb)
          clear hx hb HP
          go_wp2_with fail
          refine (HQ.out _ X0 k0 X0H.out).mono ?_
          rintro e w9 ⟨rfl, hb⟩
          have B2 := Lib.hid (B1.out.trans (hb.mono B1.out.size))
          clear hb HQ X0H B1
          go_wp2_with fail
          refine (HA.out _ (HF.out _ B2.out).1).mono ?_
          rintro e w9 ⟨X1, k1, rfl, hx, hb⟩
          have X1H := Lib.hid hx
          have B3 := Lib.hid (B2.out.trans (hb.mono B2.out.size))
          clear hx hb HA B2
          go_wp2_with fail
          refine (HB.out _ (HF.out _ B3.out).2).mono ?_
          rintro e w9 ⟨X2, k2, rfl, hx, hb⟩
          have X1H := Lib.hid (X1H.out.on hb)
          have X2H := Lib.hid hx
          have B4 := Lib.hid (B3.out.trans (hb.mono B3.out.size))
          clear hx hb HB B3
          go_wp2_with fail
          refine (HJ.out _ (HF.out _ B4.out).1 (HF.out _ B4.out).2).mono ?_
          rintro e w9 ⟨X3, k3, rfl, hx, hb⟩
          have X1H := Lib.hid (X1H.out.on hb)
          have X2H := Lib.hid (X2H.out.on hb)
          have X3H := Lib.hid hx
          have B5 := Lib.hid (B4.out.trans (hb.mono B4.out.size))
          clear hx hb HJ B4
          go_wp2_with fail
          refine (HC.out _ X3 k3 X3H.out).mono ?_
          rintro e w9 ⟨X4, k4, rfl, hx, hb⟩
          have X1H := Lib.hid (X1H.out.on hb)
          have X2H := Lib.hid (X2H.out.on hb)
          have X4H := Lib.hid hx
          have B6 := Lib.hid (B5.out.trans (hb.mono B5.out.size))
          clear hx hb HC B5 X3H
          go_wp2_with fail
          refine (HK.out _ X1 X2 k1 k2 X1H.out X2H.out).mono ?_
          rintro e w9 ⟨X5, k5, rfl, hx, hb⟩
          have X1H := Lib.hid (X1H.out.on hb)
          have X4H := Lib.hid (X4H.out.on hb)
          have X5H := Lib.hid hx
          have B7 := Lib.hid (B6.out.trans (hb.mono B6.out.size))
          clear hx hb HK B6 X2H
          go_wp2_with fail
          refine (HE.out _ X4 X5 k4 k5 X4H.out X5H.out).mono ?_
          rintro e w9 ⟨rfl, n, rfl⟩
          have hb := below_drewN (Below.refl w9.heap.size w9) n
          have X1H := Lib.hid (X1H.out.on hb)
          have B8 := Lib.hid (B7.out.trans (hb.mono B7.out.size))
          clear HE X4H X5H B7 hb
          generalize w9.drewN n = w8 at *
          go_wp2_with fail
          refine (HD.out _ X1 k1 X1H.out).mono ?_
          rintro e w9 ⟨X6, k6, rfl, hx, hb⟩
          have X1H := Lib.hid (X1H.out.on hb)
          have X6H := Lib.hid hx
          have B9 := Lib.hid (B8.out.trans (hb.mono B8.out.size))
          clear hx hb HD B8
          go_wp2_with fail
          refine (HX.out _ (HF.out _ B9.out).1).mono ?_
          rintro e w9 ⟨X7, k7, rfl, hx, hb⟩
          have X1H := Lib.hid (X1H.out.on hb)
          have X6H := Lib.hid (X6H.out.on hb)
          have X7H := Lib.hid hx
          have B10 := Lib.hid (B9.out.trans (hb.mono B9.out.size))
          clear hx hb HX B9
          have HII := Lib.hid (fun n => HI.out w9 n X6 X7 k6 k7 X6H.out X7H.out)
          clear HI X6H X7H
          go_wp2
          go_quiet ((go_at_call 8; with_reducible exact HII.out _))
          go_wp2_with fail
          refine (HY.out _ (HF.out _ (below_drewN B10.out _)).1).mono ?_
          rintro e w9 ⟨X8, k8, rfl, hx, hb⟩
          have B11 := Lib.hid ((below_drewN B10.out _).trans (hb.mono (below_drewN B10.out _).size))
          have X1H := Lib.hid ((X1H.out.below (below_drewN (Below.refl _ _) _)).on hb)
          clear hx hb HY B10
          go_wp2_with fail
          refine (HS.out _ X1 k1 X1H.out (HF.out _ B11.out).1).mono ?_
          rintro e w9 ⟨rfl, rfl⟩
          clear HS X1H HF
          go_wp2
          go_ret
          exact ⟨rfl, B11.out⟩
        · have HD := Lib.hid (fun W X k (h : IntsAt W W.heap.size X (only a3 z1)) => only_bad (c := k) hL ⟨l4, h4⟩ h (by omega) (fun h => fo h.2))
          have HX := Lib.hid (fun W (h : IntsAt W W.heap.size A1 z1) => only_some (c := c1) hL (small_and a3 a4) h (by omega))
          have ho : a4 < 0 ∨ (0 ≤ a4 ∧ P ≤ a4) := by
            by_cases ha : 0 ≤ a4
            · exact .inr ⟨ha, Int.not_lt.1 fun h => fo ⟨ha, by rw [p1]; exact h⟩⟩
            · exact .inl (by omega)
          clear hj f1 f2 v1 v2 fo fs fn hnot p1 hla hlb
          generalize only (P - 1 - a3) z1 = Y at *
          generalize only a3 z1 ++ only a3 z2 = R at *
          generalize only a3 z1 = R1 at *
          generalize only a3 z2 = R2 at *
          generalize z1 ++ z2 = Z at *
          rcases ho with ho | ⟨ho, ho2⟩
          · have hd : decide (0 ≤ a4) = false := decide_eq_false (by omega)
            go_enter Try.func3, Try.ntmps3
            go_wp2_with fail
            refine (HP.out _).mono ?_
            rintro e w9 ⟨X0, k0, rfl, hx, hb⟩
            have X0H := Lib.hid hx
            have B1 := Lib.hid (hb)
            clear hx hb HP
            go_wp2_with fail
            refine (HQ.out _ X0 k0 X0H.out).mono ?_
            rintro e w9 ⟨rfl, hb⟩
            have B2 := Lib.hid (B1.out.trans (hb.mono B1.out.size))
            clear hb HQ X0H B1
            go_wp2_with fail
            refine (HA.out _ (HF.out _ B2.out).1).mono ?_
            rintro e w9 ⟨X1, k1, rfl, hx, hb⟩
            have X1H := Lib.hid hx
            have B3 := Lib.hid (B2.out.trans (hb.mono B2.out.size))
            clear hx hb HA B2
            go_wp2_with fail
            refine (HB.out _ (HF.out _ B3.out).2).mono ?_
            rintro e w9 ⟨X2, k2, rfl, hx, hb⟩
            have X1H := Lib.hid (X1H.out.on hb)
            have X2H := Lib.hid hx
            have B4 := Lib.hid (B3.out.trans (hb.mono B3.out.size))
            clear hx hb HB B3
            go_wp2_with fail
            refine (HJ.out _ (HF.out _ B4.out).1 (HF.out _ B4.out).2).mono ?_
            rintro e w9 ⟨X3, k3, rfl, hx, hb⟩
            have X1H := Lib.hid (X1H.out.on hb)
            have X2H := Lib.hid (X2H.out.on hb)
            have X3H := Lib.hid hx
            have B5 := Lib.hid (B4.out.trans (hb.mono B4.out.size))
            clear hx hb HJ B4
            go_wp2_with fail
            refine (HC.out _ X3 k3 X3H.out).mono ?_
            rintro e w9 ⟨X4, k4, rfl, hx, hb⟩
            have X1H := Lib.hid (X1H.out.on hb)
            have X2H := Lib.hid (X2H.out.on hb)
            have X4H := Lib.hid hx
            have B6 := Lib.hid (B5.out.trans (hb.mono B5.out.size))
            clear hx hb HC B5 X3H
            go_wp2_with fail
            refine (HK.out _ X1 X2 k1 k2 X1H.out X2H.out).mono ?_
            rintro e w9 ⟨X5, k5, rfl, hx, hb⟩
            have X1H := Lib.hid (X1H.out.on hb)
            have X4H := Lib.hid (X4H.out.on hb)
            have X5H := Lib.hid hx
            have B7 := Lib.hid (B6.out.trans (hb.mono B6.out.size))
            clear hx hb HK B6 X2H
            go_wp2_with fail
            refine (HE.out _ X4 X5 k4 k5 X4H.out X5H.out).mono ?_
            rintro e w9 ⟨rfl, n, rfl⟩
            have hb := below_drewN (Below.refl w9.heap.size w9) n
            have X1H := Lib.hid (X1H.out.on hb)
            have B8 := Lib.hid (B7.out.trans (hb.mono B7.out.size))
            clear HE X4H X5H B7 hb
            generalize w9.drewN n = w8 at *
            go_wp2_with fail
            refine (HD.out _ X1 k1 X1H.out).mono ?_
            rintro e w9 ⟨X6, k6, i6, rfl, hb⟩
            have X1H := Lib.hid (X1H.out.on hb)
            have B9 := Lib.hid (B8.out.trans (hb.mono B8.out.size))
            clear hb HD B8
            go_wp2_with fail
            refine (HX.out _ (HF.out _ B9.out).1).mono ?_
            rintro e w9 ⟨X7, n7, k7, E7, rfl, hb⟩
            have X1H := Lib.hid (X1H.out.on hb)
            have B10 := Lib.hid (B9.out.trans (hb.mono B9.out.size))
            clear hb HX B9
            go_wp2
            go_quiet (fail)
            go_wp2_with fail
            refine (HY.out _ (HF.out _ (below_drewN B10.out _)).1).mono ?_
            rintro e w9 ⟨X8, k8, rfl, hx, hb⟩
            have B11 := Lib.hid ((below_drewN B10.out _).trans (hb.mono (below_drewN B10.out _).size))
            have X1H := Lib.hid ((X1H.out.below (below_drewN (Below.refl _ _) _)).on hb)
            clear hx hb HY B10
            go_wp2_with fail
            refine (HS.out _ X1 k1 X1H.out (HF.out _ B11.out).1).mono ?_
            rintro e w9 ⟨rfl, rfl⟩
            clear HS X1H HF
            go_wp2
            go_ret
            exact ⟨rfl, B11.out⟩
          · have hd : decide (a4 < P) = false := decide_eq_false (by omega)
            go_enter Try.func3, Try.ntmps3
            go_wp2_with fail
            refine (HP.out _).mono ?_
            rintro e w9 ⟨X0, k0, rfl, hx, hb⟩
            have X0H := Lib.hid hx
            have B1 := Lib.hid (hb)
            clear hx hb HP
            go_wp2_with fail
            refine (HQ.out _ X0 k0 X0H.out).mono ?_
            rintro e w9 ⟨rfl, hb⟩
            have B2 := Lib.hid (B1.out.trans (hb.mono B1.out.size))
            clear hb HQ X0H B1
            go_wp2_with fail
            refine (HA.out _ (HF.out _ B2.out).1).mono ?_
            rintro e w9 ⟨X1, k1, rfl, hx, hb⟩
            have X1H := Lib.hid hx
            have B3 := Lib.hid (B2.out.trans (hb.mono B2.out.size))
            clear hx hb HA B2
            go_wp2_with fail
            refine (HB.out _ (HF.out _ B3.out).2).mono ?_
            rintro e w9 ⟨X2, k2, rfl, hx, hb⟩
            have X1H := Lib.hid (X1H.out.on hb)
            have X2H := Lib.hid hx
            have B4 := Lib.hid (B3.out.trans (hb.mono B3.out.size))
            clear hx hb HB B3
            go_wp2_with fail
            refine (HJ.out _ (HF.out _ B4.out).1 (HF.out _ B4.out).2).mono ?_
            rintro e w9 ⟨X3, k3, rfl, hx, hb⟩
            have X1H := Lib.hid (X1H.out.on hb)
            have X2H := Lib.hid (X2H.out.on hb)
            have X3H := Lib.hid hx
            have B5 := Lib.hid (B4.out.trans (hb.mono B4.out.size))
            clear hx hb HJ B4
            go_wp2_with fail
            refine (HC.out _ X3 k3 X3H.out).mono ?_
            rintro e w9 ⟨X4, k4, rfl, hx, hb⟩
            have X1H := Lib.hid (X1H.out.on hb)
            have X2H := Lib.hid (X2H.out.on hb)
            have X4H := Lib.hid hx
            have B6 := Lib.hid (B5.out.trans (hb.mono B5.out.size))
            clear hx hb HC B5 X3H
            go_wp2_with fail
            refine (HK.out _ X1 X2 k1 k2 X1H.out X2H.out).mono ?_
            rintro e w9 ⟨X5, k5, rfl, hx, hb⟩
            have X1H := Lib.hid (X1H.out.on hb)
            have X4H := Lib.hid (X4H.out.on hb)
            have X5H := Lib.hid hx
            have B7 := Lib.hid (B6.out.trans (hb.mono B6.out.size))
            clear hx hb HK B6 X2H
            go_wp2_with fail
            refine (HE.out _ X4 X5 k4 k5 X4H.out X5H.out).mono ?_
            rintro e w9 ⟨rfl, n, rfl⟩
            have hb := below_drewN (Below.refl w9.heap.size w9) n
            have X1H := Lib.hid (X1H.out.on hb)
            have B8 := Lib.hid (B7.out.trans (hb.mono B7.out.size))
            clear HE X4H X5H B7 hb
            generalize w9.drewN n = w8 at *
            go_wp2_with fail
            refine (HD.out _ X1 k1 X1H.out).mono ?_
            rintro e w9 ⟨X6, k6, i6, rfl, hb⟩
            have X1H := Lib.hid (X1H.out.on hb)
            have B9 := Lib.hid (B8.out.trans (hb.mono B8.out.size))
            clear hb HD B8
            go_wp2_with fail
            refine (HX.out _ (HF.out _ B9.out).1).mono ?_
            rintro e w9 ⟨X7, n7, k7, E7, rfl, hb⟩
            have X1H := Lib.hid (X1H.out.on hb)
            have B10 := Lib.hid (B9.out.trans (hb.mono B9.out.size))
            clear hb HX B9
            go_wp2
            go_quiet (fail)
            go_wp2_with fail
            refine (HY.out _ (HF.out _ (below_drewN B10.out _)).1).mono ?_
            rintro e w9 ⟨X8, k8, rfl, hx, hb⟩
            have B11 := Lib.hid ((below_drewN B10.out _).trans (hb.mono (below_drewN B10.out _).size))
            have X1H := Lib.hid ((X1H.out.below (below_drewN (Below.refl _ _) _)).on hb)
            clear hx hb HY B10
            go_wp2_with fail
            refine (HS.out _ X1 k1 X1H.out (HF.out _ B11.out).1).mono ?_
            rintro e w9 ⟨rfl, rfl⟩
            clear HS X1H HF
            go_wp2
            go_ret
            exact ⟨rfl, B11.out⟩
      · have HC := Lib.hid (fun W X k (h : IntsAt W W.heap.size X (z1 ++ z2)) => only_bad (c := k) hL hS h (by omega) (fun h => h80 (by have := h.1.2.1; omega)))
        have hlong : decide ((80 : Int) - (z2.length : Int) < (z1.length : Int)) = true := decide_eq_true (by omega)
        have hq9 := Lib.hid hj
        have hle1 : (z1 ++ z2).length ≤ 2097152 := by omega
        clear hj f1 v1 v2 f2 fs
        generalize z1 ++ z2 = Z at *
        generalize only a3 z1 = R1 at *
        generalize only a3 z2 = R2 at *
        go_enter Try.func3, Try.ntmps3
        go_wp2_with fail
        refine (HP.out _).mono ?_
        rintro e w9 ⟨X0, k0, rfl, hx, hb⟩
        have X0H := Lib.hid hx
        have B1 := Lib.hid (hb)
        clear hx hb HP
        go_wp2_with fail
        refine (HQ.out _ X0 k0 X0H.out).mono ?_
        rintro e w9 ⟨rfl, hb⟩
        have B2 := Lib.hid (B1.out.trans (hb.mono B1.out.size))
        clear hb HQ X0H B1
        go_wp2_with fail
        refine (HA.out _ (HF.out _ B2.out).1).mono ?_
        rintro e w9 ⟨X1, k1, rfl, hx, hb⟩
        have X1H := Lib.hid hx
        have B3 := Lib.hid (B2.out.trans (hb.mono B2.out.size))
        clear hx hb HA B2
        go_wp2_with fail
        refine (HB.out _ (HF.out _ B3.out).2).mono ?_
        rintro e w9 ⟨X2, k2, rfl, hx, hb⟩
        have X2H := Lib.hid hx
        have B4 := Lib.hid (B3.out.trans (hb.mono B3.out.size))
        clear hx hb HB B3
        go_wp2_with fail
        refine (HJ.out _ (HF.out _ B4.out).1 (HF.out _ B4.out).2).mono ?_
        rintro e w9 ⟨X3, k3, rfl, hx, hb⟩
        have X3H := Lib.hid hx
        have B5 := Lib.hid (B4.out.trans (hb.mono B4.out.size))
        clear hx hb HJ B4
        go_wp2_with fail
        refine (HC.out _ X3 k3 X3H.out).mono ?_
        rintro e w9 ⟨X4, k4, i4, rfl, hb⟩
        have B6 := Lib.hid (B5.out.trans (hb.mono B5.out.size))
        clear hb HC B5 X3H
        go_wp2
        go_ret
        exact ⟨rfl, B6.out⟩
    · have HB := Lib.hid (fun W (h : IntsAt W W.heap.size A2 z2) => only_bad (c := c2) hL hS h (by omega) (fun h => f2 h.1))
      have HC := Lib.hid (fun W X k (h : IntsAt W W.heap.size X (z1 ++ z2)) => only_bad (c := k) hL hS h (by omega) (fun h => f2 h.1.right))
      have hq9 := Lib.hid hj
      have hle1 : (z1 ++ z2).length ≤ 2097152 := by omega
      clear hj f1 v1 v2 f2 fs
      generalize z1 ++ z2 = Z at *
      generalize only a3 z1 = R1 at *
      go_enter Try.func3, Try.ntmps3
      go_wp2_with fail
      refine (HP.out _).mono ?_
      rintro e w9 ⟨X0, k0, rfl, hx, hb⟩
      have X0H := Lib.hid hx
      have B1 := Lib.hid (hb)
      clear hx hb HP
      go_wp2_with fail
      refine (HQ.out _ X0 k0 X0H.out).mono ?_
      rintro e w9 ⟨rfl, hb⟩
      have B2 := Lib.hid (B1.out.trans (hb.mono B1.out.size))
      clear hb HQ X0H B1
      go_wp2_with fail
      refine (HA.out _ (HF.out _ B2.out).1).mono ?_
      rintro e w9 ⟨X1, k1, rfl, hx, hb⟩
      have X1H := Lib.hid hx
      have B3 := Lib.hid (B2.out.trans (hb.mono B2.out.size))
      clear hx hb HA B2
      go_wp2_with fail
      refine (HB.out _ (HF.out _ B3.out).2).mono ?_
      rintro e w9 ⟨X2, k2, i2, rfl, hb⟩
      have B4 := Lib.hid (B3.out.trans (hb.mono B3.out.size))
      clear hb HB B3
      go_wp2_with fail
      refine (HJ.out _ (HF.out _ B4.out).1 (HF.out _ B4.out).2).mono ?_
      rintro e w9 ⟨X3, k3, rfl, hx, hb⟩
      have X3H := Lib.hid hx
      have B5 := Lib.hid (B4.out.trans (hb.mono B4.out.size))
      clear hx hb HJ B4
      go_wp2_with fail
      refine (HC.out _ X3 k3 X3H.out).mono ?_
      rintro e w9 ⟨X4, k4, i4, rfl, hb⟩
      have B6 := Lib.hid (B5.out.trans (hb.mono B5.out.size))
      clear hb HC B5 X3H
      go_wp2
      go_ret
      exact ⟨rfl, B6.out⟩
  · have HA := Lib.hid (fun W (h : IntsAt W W.heap.size A1 z1) => only_bad (c := c1) hL hS h (by omega) f1)
    have HB := Lib.hid (fun W (h : IntsAt W W.heap.size A2 z2) => only_some (c := c2) hL hS h (by omega))
    have HC := Lib.hid (fun W X k (h : IntsAt W W.heap.size X (z1 ++ z2)) => only_bad (c := k) hL hS h (by omega) (fun h => f1 ⟨h.1.left, h.2⟩))
    have hq9 := Lib.hid hj
    have hle1 : (z1 ++ z2).length ≤ 2097152 := by omega
    clear hj f1 v1 v2 
    generalize z1 ++ z2 = Z at *
    go_enter Try.func3, Try.ntmps3
    go_wp2_with fail
    refine (HP.out _).mono ?_
    rintro e w9 ⟨X0, k0, rfl, hx, hb⟩
    have X0H := Lib.hid hx
    have B1 := Lib.hid (hb)
    clear hx hb HP
    go_wp2_with fail
    refine (HQ.out _ X0 k0 X0H.out).mono ?_
    rintro e w9 ⟨rfl, hb⟩
    have B2 := Lib.hid (B1.out.trans (hb.mono B1.out.size))
    clear hb HQ X0H B1
    go_wp2_with fail
    refine (HA.out _ (HF.out _ B2.out).1).mono ?_
    rintro e w9 ⟨X1, k1, i1, rfl, hb⟩
    have B3 := Lib.hid (B2.out.trans (hb.mono B2.out.size))
    clear hb HA B2
    go_wp2_with fail
    refine (HB.out _ (HF.out _ B3.out).2).mono ?_
    rintro e w9 ⟨X2, n2, k2, E2, rfl, hb⟩
    have B4 := Lib.hid (B3.out.trans (hb.mono B3.out.size))
    clear hb HB B3
    go_wp2_with fail
    refine (HJ.out _ (HF.out _ B4.out).1 (HF.out _ B4.out).2).mono ?_
    rintro e w9 ⟨X3, k3, rfl, hx, hb⟩
    have X3H := Lib.hid hx
    have B5 := Lib.hid (B4.out.trans (hb.mono B4.out.size))
    clear hx hb HJ B4
    go_wp2_with fail
    refine (HC.out _ X3 k3 X3H.out).mono ?_
    rintro e w9 ⟨X4, k4, i4, rfl, hb⟩
    have B6 := Lib.hid (B5.out.trans (hb.mono B5.out.size))
    clear hb HC B5 X3H
    go_wp2
    go_ret
    exact ⟨rfl, B6.out⟩


set_option maxRecDepth 100000 in
theorem lifted (os : Os) (started : os.Started) (H : Type) (enc : TypeId × Value → H) (FF : Stop.Interp) :
    ReturnsInHanded {} Try.checked os 3 .any ((Rows.OpenSpec.upto Rows.wordOnlySpec).pre6 enc Try.prog Try.f3 Rows.wordOnlyUptoRow.domain false) (((Rows.OpenSpec.upto Rows.wordOnlySpec).at FF).post enc Try.prog Try.f3 false true false false) := by
  refine returnsInHanded_of_cond_sized (C := Try.checked) (s := Rows.OpenSpec.upto Rows.wordOnlySpec) (k := Rows.uptoSmall) rfl own started (by kernel_rfl) Try.func3
    (OpenSpec.witness (enc := enc) (C := Try.checked) (s := Rows.OpenSpec.upto Rows.wordOnlySpec) (k := Rows.uptoSmall) rfl false ⟨#[], #[.int .i64 0, .slice none 0 0, .slice none 0 0, .int .i64 0, .int .i64 0], []⟩ 8 (by kernel_rfl) (by kernel_rfl) (by kernel_rfl) (x := ([.lit (.int .i64 0), .nil, .nil, .lit (.int .i64 0), .lit (.int .i64 0)], [], [])) (by kernel_rfl) rfl (by kernel_rfl)) ?_
  intro W base args ds gs before hval0 hW hcnd hk0 hsz0 _
  have hval : ∀ (j : Nat) t v, Try.f3.params[j]? = some t → args[j]? = some v → Value.okWide Try.prog W .any base t v := hval0
  have hsz : (DataW.weightsEach Try.prog (Try.f3.params.toList ++ Rows.wordOnlySpec.plain.varTypes Try.prog) (ds ++ gs)).all (· ≤ reachBytes) = true := hsz0
  have hW' := hW
  obtain ⟨p, q, hA0, hV0, rfl, hfz, hnd⟩ := hW
  have hV : DataW.TrodVars enc Try.prog W (fun _ => true) [] gs q := hV0
  have hA : DataW.TrodAll enc Try.prog W 0 (fun _ => true) true Try.f3.params.toList args.toList ds p := hA0
  rw [Try.params3] at hA hval hsz
  obtain ⟨v0, vs0, d0, ds0, p0, q0, hargs, rfl, rfl, h0, rr0⟩ := trodAll_cons hA
  obtain ⟨v1, vs1, d1, ds1, p1, q1, rfl, rfl, rfl, h1, rr1⟩ := trodAll_cons rr0
  obtain ⟨v2, vs2, d2, ds2, p2, q2, rfl, rfl, rfl, h2, rr2⟩ := trodAll_cons rr1
  obtain ⟨v3, vs3, d3, ds3, p3, q3, rfl, rfl, rfl, h3, rr3⟩ := trodAll_cons rr2
  obtain ⟨v4, vs4, d4, ds4, p4, q4, rfl, rfl, rfl, h4, rr4⟩ := trodAll_cons rr3
  obtain ⟨rfl, rfl, rfl⟩ := trodAll_nil rr4
  obtain rfl : args = #[v0, v1, v2, v3, v4] := by cases args; simp_all
  obtain ⟨rfl, rfl⟩ := trodVars_none hV
  have k0 := h0
  have lt0 : ∀ x ∈ p0, x.block < W.heap.size := by obtain ⟨m, hm⟩ := k0; exact DataW.trod_lt m _ _ _ hm
  have k1 := h1
  have lt1 : ∀ x ∈ p1, x.block < W.heap.size := by obtain ⟨m, hm⟩ := k1; exact DataW.trod_lt m _ _ _ hm
  have k2 := h2
  have lt2 : ∀ x ∈ p2, x.block < W.heap.size := by obtain ⟨m, hm⟩ := k2; exact DataW.trod_lt m _ _ _ hm
  have k3 := h3
  have lt3 : ∀ x ∈ p3, x.block < W.heap.size := by obtain ⟨m, hm⟩ := k3; exact DataW.trod_lt m _ _ _ hm
  have k4 := h4
  have lt4 : ∀ x ∈ p4, x.block < W.heap.size := by obtain ⟨m, hm⟩ := k4; exact DataW.trod_lt m _ _ _ hm
  have hu : Rows.uptoBulkAll _ ≤ 1048576 := of_decide_eq_true hk0
  obtain ⟨a0, rfl, rfl, rfl, w0⟩ := open_int Try.underlying3 (hval 0 3 v0 rfl rfl) h0
  obtain ⟨l0, hh0⟩ := bounds_i64 w0
  obtain ⟨A1, len1, c1, rfl⟩ := okWide_slice Try.underlying22 (hval 1 22 v1 rfl rfl)
  obtain ⟨z1, rfl, x1, r1, q1⟩ : ∃ zs : List Int, len1 = zs.length ∧ IntsAt W W.heap.size A1 zs ∧ zs.length ≤ 17592186043904 ∧ zs.length ≤ 1048576 := by
    obtain ⟨fuel, hf⟩ := h1
    rcases open_ints Try.underlying22 Try.underlying3 (by kernel_rfl) hf with ⟨hcs, _⟩ | ⟨x, l, c, zs, hcs, _, hl, hm, hz, hx, hcell, hwz⟩
    · simp [Value.cells] at hcs
      obtain ⟨rfl, rfl, rfl⟩ := hcs
      exact ⟨[], rfl, IntsAt.nil _ _ _, by simp, by simp⟩
    · simp [Value.cells] at hcs
      obtain ⟨rfl, rfl, rfl⟩ := hcs
      have hd := congrArg Prod.fst hx
      simp only at hd
      have := sized_slice hsz (j := 1) (t := 22) (e := 3) rfl (by rw [hd]; rfl) Try.underlying22
      rw [(show Try.prog.bytesOf 3 = 8 by kernel_rfl)] at this
      simp only [reachBytes, lits, List.length_map, List.length_take, List.length_drop] at this
      have hz' : zs.length = c1 := by simpa using hz
      have hq : (zs.take len1).length ≤ 1048576 := by
        have h9 := le_of_slice hu 1 (es := lits .i64 (zs.take len1)) (sp := lits .i64 (zs.drop len1)) (by rw [← hd]; rfl)
        simpa [lits] using h9
      exact ⟨zs.take len1, by rw [List.length_take]; omega, intsAt_of_open hcell hwz len1, by rw [List.length_take]; omega, hq⟩
  obtain ⟨A2, len2, c2, rfl⟩ := okWide_slice Try.underlying22 (hval 2 22 v2 rfl rfl)
  obtain ⟨z2, rfl, x2, r2, q2⟩ : ∃ zs : List Int, len2 = zs.length ∧ IntsAt W W.heap.size A2 zs ∧ zs.length ≤ 17592186043904 ∧ zs.length ≤ 1048576 := by
    obtain ⟨fuel, hf⟩ := h2
    rcases open_ints Try.underlying22 Try.underlying3 (by kernel_rfl) hf with ⟨hcs, _⟩ | ⟨x, l, c, zs, hcs, _, hl, hm, hz, hx, hcell, hwz⟩
    · simp [Value.cells] at hcs
      obtain ⟨rfl, rfl, rfl⟩ := hcs
      exact ⟨[], rfl, IntsAt.nil _ _ _, by simp, by simp⟩
    · simp [Value.cells] at hcs
      obtain ⟨rfl, rfl, rfl⟩ := hcs
      have hd := congrArg Prod.fst hx
      simp only at hd
      have := sized_slice hsz (j := 2) (t := 22) (e := 3) rfl (by rw [hd]; rfl) Try.underlying22
      rw [(show Try.prog.bytesOf 3 = 8 by kernel_rfl)] at this
      simp only [reachBytes, lits, List.length_map, List.length_take, List.length_drop] at this
      have hz' : zs.length = c2 := by simpa using hz
      have hq : (zs.take len2).length ≤ 1048576 := by
        have h9 := le_of_slice hu 2 (es := lits .i64 (zs.take len2)) (sp := lits .i64 (zs.drop len2)) (by rw [← hd]; rfl)
        simpa [lits] using h9
      exact ⟨zs.take len2, by rw [List.length_take]; omega, intsAt_of_open hcell hwz len2, by rw [List.length_take]; omega, hq⟩
  obtain ⟨a3, rfl, rfl, rfl, w3⟩ := open_int Try.underlying3 (hval 3 3 v3 rfl rfl) h3
  obtain ⟨l3, hh3⟩ := bounds_i64 w3
  obtain ⟨a4, rfl, rfl, rfl, w4⟩ := open_int Try.underlying3 (hval 4 3 v4 rfl rfl) h4
  obtain ⟨l4, hh4⟩ := bounds_i64 w4
  clear hA0 hval0
  refine (walk a0 A1 c1 z1 A2 c2 z2 a3 a4 W l0 hh0 x1 r1 q1 x2 r2 q2 l3 hh3 l4 hh4).mono fun e W' ⟨he, bel⟩ => ?_
  subst he
  exact ⟨_, rfl, _, _, _, [], _, [], hW', trodAll_mk1 (shut_bool Try.underlying4 _), (trodAll_cons_mk (Below.trod laidOut (by kernel_rfl) (of_decide_eq_true (by kernel_rfl)) k0 bel lt0) (trodAll_cons_mk (Below.trod laidOut (by kernel_rfl) (of_decide_eq_true (by kernel_rfl)) k1 bel lt1) (trodAll_cons_mk (Below.trod laidOut (by kernel_rfl) (of_decide_eq_true (by kernel_rfl)) k2 bel lt2) (trodAll_cons_mk (Below.trod laidOut (by kernel_rfl) (of_decide_eq_true (by kernel_rfl)) k3 bel lt3) (trodAll_cons_mk (Below.trod laidOut (by kernel_rfl) (of_decide_eq_true (by kernel_rfl)) k4 bel lt4) trodAll_mk0))))), rfl, bel.frame _, fun h => by cases h⟩

theorem over : Rows.wordOnlyUptoRow.holds Try.pinned (Rows.OpenSpec.upto Rows.wordOnlySpec) :=
  OpenClaim.holds_of_cond 3 Try.f3 rfl rfl rfl rfl rfl rfl rfl ⟨rfl, rfl, rfl, rfl, rfl⟩ rfl rfl rfl rfl rfl (by kernel_rfl) Try.func3 (by kernel_rfl)
    (of_decide_eq_true (by kernel_rfl)) (by unfold Func.isWrapper; rw [if_neg (of_decide_eq_false (by kernel_rfl))]; exact ⟨rfl, rfl⟩)
    (fun os started H enc _ FF => lifted os started H enc FF)
theorem proved : Rows.WordOnlyUptoSaid := over
#print axioms proved
end Go.Proofs.Ytmcgdajembhocaa.wordOnly
