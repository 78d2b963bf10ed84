/-
  The statement DfaRunsUptoSaid of this seat, proved: for every input the law returns true and its arguments read behind the call as before. Conditions: none but the row's own (each argument within the reach).
-/
import Derived.Test.YtinehjfanabegaaRows
import Derived.JoinedCond
import Derived.Deep.CondSized
import Derived.Deep.DeepHandedRow
import Derived.Test.YtinehjfanabegaaWords
import Derived.WalkKit
import Derived.ProofKit
import Derived.OpenShut
import Derived.ShutString
import Derived.ChangeOld
import Derived.Below
import Derived.SizedLaws
import Derived.Lib.Hide
import Derived.Test.YtinehjfanabegaaDfaV
import Derived.Test.YtinehjfanabegaaDfaK
import Derived.Test.YtinehjfanabegaaWordL
import Derived.Deep.QuietTactic
import Derived.BigQuiet
import Derived.Deep.RegionHeld3
namespace Go.Proofs.Ytinehjfanabegaa.dfaRuns
open Go.ChangeShapes Go.WideShapes Go.ChangeAt Go.RowKit Go.IntWalk Go.Proofs.Ytinehjfanabegaa.Wd
open Go.ChangeMaps (open_string shut_string)
set_option linter.unusedVariables false

/-- What the bound gives: a text's length. -/
theorem le_of_bulk {H : Type} {l : List (DataW H)} (h : Rows.uptoBulkAll l ≤ 1048576) : ∀ (i : Nat) {bs : List UInt8}, l[i]? = some (.lit (.string bs)) → bs.length ≤ 1048576 := by
  have hp : ∀ (l : List (DataW H)) (i : Nat) (bs : List UInt8), l[i]? = some (.lit (.string bs)) → bs.length ≤ Rows.uptoBulkAll l := by
    intro l
    induction l with
    | nil => intro i bs h; simp at h
    | cons x r ih =>
      intro i bs hx
      simp only [Rows.uptoBulkAll]
      rcases i with _ | i
      · simp only [List.getElem?_cons_zero, Option.some.injEq] at hx
        subst hx
        simp only [Rows.uptoBulk]
        omega
      · have := ih i bs (by simpa using hx)
        omega
  exact fun i bs hx => Nat.le_trans (hp l i bs hx) h
/-- What the bound gives: a slice's length. -/
theorem one_le_bulk {H : Type} (d : DataW H) : 1 ≤ Rows.uptoBulk d := by
  rcases d with l | _ | _ | _ | _ | _ | _ | _
  · cases l <;> simp [Rows.uptoBulk]
  all_goals simp [Rows.uptoBulk]
theorem len_le_bulk {H : Type} : ∀ l : List (DataW H), l.length ≤ Rows.uptoBulkAll l
  | [] => Nat.le_refl _
  | d :: l => by
    have h1 := one_le_bulk d
    have h2 := len_le_bulk l
    simp only [Rows.uptoBulkAll, List.length_cons]
    omega
theorem le_of_slice {H : Type} {l : List (DataW H)} (h : Rows.uptoBulkAll l ≤ 1048576) : ∀ (i : Nat) {es sp : List (DataW H)}, l[i]? = some (.slice es sp) → es.length ≤ 1048576 := by
  have hp : ∀ (l : List (DataW H)) (i : Nat) (es sp : List (DataW H)), l[i]? = some (.slice es sp) → es.length ≤ Rows.uptoBulkAll l := by
    intro l
    induction l with
    | nil => intro i es sp h; simp at h
    | cons x r ih =>
      intro i es sp hx
      simp only [Rows.uptoBulkAll]
      rcases i with _ | i
      · simp only [List.getElem?_cons_zero, Option.some.injEq] at hx
        subst hx
        have := len_le_bulk es
        simp only [Rows.uptoBulk]
        omega
      · have := ih i es sp (by simpa using hx)
        omega
  exact fun i es sp hx => Nat.le_trans (hp l i es sp hx) h
theorem own : ownKnob Try.prog.godebug = none := by kernel_rfl
theorem laidOut : laidOutB Try.prog = true := by kernel_rfl
open Go.Proofs.Ytinehjfanabegaa.Wo Go.Proofs.Ytinehjfanabegaa.Df
theorem runErr_ok {d : Aut} {q : Int} {z : List Int} (g : Df.Good d) (hz : Fine d.L z) (hq : isSt d q) : runErr d q z = 0 := runErr_zero (dchk_iff.2 g) (chk_iff.2 hz) hq
theorem runErr_iff {d : Aut} {q : Int} {z : List Int} : runErr d q z = 0 ↔ Df.Good d ∧ Fine d.L z ∧ isSt d q := by
  refine ⟨fun h => ?_, fun ⟨a, b, c⟩ => runErr_ok a b c⟩
  unfold runErr at h
  split at h
  · omega
  split at h
  · omega
  split at h
  · rename_i h1 h2 h3
    exact ⟨dchk_iff.1 (by omega), chk_iff.1 (by omega), h3⟩
  · omega
theorem fine_app {L : Int} {v z : List Int} : Fine L (v ++ z) ↔ (1 ≤ L ∧ L ≤ 6) ∧ v.length + z.length ≤ 80 ∧ (∀ a ∈ v, 0 ≤ a ∧ a < L) ∧ (∀ a ∈ z, 0 ≤ a ∧ a < L) := by
  unfold Fine
  rw [List.length_append]
  constructor
  · rintro ⟨h1, h2, h3⟩
    exact ⟨h1, h2, fun a ha => h3 a (List.mem_append_left _ ha), fun a ha => h3 a (List.mem_append_right _ ha)⟩
  · rintro ⟨h1, h2, h3, h4⟩
    refine ⟨h1, h2, fun a ha => ?_⟩
    rcases List.mem_append.1 ha with h | h
    · exact h3 a h
    · exact h4 a h
theorem runOut_ok {d : Aut} {q : Int} {z : List Int} (h : runErr d q z = 0) : runOut d q z = ((runA d q.toNat z : Nat) : Int) := by unfold runOut; rw [if_pos h]
theorem runOut_bad {d : Aut} {q : Int} {z : List Int} (h : runErr d q z ≠ 0) : runOut d q z = 0 := by unfold runOut; rw [if_neg h]

set_option maxRecDepth 100000 in
set_option maxHeartbeats 4000000 in
theorem walk (v0 : Value) (d0 : Df.Aut) (a1 : Int) (A2 : Option Addr) (c2 : Nat) (z2 : List Int) (A3 : Option Addr) (c3 : Nat) (z3 : List Int) (w : World) (h0 : Df.DfaAt w w.heap.size v0 d0) (l1 : -9223372036854775808 ≤ a1) (h1 : a1 ≤ 9223372036854775807) (v2 : IntsAt w w.heap.size A2 z2) (r2 : z2.length ≤ 17592186043904) (m2 : z2.length ≤ c2) (q2 : z2.length ≤ 1048576) (v3 : IntsAt w w.heap.size A3 z3) (r3 : z3.length ≤ 17592186043904) (m3 : z3.length ≤ c3) (q3 : z3.length ≤ 1048576) :
    Calls Try.prog 3 #[v0, .int .i64 a1, .slice A2 z2.length c2, .slice A3 z3.length c3] w fun e w' => e = .returned (.bool true) ∧ Below w.heap.size w w' := by
  have hq : Small a1 := ⟨l1, h1⟩
  obtain ⟨L0, s0, A0, n0, c0, F0, m0, k0, rfl⟩ := h0.form
  obtain ⟨u0, hu0, hb0, VA0⟩ := var_new w h0
  have VA := Lib.hid VA0
  have B := Lib.hid hb0
  have W0 := Lib.hid hu0
  have Z := Lib.hid (v2.on hb0)
  have Y := Lib.hid (v3.on hb0)
  have hl : z2.length + z3.length ≤ 17592186044416 := by omega
  have HJ := Lib.hid (fun W (h : IntsAt W W.heap.size A2 z2) (k : IntsAt W W.heap.size A3 z3) => joined_ok (c := c2) (d := c3) h k hl)
  have hl2 : (z2 ++ z3).length ≤ 17592186044416 := by rw [List.length_append]; exact hl
  have hlv : z2.length ≤ 17592186044416 := by omega
  have hlw : z3.length ≤ 17592186044416 := by omega
  clear hu0 hb0 VA0 v2 v3 r2 r3 m2 m3 hl
  by_cases g1 : runErr d0 a1 z2 = 0
  · obtain ⟨Ga, fv, hst⟩ := runErr_iff.1 g1
    obtain ⟨p, hp⟩ := Int.eq_ofNat_of_zero_le hst.1
    have hpl : p < d0.next.length := by have := hst.2; omega
    subst hp
    have hs := runOut_ok g1
    rw [Int.toNat_natCast] at hs
    have hsl : runA d0 p z2 < d0.next.length := Ga.run_lt (fine_word fv) hpl
    have h40 := Ga.n40
    have hst2 : isSt d0 ((runA d0 p z2 : Nat) : Int) := ⟨by omega, by omega⟩
    have hq2 : Small ((runA d0 p z2 : Nat) : Int) := ⟨by omega, by omega⟩
    have HV := Lib.hid (fun W v (h : DfaAt W W.heap.size v d0) (hZ : IntsAt W W.heap.size A2 z2) => run_gives (cz := c2) (E := .nilIface) h hq hZ hlv hs (by rw [g1]; rfl))
    by_cases f3 : Fine d0.L z3
    · have g2 := runErr_ok Ga f3 hst2
      have ht := runOut_ok g2
      rw [Int.toNat_natCast, ← runA_append] at ht
      have HT := Lib.hid (fun W v (h : DfaAt W W.heap.size v d0) (hZ : IntsAt W W.heap.size A3 z3) => run_gives (cz := c3) (E := .nilIface) h hq2 hZ hlw ht (by rw [g2]; rfl))
      by_cases h80 : z2.length + z3.length ≤ 80
      · have g3 : runErr d0 (p : Int) (z2 ++ z3) = 0 := runErr_ok Ga (fine_app.2 ⟨fv.1, h80, fv.2.2, f3.2.2⟩) hst
        have ha := runOut_ok g3
        rw [Int.toNat_natCast] at ha
        have HA := Lib.hid (fun W v X k (h : DfaAt W W.heap.size v d0) (hZ : IntsAt W W.heap.size X (z2 ++ z3)) => run_gives (cz := k) (E := .nilIface) h hq hZ hl2 ha (by rw [g3]; rfl))
        have fn : Fine d0.L [] := ⟨fv.1, by simp, by simp⟩
        have g4 := runErr_ok Ga fn hst
        have hz := runOut_ok g4
        rw [Int.toNat_natCast] at hz
        have HS := Lib.hid (fun W v (h : DfaAt W W.heap.size v d0) => run_gives (cz := 0) (Z := none) (z := []) (E := .nilIface) h hq (IntsAt.nil _ _ _) (by simp) hz (by rw [g4]; rfl))
        have HP0 : Hid (((runA d0 p [] : Nat) : Int) = (p : Int)) := rfl
        rw [HP0.out] at HS
        simp only [List.length_nil] at HS
        clear g1 Ga fv hst hpl hs hsl h40 hst2 hq2 f3 g2 ht h80 g3 ha fn g4 hz HP0
        generalize runA d0 p (z2 ++ z3) = t at *
        generalize z2 ++ z3 = zz at *
        generalize runA d0 p z2 = s at *
        have e1 := int_eq (show (t : Int) = (t : Int) from rfl)
        have e2 := int_eq (show (p : Int) = (p : Int) from rfl)
        go_enter Try.func3, Try.ntmps3
        go_wp2_with fail
        rw [← W0.out]
        refine (known_any _).mono ?_
        rintro e u1 ⟨rfl, hb⟩
        have VA := Lib.hid (VA.out.on hb)
        have Z := Lib.hid (Z.out.on hb)
        have Y := Lib.hid (Y.out.on hb)
        have B := Lib.hid (B.out.trans (hb.mono B.out.size))
        clear hb W0
        obtain ⟨p0, p1, p2, p3, p4⟩ := VA.out.box
        go_wp2_with fail
        refine (HV.out _ _ VA.out.at_ Z.out).mono ?_
        rintro e u2 ⟨rfl, hb⟩
        have VA := Lib.hid (VA.out.on hb)
        have Z := Lib.hid (Z.out.on hb)
        have Y := Lib.hid (Y.out.on hb)
        have B := Lib.hid (B.out.trans (hb.mono B.out.size))
        clear hb p0 p1 p2 p3 p4 HV
        have HK : Hid (∀ W, Below u2.heap.size u2 W → W.cell? ⟨w.heap.size, 0, none⟩ = some (.int .i64 L0) ∧ W.cell? ⟨w.heap.size, 1, none⟩ = some (.int .i64 s0) ∧ W.cell? ⟨w.heap.size, 2, none⟩ = some (.slice A0 n0 c0) ∧ W.cell? ⟨w.heap.size, 3, none⟩ = some (.slice F0 m0 k0)) := fun W hW => ⟨(VA.out.box.on hW).c0, (VA.out.box.on hW).c1, (VA.out.box.on hW).c2, (VA.out.box.on hW).c3⟩
        have HD : Hid (Below u2.heap.size u2 u2.drew) := (Below.refl _ _).drew
        go_wp2_with fail
        go_region_held3 (fun W => W.cell? ⟨w.heap.size, 0, none⟩ = some (.int .i64 L0) ∧ W.cell? ⟨w.heap.size, 1, none⟩ = some (.int .i64 s0) ∧ W.cell? ⟨w.heap.size, 2, none⟩ = some (.slice A0 n0 c0) ∧ W.cell? ⟨w.heap.size, 3, none⟩ = some (.slice F0 m0 k0))
          (first | exact HK.out _ HBR.out | exact HK.out _ HBJ.out | exact HK.out _ (Below.refl _ _).drew)
          (first | (go_at_call 17; refine (HJ.out _ (Z.out.on HD.out) (Y.out.on HD.out)).mono ?_; rintro e u3 ⟨X, kx, rfl, hx, hb⟩; have HX := Lib.hid hx; have HBJ := Lib.hid (HD.out.trans (hb.mono HD.out.size)); clear hb hx) | (go_at_call 16; refine (HA.out _ _ X kx (VA.out.on HBJ.out).at_ HX.out).mono ?_; rintro e u4 ⟨rfl, hb⟩; have HBR := Lib.hid (HBJ.out.trans (hb.mono HBJ.out.size)); clear hb))
        all_goals
          have VA := Lib.hid (VA.out.on HBR.out)
          have Y := Lib.hid (Y.out.on HBR.out)
          have B := Lib.hid (B.out.trans (HBR.out.mono B.out.size))
          clear HBR HBJ HX HK HD Z HA HJ
          obtain ⟨p0, p1, p2, p3, p4⟩ := VA.out.box
          go_wp2_with fail
          refine (HT.out _ _ VA.out.at_ Y.out).mono ?_
          rintro e u5 ⟨rfl, hb⟩
          have VA := Lib.hid (VA.out.on hb)
          have B := Lib.hid (B.out.trans (hb.mono B.out.size))
          clear hb p0 p1 p2 p3 p4 HT
          obtain ⟨p0, p1, p2, p3, p4⟩ := VA.out.box
          go_wp2_with fail
          refine (HS.out _ _ VA.out.at_).mono ?_
          rintro e u6 ⟨rfl, hb⟩
          have B := Lib.hid (B.out.trans (hb.mono B.out.size))
          clear hb p0 p1 p2 p3 p4 HS
          go_wp2
          go_ret
          exact ⟨rfl, B.out⟩
      · have g3 : runErr d0 (p : Int) (z2 ++ z3) ≠ 0 := fun h => h80 (fine_app.1 (runErr_iff.1 h).2.1).2.1
        obtain ⟨x, hx⟩ := errV_bad g3
        have ha := runOut_bad g3
        have HA := Lib.hid (fun W v X k (h : DfaAt W W.heap.size v d0) (hZ : IntsAt W W.heap.size X (z2 ++ z3)) => run_gives (cz := k) h hq hZ hl2 ha hx)
        have hw1 : IntKind.i64.wrap (80 - (z3.length : Int)) = 80 - (z3.length : Int) := IntWalk.i64_in _ ⟨by omega, by omega⟩
        have hgt : 80 - (z3.length : Int) < (z2.length : Int) := by omega
        clear g1 Ga fv hst hpl hs hsl h40 hst2 hq2 f3 g2 ht h80 g3 ha hx
        generalize runA d0 p (z2 ++ z3) = t at *
        generalize z2 ++ z3 = zz at *
        generalize runA d0 p z2 = s at *
        go_enter Try.func3, Try.ntmps3
        go_wp2_with fail
        rw [← W0.out]
        refine (known_any _).mono ?_
        rintro e u1 ⟨rfl, hb⟩
        have VA := Lib.hid (VA.out.on hb)
        have Z := Lib.hid (Z.out.on hb)
        have Y := Lib.hid (Y.out.on hb)
        have B := Lib.hid (B.out.trans (hb.mono B.out.size))
        clear hb W0
        obtain ⟨p0, p1, p2, p3, p4⟩ := VA.out.box
        go_wp2_with fail
        refine (HV.out _ _ VA.out.at_ Z.out).mono ?_
        rintro e u2 ⟨rfl, hb⟩
        have VA := Lib.hid (VA.out.on hb)
        have Z := Lib.hid (Z.out.on hb)
        have Y := Lib.hid (Y.out.on hb)
        have B := Lib.hid (B.out.trans (hb.mono B.out.size))
        clear hb p0 p1 p2 p3 p4 HV
        have HK : Hid (∀ W, Below u2.heap.size u2 W → W.cell? ⟨w.heap.size, 0, none⟩ = some (.int .i64 L0) ∧ W.cell? ⟨w.heap.size, 1, none⟩ = some (.int .i64 s0) ∧ W.cell? ⟨w.heap.size, 2, none⟩ = some (.slice A0 n0 c0) ∧ W.cell? ⟨w.heap.size, 3, none⟩ = some (.slice F0 m0 k0)) := fun W hW => ⟨(VA.out.box.on hW).c0, (VA.out.box.on hW).c1, (VA.out.box.on hW).c2, (VA.out.box.on hW).c3⟩
        have HD : Hid (Below u2.heap.size u2 u2.drew) := (Below.refl _ _).drew
        go_wp2_with fail
        go_region_held3 (fun W => W.cell? ⟨w.heap.size, 0, none⟩ = some (.int .i64 L0) ∧ W.cell? ⟨w.heap.size, 1, none⟩ = some (.int .i64 s0) ∧ W.cell? ⟨w.heap.size, 2, none⟩ = some (.slice A0 n0 c0) ∧ W.cell? ⟨w.heap.size, 3, none⟩ = some (.slice F0 m0 k0))
          (first | exact HK.out _ HBR.out | exact HK.out _ HBJ.out | exact HK.out _ (Below.refl _ _).drew)
          (first | (go_at_call 17; refine (HJ.out _ (Z.out.on HD.out) (Y.out.on HD.out)).mono ?_; rintro e u3 ⟨X, kx, rfl, hx, hb⟩; have HX := Lib.hid hx; have HBJ := Lib.hid (HD.out.trans (hb.mono HD.out.size)); clear hb hx) | (go_at_call 16; refine (HA.out _ _ X kx (VA.out.on HBJ.out).at_ HX.out).mono ?_; rintro e u4 ⟨rfl, hb⟩; have HBR := Lib.hid (HBJ.out.trans (hb.mono HBJ.out.size)); clear hb))
        all_goals
          have VA := Lib.hid (VA.out.on HBR.out)
          have Y := Lib.hid (Y.out.on HBR.out)
          have B := Lib.hid (B.out.trans (HBR.out.mono B.out.size))
          clear HBR HBJ HX HK HD Z HA HJ
          obtain ⟨p0, p1, p2, p3, p4⟩ := VA.out.box
          go_wp2_with fail
          refine (HT.out _ _ VA.out.at_ Y.out).mono ?_
          rintro e u5 ⟨rfl, hb⟩
          have VA := Lib.hid (VA.out.on hb)
          have B := Lib.hid (B.out.trans (hb.mono B.out.size))
          clear hb p0 p1 p2 p3 p4 HT
          go_wp2
          go_ret
          exact ⟨rfl, B.out⟩
    · have g2 : runErr d0 ((runA d0 p z2 : Nat) : Int) z3 ≠ 0 := fun h => f3 (runErr_iff.1 h).2.1
      obtain ⟨y, hy⟩ := errV_bad g2
      have ht := runOut_bad g2
      have HT := Lib.hid (fun W v (h : DfaAt W W.heap.size v d0) (hZ : IntsAt W W.heap.size A3 z3) => run_gives (cz := c3) h hq2 hZ hlw ht hy)
      have g3 : runErr d0 (p : Int) (z2 ++ z3) ≠ 0 := fun h => by
        obtain ⟨k1, k2, _, k4⟩ := fine_app.1 (runErr_iff.1 h).2.1
        exact f3 ⟨k1, by omega, k4⟩
      obtain ⟨x, hx⟩ := errV_bad g3
      have ha := runOut_bad g3
      have HA := Lib.hid (fun W v X k (h : DfaAt W W.heap.size v d0) (hZ : IntsAt W W.heap.size X (z2 ++ z3)) => run_gives (cz := k) h hq hZ hl2 ha hx)
      clear g1 Ga fv hst hpl hs hsl h40 hst2 hq2 f3 g2 ht hy g3 ha hx
      generalize z2 ++ z3 = zz at *
      generalize runA d0 p z2 = s at *
      go_enter Try.func3, Try.ntmps3
      go_wp2_with fail
      rw [← W0.out]
      refine (known_any _).mono ?_
      rintro e u1 ⟨rfl, hb⟩
      have VA := Lib.hid (VA.out.on hb)
      have Z := Lib.hid (Z.out.on hb)
      have Y := Lib.hid (Y.out.on hb)
      have B := Lib.hid (B.out.trans (hb.mono B.out.size))
      clear hb W0
      obtain ⟨p0, p1, p2, p3, p4⟩ := VA.out.box
      go_wp2_with fail
      refine (HV.out _ _ VA.out.at_ Z.out).mono ?_
      rintro e u2 ⟨rfl, hb⟩
      have VA := Lib.hid (VA.out.on hb)
      have Z := Lib.hid (Z.out.on hb)
      have Y := Lib.hid (Y.out.on hb)
      have B := Lib.hid (B.out.trans (hb.mono B.out.size))
      clear hb p0 p1 p2 p3 p4 HV
      have HK : Hid (∀ W, Below u2.heap.size u2 W → W.cell? ⟨w.heap.size, 0, none⟩ = some (.int .i64 L0) ∧ W.cell? ⟨w.heap.size, 1, none⟩ = some (.int .i64 s0) ∧ W.cell? ⟨w.heap.size, 2, none⟩ = some (.slice A0 n0 c0) ∧ W.cell? ⟨w.heap.size, 3, none⟩ = some (.slice F0 m0 k0)) := fun W hW => ⟨(VA.out.box.on hW).c0, (VA.out.box.on hW).c1, (VA.out.box.on hW).c2, (VA.out.box.on hW).c3⟩
      have HD : Hid (Below u2.heap.size u2 u2.drew) := (Below.refl _ _).drew
      go_wp2_with fail
      go_region_held3 (fun W => W.cell? ⟨w.heap.size, 0, none⟩ = some (.int .i64 L0) ∧ W.cell? ⟨w.heap.size, 1, none⟩ = some (.int .i64 s0) ∧ W.cell? ⟨w.heap.size, 2, none⟩ = some (.slice A0 n0 c0) ∧ W.cell? ⟨w.heap.size, 3, none⟩ = some (.slice F0 m0 k0))
        (first | exact HK.out _ HBR.out | exact HK.out _ HBJ.out | exact HK.out _ (Below.refl _ _).drew)
        (first | (go_at_call 17; refine (HJ.out _ (Z.out.on HD.out) (Y.out.on HD.out)).mono ?_; rintro e u3 ⟨X, kx, rfl, hx, hb⟩; have HX := Lib.hid hx; have HBJ := Lib.hid (HD.out.trans (hb.mono HD.out.size)); clear hb hx) | (go_at_call 16; refine (HA.out _ _ X kx (VA.out.on HBJ.out).at_ HX.out).mono ?_; rintro e u4 ⟨rfl, hb⟩; have HBR := Lib.hid (HBJ.out.trans (hb.mono HBJ.out.size)); clear hb))
      all_goals
        have VA := Lib.hid (VA.out.on HBR.out)
        have Y := Lib.hid (Y.out.on HBR.out)
        have B := Lib.hid (B.out.trans (HBR.out.mono B.out.size))
        clear HBR HBJ HX HK HD Z HA HJ
        obtain ⟨p0, p1, p2, p3, p4⟩ := VA.out.box
        go_wp2_with fail
        refine (HT.out _ _ VA.out.at_ Y.out).mono ?_
        rintro e u5 ⟨rfl, hb⟩
        have VA := Lib.hid (VA.out.on hb)
        have B := Lib.hid (B.out.trans (hb.mono B.out.size))
        clear hb p0 p1 p2 p3 p4 HT
        go_wp2
        go_ret
        exact ⟨rfl, B.out⟩
  · obtain ⟨y, hy⟩ := errV_bad g1
    have hs := runOut_bad g1
    have HV := Lib.hid (fun W v (h : DfaAt W W.heap.size v d0) (hZ : IntsAt W W.heap.size A2 z2) => run_gives (cz := c2) h hq hZ hlv hs hy)
    have g3 : runErr d0 a1 (z2 ++ z3) ≠ 0 := fun h => by
      obtain ⟨k0, k, k5⟩ := runErr_iff.1 h
      obtain ⟨k1, k2, k3, _⟩ := fine_app.1 k
      exact g1 (runErr_ok k0 ⟨k1, by omega, k3⟩ k5)
    obtain ⟨x, hx⟩ := errV_bad g3
    have ha := runOut_bad g3
    have HA := Lib.hid (fun W v X k (h : DfaAt W W.heap.size v d0) (hZ : IntsAt W W.heap.size X (z2 ++ z3)) => run_gives (cz := k) h hq hZ hl2 ha hx)
    clear g1 hy hs g3 hx ha
    generalize z2 ++ z3 = zz at *
    go_enter Try.func3, Try.ntmps3
    go_wp2_with fail
    rw [← W0.out]
    refine (known_any _).mono ?_
    rintro e u1 ⟨rfl, hb⟩
    have VA := Lib.hid (VA.out.on hb)
    have Z := Lib.hid (Z.out.on hb)
    have Y := Lib.hid (Y.out.on hb)
    have B := Lib.hid (B.out.trans (hb.mono B.out.size))
    clear hb W0
    obtain ⟨p0, p1, p2, p3, p4⟩ := VA.out.box
    go_wp2_with fail
    refine (HV.out _ _ VA.out.at_ Z.out).mono ?_
    rintro e u2 ⟨rfl, hb⟩
    have VA := Lib.hid (VA.out.on hb)
    have Z := Lib.hid (Z.out.on hb)
    have Y := Lib.hid (Y.out.on hb)
    have B := Lib.hid (B.out.trans (hb.mono B.out.size))
    clear hb p0 p1 p2 p3 p4 HV
    have HK : Hid (∀ W, Below u2.heap.size u2 W → W.cell? ⟨w.heap.size, 0, none⟩ = some (.int .i64 L0) ∧ W.cell? ⟨w.heap.size, 1, none⟩ = some (.int .i64 s0) ∧ W.cell? ⟨w.heap.size, 2, none⟩ = some (.slice A0 n0 c0) ∧ W.cell? ⟨w.heap.size, 3, none⟩ = some (.slice F0 m0 k0)) := fun W hW => ⟨(VA.out.box.on hW).c0, (VA.out.box.on hW).c1, (VA.out.box.on hW).c2, (VA.out.box.on hW).c3⟩
    have HD : Hid (Below u2.heap.size u2 u2.drew) := (Below.refl _ _).drew
    go_wp2_with fail
    go_region_held3 (fun W => W.cell? ⟨w.heap.size, 0, none⟩ = some (.int .i64 L0) ∧ W.cell? ⟨w.heap.size, 1, none⟩ = some (.int .i64 s0) ∧ W.cell? ⟨w.heap.size, 2, none⟩ = some (.slice A0 n0 c0) ∧ W.cell? ⟨w.heap.size, 3, none⟩ = some (.slice F0 m0 k0))
      (first | exact HK.out _ HBR.out | exact HK.out _ HBJ.out | exact HK.out _ (Below.refl _ _).drew)
      (first | (go_at_call 17; refine (HJ.out _ (Z.out.on HD.out) (Y.out.on HD.out)).mono ?_; rintro e u3 ⟨X, kx, rfl, hx, hb⟩; have HX := Lib.hid hx; have HBJ := Lib.hid (HD.out.trans (hb.mono HD.out.size)); clear hb hx) | (go_at_call 16; refine (HA.out _ _ X kx (VA.out.on HBJ.out).at_ HX.out).mono ?_; rintro e u4 ⟨rfl, hb⟩; have HBR := Lib.hid (HBJ.out.trans (hb.mono HBJ.out.size)); clear hb))
    all_goals
      have VA := Lib.hid (VA.out.on HBR.out)
      have Y := Lib.hid (Y.out.on HBR.out)
      have B := Lib.hid (B.out.trans (HBR.out.mono B.out.size))
      clear HBR HBJ HX HK HD Z HA HJ
      go_wp2
      go_ret
      exact ⟨rfl, B.out⟩


set_option maxRecDepth 100000 in
theorem lifted (os : Os) (started : os.Started) (H : Type) (enc : TypeId × Value → H) (FF : Stop.Interp) :
    ReturnsInHanded {} Try.checked os 3 .any ((Rows.OpenSpec.upto Rows.dfaRunsSpec).pre6 enc Try.prog Try.f3 Rows.dfaRunsUptoRow.domain false) (((Rows.OpenSpec.upto Rows.dfaRunsSpec).at FF).post enc Try.prog Try.f3 false true false false) := by
  refine returnsInHanded_of_cond_sized (C := Try.checked) (s := Rows.OpenSpec.upto Rows.dfaRunsSpec) (k := Rows.uptoSmall) rfl own started (by kernel_rfl) Try.func3
    (OpenSpec.witness (enc := enc) (C := Try.checked) (s := Rows.OpenSpec.upto Rows.dfaRunsSpec) (k := Rows.uptoSmall) rfl false ⟨#[], #[.agg #[.int .i64 0, .int .i64 0, .slice none 0 0, .slice none 0 0], .int .i64 0, .slice none 0 0, .slice none 0 0], []⟩ 8 (by kernel_rfl) (by kernel_rfl) (by kernel_rfl) (x := ([.agg [.lit (.int .i64 0), .lit (.int .i64 0), .nil, .nil], .lit (.int .i64 0), .nil, .nil], [], [])) (by kernel_rfl) rfl (by kernel_rfl)) ?_
  intro W base args ds gs before hval0 hW hcnd hk0 hsz0 _
  have hval : ∀ (j : Nat) t v, Try.f3.params[j]? = some t → args[j]? = some v → Value.okWide Try.prog W .any base t v := hval0
  have hsz : (DataW.weightsEach Try.prog (Try.f3.params.toList ++ Rows.dfaRunsSpec.plain.varTypes Try.prog) (ds ++ gs)).all (· ≤ reachBytes) = true := hsz0
  have hW' := hW
  obtain ⟨p, q, hA0, hV0, rfl, hfz, hnd⟩ := hW
  have hV : DataW.TrodVars enc Try.prog W (fun _ => true) [] gs q := hV0
  have hA : DataW.TrodAll enc Try.prog W 0 (fun _ => true) true Try.f3.params.toList args.toList ds p := hA0
  rw [Try.params3] at hA hval hsz
  obtain ⟨v0, vs0, d0, ds0, p0, q0, hargs, rfl, rfl, h0, rr0⟩ := trodAll_cons hA
  obtain ⟨v1, vs1, d1, ds1, p1, q1, rfl, rfl, rfl, h1, rr1⟩ := trodAll_cons rr0
  obtain ⟨v2, vs2, d2, ds2, p2, q2, rfl, rfl, rfl, h2, rr2⟩ := trodAll_cons rr1
  obtain ⟨v3, vs3, d3, ds3, p3, q3, rfl, rfl, rfl, h3, rr3⟩ := trodAll_cons rr2
  obtain ⟨rfl, rfl, rfl⟩ := trodAll_nil rr3
  obtain rfl : args = #[v0, v1, v2, v3] := by cases args; simp_all
  obtain ⟨rfl, rfl⟩ := trodVars_none hV
  have k0 := h0
  have lt0 : ∀ x ∈ p0, x.block < W.heap.size := by obtain ⟨m, hm⟩ := k0; exact DataW.trod_lt m _ _ _ hm
  have k1 := h1
  have lt1 : ∀ x ∈ p1, x.block < W.heap.size := by obtain ⟨m, hm⟩ := k1; exact DataW.trod_lt m _ _ _ hm
  have k2 := h2
  have lt2 : ∀ x ∈ p2, x.block < W.heap.size := by obtain ⟨m, hm⟩ := k2; exact DataW.trod_lt m _ _ _ hm
  have k3 := h3
  have lt3 : ∀ x ∈ p3, x.block < W.heap.size := by obtain ⟨m, hm⟩ := k3; exact DataW.trod_lt m _ _ _ hm
  have hu : Rows.uptoBulkAll _ ≤ 1048576 := of_decide_eq_true hk0
  obtain ⟨D0, x0⟩ : ∃ d : Df.Aut, Df.DfaAt W W.heap.size v0 d := Df.dfa_open (hval 0 25 v0 rfl rfl) h0
  obtain ⟨a1, rfl, rfl, rfl, w1⟩ := open_int Try.underlying3 (hval 1 3 v1 rfl rfl) h1
  obtain ⟨l1, hh1⟩ := bounds_i64 w1
  obtain ⟨A2, len2, c2, rfl⟩ := okWide_slice Try.underlying26 (hval 2 26 v2 rfl rfl)
  obtain ⟨z2, rfl, x2, r2, m2, q2⟩ : ∃ zs : List Int, len2 = zs.length ∧ IntsAt W W.heap.size A2 zs ∧ zs.length ≤ 17592186043904 ∧ zs.length ≤ c2 ∧ zs.length ≤ 1048576 := by
    obtain ⟨fuel, hf⟩ := h2
    rcases open_ints Try.underlying26 Try.underlying3 (by kernel_rfl) hf with ⟨hcs, _⟩ | ⟨x, l, c, zs, hcs, _, hl, hm, hz, hx, hcell, hwz⟩
    · simp [Value.cells] at hcs
      obtain ⟨rfl, rfl, rfl⟩ := hcs
      exact ⟨[], rfl, IntsAt.nil _ _ _, by simp, by simp, by simp⟩
    · simp [Value.cells] at hcs
      obtain ⟨rfl, rfl, rfl⟩ := hcs
      have hd := congrArg Prod.fst hx
      simp only at hd
      have := sized_slice hsz (j := 2) (t := 26) (e := 3) rfl (by rw [hd]; rfl) Try.underlying26
      rw [(show Try.prog.bytesOf 3 = 8 by kernel_rfl)] at this
      simp only [reachBytes, lits, List.length_map, List.length_take, List.length_drop] at this
      have hz' : zs.length = c2 := by simpa using hz
      have hq : (zs.take len2).length ≤ 1048576 := by
        have h9 := le_of_slice hu 2 (es := lits .i64 (zs.take len2)) (sp := lits .i64 (zs.drop len2)) (by rw [← hd]; rfl)
        simpa [lits] using h9
      exact ⟨zs.take len2, by rw [List.length_take]; omega, intsAt_of_open hcell hwz len2, by rw [List.length_take]; omega, by rw [List.length_take]; omega, hq⟩
  obtain ⟨A3, len3, c3, rfl⟩ := okWide_slice Try.underlying26 (hval 3 26 v3 rfl rfl)
  obtain ⟨z3, rfl, x3, r3, m3, q3⟩ : ∃ zs : List Int, len3 = zs.length ∧ IntsAt W W.heap.size A3 zs ∧ zs.length ≤ 17592186043904 ∧ zs.length ≤ c3 ∧ zs.length ≤ 1048576 := by
    obtain ⟨fuel, hf⟩ := h3
    rcases open_ints Try.underlying26 Try.underlying3 (by kernel_rfl) hf with ⟨hcs, _⟩ | ⟨x, l, c, zs, hcs, _, hl, hm, hz, hx, hcell, hwz⟩
    · simp [Value.cells] at hcs
      obtain ⟨rfl, rfl, rfl⟩ := hcs
      exact ⟨[], rfl, IntsAt.nil _ _ _, by simp, by simp, by simp⟩
    · simp [Value.cells] at hcs
      obtain ⟨rfl, rfl, rfl⟩ := hcs
      have hd := congrArg Prod.fst hx
      simp only at hd
      have := sized_slice hsz (j := 3) (t := 26) (e := 3) rfl (by rw [hd]; rfl) Try.underlying26
      rw [(show Try.prog.bytesOf 3 = 8 by kernel_rfl)] at this
      simp only [reachBytes, lits, List.length_map, List.length_take, List.length_drop] at this
      have hz' : zs.length = c3 := by simpa using hz
      have hq : (zs.take len3).length ≤ 1048576 := by
        have h9 := le_of_slice hu 3 (es := lits .i64 (zs.take len3)) (sp := lits .i64 (zs.drop len3)) (by rw [← hd]; rfl)
        simpa [lits] using h9
      exact ⟨zs.take len3, by rw [List.length_take]; omega, intsAt_of_open hcell hwz len3, by rw [List.length_take]; omega, by rw [List.length_take]; omega, hq⟩
  clear hA0 hval0
  refine (walk v0 D0 a1 A2 c2 z2 A3 c3 z3 W x0 l1 hh1 x2 r2 m2 q2 x3 r3 m3 q3).mono fun e W' ⟨he, bel⟩ => ?_
  subst he
  exact ⟨_, rfl, _, _, _, [], _, [], hW', trodAll_mk1 (shut_bool Try.underlying4 _), (trodAll_cons_mk (Below.trod laidOut (by kernel_rfl) (of_decide_eq_true (by kernel_rfl)) k0 bel lt0) (trodAll_cons_mk (Below.trod laidOut (by kernel_rfl) (of_decide_eq_true (by kernel_rfl)) k1 bel lt1) (trodAll_cons_mk (Below.trod laidOut (by kernel_rfl) (of_decide_eq_true (by kernel_rfl)) k2 bel lt2) (trodAll_cons_mk (Below.trod laidOut (by kernel_rfl) (of_decide_eq_true (by kernel_rfl)) k3 bel lt3) trodAll_mk0)))), rfl, bel.frame _, fun h => by cases h⟩

theorem over : Rows.dfaRunsUptoRow.holds Try.pinned (Rows.OpenSpec.upto Rows.dfaRunsSpec) :=
  OpenClaim.holds_of_cond 3 Try.f3 rfl rfl rfl rfl rfl rfl rfl ⟨rfl, rfl, rfl, rfl, rfl⟩ rfl rfl rfl rfl rfl (by kernel_rfl) Try.func3 (by kernel_rfl)
    (of_decide_eq_true (by kernel_rfl)) (by unfold Func.isWrapper; rw [if_neg (of_decide_eq_false (by kernel_rfl))]; exact ⟨rfl, rfl⟩)
    (fun os started H enc _ FF => lifted os started H enc FF)
theorem proved : Rows.DfaRunsUptoSaid := over
#print axioms proved
end Go.Proofs.Ytinehjfanabegaa.dfaRuns
