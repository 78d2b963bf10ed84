/-
  The statement VerdictStaysUptoSaid of this seat, proved: for every input the law returns true and its arguments read behind the call as before. Conditions: none but the row's own (each argument within the reach).
-/
import Derived.Test.YtblkaegnnokedaaRows
import Derived.JoinedCond
import Derived.Deep.CondSized
import Derived.Deep.DeepHandedRow
import Derived.Test.YtblkaegnnokedaaWords
import Derived.WalkKit
import Derived.ProofKit
import Derived.OpenShut
import Derived.ShutString
import Derived.ChangeOld
import Derived.Below
import Derived.SizedLaws
import Derived.Lib.Hide
import Derived.Test.YtblkaegnnokedaaVerW
import Derived.Test.YtblkaegnnokedaaFew
import Derived.Test.YtblkaegnnokedaaDfaV
import Derived.Test.YtblkaegnnokedaaDfaK
import Derived.Test.YtblkaegnnokedaaWordL
import Derived.Deep.QuietTactic
import Derived.BigQuiet
import Derived.Deep.RegionHeld3
namespace Go.Proofs.Ytblkaegnnokedaa.verdictStays
open Go.ChangeShapes Go.WideShapes Go.ChangeAt Go.RowKit Go.IntWalk Go.Proofs.Ytblkaegnnokedaa.Wd
open Go.ChangeMaps (open_string shut_string)
set_option linter.unusedVariables false

/-- What the bound gives: a text's length. -/
theorem le_of_bulk {H : Type} {l : List (DataW H)} (h : Rows.uptoBulkAll l ≤ 1048576) : ∀ (i : Nat) {bs : List UInt8}, l[i]? = some (.lit (.string bs)) → bs.length ≤ 1048576 := by
  have hp : ∀ (l : List (DataW H)) (i : Nat) (bs : List UInt8), l[i]? = some (.lit (.string bs)) → bs.length ≤ Rows.uptoBulkAll l := by
    intro l
    induction l with
    | nil => intro i bs h; simp at h
    | cons x r ih =>
      intro i bs hx
      simp only [Rows.uptoBulkAll]
      rcases i with _ | i
      · simp only [List.getElem?_cons_zero, Option.some.injEq] at hx
        subst hx
        simp only [Rows.uptoBulk]
        omega
      · have := ih i bs (by simpa using hx)
        omega
  exact fun i bs hx => Nat.le_trans (hp l i bs hx) h
/-- What the bound gives: a slice's length. -/
theorem one_le_bulk {H : Type} (d : DataW H) : 1 ≤ Rows.uptoBulk d := by
  rcases d with l | _ | _ | _ | _ | _ | _ | _
  · cases l <;> simp [Rows.uptoBulk]
  all_goals simp [Rows.uptoBulk]
theorem len_le_bulk {H : Type} : ∀ l : List (DataW H), l.length ≤ Rows.uptoBulkAll l
  | [] => Nat.le_refl _
  | d :: l => by
    have h1 := one_le_bulk d
    have h2 := len_le_bulk l
    simp only [Rows.uptoBulkAll, List.length_cons]
    omega
theorem le_of_slice {H : Type} {l : List (DataW H)} (h : Rows.uptoBulkAll l ≤ 1048576) : ∀ (i : Nat) {es sp : List (DataW H)}, l[i]? = some (.slice es sp) → es.length ≤ 1048576 := by
  have hp : ∀ (l : List (DataW H)) (i : Nat) (es sp : List (DataW H)), l[i]? = some (.slice es sp) → es.length ≤ Rows.uptoBulkAll l := by
    intro l
    induction l with
    | nil => intro i es sp h; simp at h
    | cons x r ih =>
      intro i es sp hx
      simp only [Rows.uptoBulkAll]
      rcases i with _ | i
      · simp only [List.getElem?_cons_zero, Option.some.injEq] at hx
        subst hx
        have := len_le_bulk es
        simp only [Rows.uptoBulk]
        omega
      · have := ih i es sp (by simpa using hx)
        omega
  exact fun i es sp hx => Nat.le_trans (hp l i es sp hx) h
theorem own : ownKnob Try.prog.godebug = none := by kernel_rfl
theorem laidOut : laidOutB Try.prog = true := by kernel_rfl
open Go.Proofs.Ytblkaegnnokedaa.Wo Go.Proofs.Ytblkaegnnokedaa.Df Go.Proofs.Ytblkaegnnokedaa.Rc Go.Proofs.Ytblkaegnnokedaa.Sm Go.Proofs.Ytblkaegnnokedaa.Mp Go.Proofs.Ytblkaegnnokedaa.Sa Go.Proofs.Ytblkaegnnokedaa.Ve
set_option maxRecDepth 100000 in
theorem few_of : ofOut fewA [1] = (2, 0) := by decide +kernel
theorem fact_gives (W : World) (v : Value) (h : DfaAt W W.heap.size v fewA) : Calls Try.prog 5 #[v, .slice (some ⟨W.heap.size, 0, none⟩) 1 1] (W.alloc (.cells #[.int .i64 1] 3)) fun e w' => e = .returned (.tuple #[.int .i64 2, .nilIface]) ∧ Below W.heap.size W w' :=
  (of_gives (cz := 1) (h.on (below_alloc _ _)) (lit_one W 1 ⟨by decide, by decide⟩) (by simp) few_of rfl).mono fun e w' ⟨h1, h2⟩ => ⟨h1, (below_alloc _ _).trans (h2.mono (below_alloc W (.cells #[.int .i64 1] 3)).size)⟩

set_option maxRecDepth 100000 in
set_option maxHeartbeats 4000000 in
theorem walk (v0 : Value) (d0 : Df.Aut) (A1 : Option Addr) (c1 : Nat) (z1 : List Int) (A2 : Option Addr) (c2 : Nat) (z2 : List Int) (w : World) (h0 : Df.DfaAt w w.heap.size v0 d0) (v1 : IntsAt w w.heap.size A1 z1) (r1 : z1.length ≤ 17592186043904) (m1 : z1.length ≤ c1) (q1 : z1.length ≤ 1048576) (v2 : IntsAt w w.heap.size A2 z2) (r2 : z2.length ≤ 17592186043904) (m2 : z2.length ≤ c2) (q2 : z2.length ≤ 1048576) :
    Calls Try.prog 3 #[v0, .slice A1 z1.length c1, .slice A2 z2.length c2] w fun e w' => e = .returned (.bool true) ∧ Below w.heap.size w w' := by
  have hr : z1.length ≤ 17592186044416 := by omega
  have hl : z1.length + z2.length ≤ 17592186044416 := by omega
  have hlj : (z1 ++ z2).length ≤ 17592186044416 := by rw [List.length_append]; exact hl
  obtain ⟨L0, s0, A0, n0, c0, F0, m0, k0, rfl⟩ := h0.form
  have hN0 := h0.eqs.2.2.1
  obtain ⟨u0, hu0, hb0, VA0⟩ := var_new w h0
  have VA := Lib.hid VA0
  have B := Lib.hid hb0
  have W0 := Lib.hid hu0
  have HN0 := Lib.hid hN0
  have Z := Lib.hid (v1.on hb0)
  have Y := Lib.hid (v2.on hb0)
  clear VA0 hb0 hu0 h0 hN0 v1 v2
  have HJ := Lib.hid (fun W (h : IntsAt W W.heap.size A1 z1) (k : IntsAt W W.heap.size A2 z2) => joined_ok (c := c1) (d := c2) h k hl)
  clear m1 r1 m2 r2 q1 q2 HN0 hl
  have HFew := Lib.hid few_any
  have HFact := Lib.hid fact_gives
  by_cases ga : accErr d0 z1 = 0
  · obtain ⟨Ga, fa⟩ := accErr_good ga
    have fw := fine_word fa
    have hlt := Ga.run_lt fw Ga.s_lt
    have HX := Lib.hid (fun W v (h : DfaAt W W.heap.size v d0) (hZ : IntsAt W W.heap.size A1 z1) => of_gives (cz := c1) (E := .nilIface) h hZ hr (ofOut_ok ga) rfl)
    have h2 := two_word Ga fw
    have h3 := verd_le d0 (runA d0 d0.s.toNat z1)
    obtain ⟨b, hb⟩ : ∃ b, accA d0 z1 = b := ⟨_, rfl⟩
    have HA := Lib.hid (fun W v (h : DfaAt W W.heap.size v d0) (hZ : IntsAt W W.heap.size A1 z1) => acc_gives (cz := c1) (E := .nilIface) h hZ hr ((accOut_ok Ga fa).trans hb) (congrArg errV ga))
    rw [hb] at h2
    by_cases gj : accErr d0 (z1 ++ z2) = 0
    · obtain ⟨_, fj⟩ := accErr_good gj
      have fz : Word d0.L z2 := fun a ha => fine_word fj a (List.mem_append_right _ ha)
      have hy := fun h => verd_stays Ga hlt (u := z2) fz h
      rw [← runA_append] at hy
      have HY := Lib.hid (fun W v X k (h : DfaAt W W.heap.size v d0) (hZ : IntsAt W W.heap.size X (z1 ++ z2)) => of_gives (cz := k) (E := .nilIface) h hZ hlj (ofOut_ok gj) rfl)
      obtain ⟨x, hx⟩ : ∃ x : Int, ((verd d0 (runA d0 d0.s.toNat z1) : Nat) : Int) = x := ⟨_, rfl⟩
      obtain ⟨y, hyy⟩ : ∃ y : Int, ((verd d0 (runA d0 d0.s.toNat (z1 ++ z2)) : Nat) : Int) = y := ⟨_, rfl⟩
      rw [hx] at HX
      rw [hyy] at HY
      have hc : (x = 0 ∧ b = false ∧ y = 0) ∨ (x = 1 ∧ b = false) ∨ (x = 2 ∧ b = true) ∨ (x = 3 ∧ b = true ∧ y = 3) := by
        clear HX HY HA
        rcases b with _ | _
        · have : ¬ 2 ≤ verd d0 (runA d0 d0.s.toNat z1) := fun h => by simpa using h2.1 h
          by_cases e : verd d0 (runA d0 d0.s.toNat z1) = 0
          · have := hy (.inl e)
            exact .inl ⟨by omega, rfl, by omega⟩
          · exact .inr (.inl ⟨by omega, rfl⟩)
        · have := h2.2 rfl
          by_cases e : verd d0 (runA d0 d0.s.toNat z1) = 3
          · have := hy (.inr e)
            exact .inr (.inr (.inr ⟨by omega, rfl, by omega⟩))
          · exact .inr (.inr (.inl ⟨by omega, rfl⟩))
      clear ga gj Ga fa fw hlt h2 h3 hb fj fz hy hx hyy hr hlj
      generalize z1 ++ z2 = zz at *
      rcases hc with ⟨rfl, rfl, rfl⟩ | ⟨rfl, rfl⟩ | ⟨rfl, rfl⟩ | ⟨rfl, rfl, rfl⟩
      all_goals as_aux_lemma =>
        go_enter Try.func3, Try.ntmps3
        go_wp2_with fail
        rw [← W0.out]
        clear W0
        refine (HFew.out _).mono ?_
        rintro e u1 he
        obtain ⟨xf, rfl, hof⟩ := he.out
        have hb := hof.below
        have hat := hof.at_
        obtain ⟨Lf, sf, Af, nf, cf, Ff, mf, kf, rfl⟩ := hat.form
        have Z := Lib.hid (Z.out.on hb)
        have Y := Lib.hid (Y.out.on hb)
        have VA := Lib.hid (VA.out.on hb)
        have B := Lib.hid (B.out.trans (hb.mono B.out.size))
        have HAt := Lib.hid hat
        clear he hof hb hat HFew
        go_wp2_with fail
        refine (HFact.out _ _ HAt.out).mono ?_
        rintro e u2 ⟨rfl, hb⟩
        have Z := Lib.hid (Z.out.on hb)
        have Y := Lib.hid (Y.out.on hb)
        have VA := Lib.hid (VA.out.on hb)
        have B := Lib.hid (B.out.trans (hb.mono B.out.size))
        clear hb  HFact HAt
        obtain ⟨p0, p1, p2, p3, p4⟩ := VA.out.box
        go_wp2_with fail
        refine (HX.out _ _ VA.out.at_ Z.out).mono ?_
        rintro e u3 ⟨rfl, hb⟩
        have Z := Lib.hid (Z.out.on hb)
        have Y := Lib.hid (Y.out.on hb)
        have VA := Lib.hid (VA.out.on hb)
        have B := Lib.hid (B.out.trans (hb.mono B.out.size))
        clear hb p0 p1 p2 p3 p4 HX
        have HK : Hid (∀ W, Below u3.heap.size u3 W → W.cell? ⟨w.heap.size, 0, none⟩ = some (.int .i64 L0) ∧ W.cell? ⟨w.heap.size, 1, none⟩ = some (.int .i64 s0) ∧ W.cell? ⟨w.heap.size, 2, none⟩ = some (.slice A0 n0 c0) ∧ W.cell? ⟨w.heap.size, 3, none⟩ = some (.slice F0 m0 k0)) := fun W hW => ⟨(VA.out.box.on hW).c0, (VA.out.box.on hW).c1, (VA.out.box.on hW).c2, (VA.out.box.on hW).c3⟩
        have HD : Hid (Below u3.heap.size u3 u3.drew) := (Below.refl _ _).drew
        go_wp2_with fail
        go_region_held3 (fun W => W.cell? ⟨w.heap.size, 0, none⟩ = some (.int .i64 L0) ∧ W.cell? ⟨w.heap.size, 1, none⟩ = some (.int .i64 s0) ∧ W.cell? ⟨w.heap.size, 2, none⟩ = some (.slice A0 n0 c0) ∧ W.cell? ⟨w.heap.size, 3, none⟩ = some (.slice F0 m0 k0))
          (first | exact HK.out _ HBR.out | exact HK.out _ HBJ.out | exact HK.out _ (Below.refl _ _).drew)
          (first | (go_at_call 7; refine (HJ.out _ (Z.out.on HD.out) (Y.out.on HD.out)).mono ?_; rintro e u33 ⟨X, kx, rfl, hx, hb⟩; have HX := Lib.hid hx; have HBJ := Lib.hid (HD.out.trans (hb.mono HD.out.size)); clear hb hx) | (go_at_call 5; refine (HY.out _ _ X kx (VA.out.on HBJ.out).at_ HX.out).mono ?_; rintro e u34 ⟨rfl, hb⟩; have HBR := Lib.hid (HBJ.out.trans (hb.mono HBJ.out.size)); clear hb))
        all_goals
          have VA := Lib.hid (VA.out.on HBR.out)
          have Z := Lib.hid (Z.out.on HBR.out)
          have B := Lib.hid (B.out.trans (HBR.out.mono B.out.size))
          clear HBR HBJ HX HK HD HJ HY Y
          obtain ⟨p0, p1, p2, p3, p4⟩ := VA.out.box
          go_wp2_with fail
          refine (HA.out _ _ VA.out.at_ Z.out).mono ?_
          rintro e u41 ⟨rfl, hb⟩
          have Z := Lib.hid (Z.out.on hb)
          have VA := Lib.hid (VA.out.on hb)
          have B := Lib.hid (B.out.trans (hb.mono B.out.size))
          clear hb p0 p1 p2 p3 p4 HA
          go_wp2
          go_ret
          exact ⟨rfl, B.out⟩
    · obtain ⟨E, hE⟩ := errV_bad gj
      have HY := Lib.hid (fun W v X k (h : DfaAt W W.heap.size v d0) (hZ : IntsAt W W.heap.size X (z1 ++ z2)) => of_gives (cz := k) h hZ hlj (ofOut_bad gj) hE)
      obtain ⟨x, hx⟩ : ∃ x : Int, ((verd d0 (runA d0 d0.s.toNat z1) : Nat) : Int) = x := ⟨_, rfl⟩
      rw [hx] at HX
      have hc : (x = 0 ∧ b = false) ∨ (x = 1 ∧ b = false) ∨ (x = 2 ∧ b = true) ∨ (x = 3 ∧ b = true) := by
        clear HX HY HA
        rcases b with _ | _
        · have : ¬ 2 ≤ verd d0 (runA d0 d0.s.toNat z1) := fun h => by simpa using h2.1 h
          by_cases e : verd d0 (runA d0 d0.s.toNat z1) = 0
          · exact .inl ⟨by omega, rfl⟩
          · exact .inr (.inl ⟨by omega, rfl⟩)
        · have := h2.2 rfl
          by_cases e : verd d0 (runA d0 d0.s.toNat z1) = 3
          · exact .inr (.inr (.inr ⟨by omega, rfl⟩))
          · exact .inr (.inr (.inl ⟨by omega, rfl⟩))
      clear ga gj Ga fa fw hlt h2 h3 hb hx hr hlj hE
      generalize z1 ++ z2 = zz at *
      rcases hc with ⟨rfl, rfl⟩ | ⟨rfl, rfl⟩ | ⟨rfl, rfl⟩ | ⟨rfl, rfl⟩
      all_goals as_aux_lemma =>
        go_enter Try.func3, Try.ntmps3
        go_wp2_with fail
        rw [← W0.out]
        clear W0
        refine (HFew.out _).mono ?_
        rintro e u1 he
        obtain ⟨xf, rfl, hof⟩ := he.out
        have hb := hof.below
        have hat := hof.at_
        obtain ⟨Lf, sf, Af, nf, cf, Ff, mf, kf, rfl⟩ := hat.form
        have Z := Lib.hid (Z.out.on hb)
        have Y := Lib.hid (Y.out.on hb)
        have VA := Lib.hid (VA.out.on hb)
        have B := Lib.hid (B.out.trans (hb.mono B.out.size))
        have HAt := Lib.hid hat
        clear he hof hb hat HFew
        go_wp2_with fail
        refine (HFact.out _ _ HAt.out).mono ?_
        rintro e u2 ⟨rfl, hb⟩
        have Z := Lib.hid (Z.out.on hb)
        have Y := Lib.hid (Y.out.on hb)
        have VA := Lib.hid (VA.out.on hb)
        have B := Lib.hid (B.out.trans (hb.mono B.out.size))
        clear hb  HFact HAt
        obtain ⟨p0, p1, p2, p3, p4⟩ := VA.out.box
        go_wp2_with fail
        refine (HX.out _ _ VA.out.at_ Z.out).mono ?_
        rintro e u3 ⟨rfl, hb⟩
        have Z := Lib.hid (Z.out.on hb)
        have Y := Lib.hid (Y.out.on hb)
        have VA := Lib.hid (VA.out.on hb)
        have B := Lib.hid (B.out.trans (hb.mono B.out.size))
        clear hb p0 p1 p2 p3 p4 HX
        have HK : Hid (∀ W, Below u3.heap.size u3 W → W.cell? ⟨w.heap.size, 0, none⟩ = some (.int .i64 L0) ∧ W.cell? ⟨w.heap.size, 1, none⟩ = some (.int .i64 s0) ∧ W.cell? ⟨w.heap.size, 2, none⟩ = some (.slice A0 n0 c0) ∧ W.cell? ⟨w.heap.size, 3, none⟩ = some (.slice F0 m0 k0)) := fun W hW => ⟨(VA.out.box.on hW).c0, (VA.out.box.on hW).c1, (VA.out.box.on hW).c2, (VA.out.box.on hW).c3⟩
        have HD : Hid (Below u3.heap.size u3 u3.drew) := (Below.refl _ _).drew
        go_wp2_with fail
        go_region_held3 (fun W => W.cell? ⟨w.heap.size, 0, none⟩ = some (.int .i64 L0) ∧ W.cell? ⟨w.heap.size, 1, none⟩ = some (.int .i64 s0) ∧ W.cell? ⟨w.heap.size, 2, none⟩ = some (.slice A0 n0 c0) ∧ W.cell? ⟨w.heap.size, 3, none⟩ = some (.slice F0 m0 k0))
          (first | exact HK.out _ HBR.out | exact HK.out _ HBJ.out | exact HK.out _ (Below.refl _ _).drew)
          (first | (go_at_call 7; refine (HJ.out _ (Z.out.on HD.out) (Y.out.on HD.out)).mono ?_; rintro e u33 ⟨X, kx, rfl, hx, hb⟩; have HX := Lib.hid hx; have HBJ := Lib.hid (HD.out.trans (hb.mono HD.out.size)); clear hb hx) | (go_at_call 5; refine (HY.out _ _ X kx (VA.out.on HBJ.out).at_ HX.out).mono ?_; rintro e u34 ⟨rfl, hb⟩; have HBR := Lib.hid (HBJ.out.trans (hb.mono HBJ.out.size)); clear hb))
        all_goals
          have VA := Lib.hid (VA.out.on HBR.out)
          have Z := Lib.hid (Z.out.on HBR.out)
          have B := Lib.hid (B.out.trans (HBR.out.mono B.out.size))
          clear HBR HBJ HX HK HD HJ HY Y
          obtain ⟨p0, p1, p2, p3, p4⟩ := VA.out.box
          go_wp2_with fail
          refine (HA.out _ _ VA.out.at_ Z.out).mono ?_
          rintro e u41 ⟨rfl, hb⟩
          have Z := Lib.hid (Z.out.on hb)
          have VA := Lib.hid (VA.out.on hb)
          have B := Lib.hid (B.out.trans (hb.mono B.out.size))
          clear hb p0 p1 p2 p3 p4 HA
          go_wp2
          go_ret
          exact ⟨rfl, B.out⟩
  · obtain ⟨E, hE⟩ := errV_bad ga
    have HX := Lib.hid (fun W v (h : DfaAt W W.heap.size v d0) (hZ : IntsAt W W.heap.size A1 z1) => of_gives (cz := c1) h hZ hr (ofOut_bad ga) hE)
    obtain ⟨⟨y, k⟩, hy⟩ : ∃ p, p = ofOut d0 (z1 ++ z2) := ⟨_, rfl⟩
    have HY := Lib.hid (fun W v X k (h : DfaAt W W.heap.size v d0) (hZ : IntsAt W W.heap.size X (z1 ++ z2)) => of_gives (cz := k) h hZ hlj hy.symm rfl)
    clear ga hE hy hr hlj
    generalize errV k = E5 at *
    generalize z1 ++ z2 = zz at *
    go_enter Try.func3, Try.ntmps3
    go_wp2_with fail
    rw [← W0.out]
    clear W0
    refine (HFew.out _).mono ?_
    rintro e u1 he
    obtain ⟨xf, rfl, hof⟩ := he.out
    have hb := hof.below
    have hat := hof.at_
    obtain ⟨Lf, sf, Af, nf, cf, Ff, mf, kf, rfl⟩ := hat.form
    have Z := Lib.hid (Z.out.on hb)
    have Y := Lib.hid (Y.out.on hb)
    have VA := Lib.hid (VA.out.on hb)
    have B := Lib.hid (B.out.trans (hb.mono B.out.size))
    have HAt := Lib.hid hat
    clear he hof hb hat HFew
    go_wp2_with fail
    refine (HFact.out _ _ HAt.out).mono ?_
    rintro e u2 ⟨rfl, hb⟩
    have Z := Lib.hid (Z.out.on hb)
    have Y := Lib.hid (Y.out.on hb)
    have VA := Lib.hid (VA.out.on hb)
    have B := Lib.hid (B.out.trans (hb.mono B.out.size))
    clear hb  HFact HAt
    obtain ⟨p0, p1, p2, p3, p4⟩ := VA.out.box
    go_wp2_with fail
    refine (HX.out _ _ VA.out.at_ Z.out).mono ?_
    rintro e u3 ⟨rfl, hb⟩
    have Z := Lib.hid (Z.out.on hb)
    have Y := Lib.hid (Y.out.on hb)
    have VA := Lib.hid (VA.out.on hb)
    have B := Lib.hid (B.out.trans (hb.mono B.out.size))
    clear hb p0 p1 p2 p3 p4 HX
    have HK : Hid (∀ W, Below u3.heap.size u3 W → W.cell? ⟨w.heap.size, 0, none⟩ = some (.int .i64 L0) ∧ W.cell? ⟨w.heap.size, 1, none⟩ = some (.int .i64 s0) ∧ W.cell? ⟨w.heap.size, 2, none⟩ = some (.slice A0 n0 c0) ∧ W.cell? ⟨w.heap.size, 3, none⟩ = some (.slice F0 m0 k0)) := fun W hW => ⟨(VA.out.box.on hW).c0, (VA.out.box.on hW).c1, (VA.out.box.on hW).c2, (VA.out.box.on hW).c3⟩
    have HD : Hid (Below u3.heap.size u3 u3.drew) := (Below.refl _ _).drew
    go_wp2_with fail
    go_region_held3 (fun W => W.cell? ⟨w.heap.size, 0, none⟩ = some (.int .i64 L0) ∧ W.cell? ⟨w.heap.size, 1, none⟩ = some (.int .i64 s0) ∧ W.cell? ⟨w.heap.size, 2, none⟩ = some (.slice A0 n0 c0) ∧ W.cell? ⟨w.heap.size, 3, none⟩ = some (.slice F0 m0 k0))
      (first | exact HK.out _ HBR.out | exact HK.out _ HBJ.out | exact HK.out _ (Below.refl _ _).drew)
      (first | (go_at_call 7; refine (HJ.out _ (Z.out.on HD.out) (Y.out.on HD.out)).mono ?_; rintro e u33 ⟨X, kx, rfl, hx, hb⟩; have HX := Lib.hid hx; have HBJ := Lib.hid (HD.out.trans (hb.mono HD.out.size)); clear hb hx) | (go_at_call 5; refine (HY.out _ _ X kx (VA.out.on HBJ.out).at_ HX.out).mono ?_; rintro e u34 ⟨rfl, hb⟩; have HBR := Lib.hid (HBJ.out.trans (hb.mono HBJ.out.size)); clear hb))
    all_goals
      have VA := Lib.hid (VA.out.on HBR.out)
      have Z := Lib.hid (Z.out.on HBR.out)
      have B := Lib.hid (B.out.trans (HBR.out.mono B.out.size))
      clear HBR HBJ HX HK HD HJ HY Y
      go_wp2
      go_ret
      exact ⟨rfl, B.out⟩


set_option maxRecDepth 100000 in
theorem lifted (os : Os) (started : os.Started) (H : Type) (enc : TypeId × Value → H) (FF : Stop.Interp) :
    ReturnsInHanded {} Try.checked os 3 .any ((Rows.OpenSpec.upto Rows.verdictStaysSpec).pre6 enc Try.prog Try.f3 Rows.verdictStaysUptoRow.domain false) (((Rows.OpenSpec.upto Rows.verdictStaysSpec).at FF).post enc Try.prog Try.f3 false true false false) := by
  refine returnsInHanded_of_cond_sized (C := Try.checked) (s := Rows.OpenSpec.upto Rows.verdictStaysSpec) (k := Rows.uptoSmall) rfl own started (by kernel_rfl) Try.func3
    (OpenSpec.witness (enc := enc) (C := Try.checked) (s := Rows.OpenSpec.upto Rows.verdictStaysSpec) (k := Rows.uptoSmall) rfl false ⟨#[], #[.agg #[.int .i64 0, .int .i64 0, .slice none 0 0, .slice none 0 0], .slice none 0 0, .slice none 0 0], []⟩ 8 (by kernel_rfl) (by kernel_rfl) (by kernel_rfl) (x := ([.agg [.lit (.int .i64 0), .lit (.int .i64 0), .nil, .nil], .nil, .nil], [], [])) (by kernel_rfl) rfl (by kernel_rfl)) ?_
  intro W base args ds gs before hval0 hW hcnd hk0 hsz0 _
  have hval : ∀ (j : Nat) t v, Try.f3.params[j]? = some t → args[j]? = some v → Value.okWide Try.prog W .any base t v := hval0
  have hsz : (DataW.weightsEach Try.prog (Try.f3.params.toList ++ Rows.verdictStaysSpec.plain.varTypes Try.prog) (ds ++ gs)).all (· ≤ reachBytes) = true := hsz0
  have hW' := hW
  obtain ⟨p, q, hA0, hV0, rfl, hfz, hnd⟩ := hW
  have hV : DataW.TrodVars enc Try.prog W (fun _ => true) [] gs q := hV0
  have hA : DataW.TrodAll enc Try.prog W 0 (fun _ => true) true Try.f3.params.toList args.toList ds p := hA0
  rw [Try.params3] at hA hval hsz
  obtain ⟨v0, vs0, d0, ds0, p0, q0, hargs, rfl, rfl, h0, rr0⟩ := trodAll_cons hA
  obtain ⟨v1, vs1, d1, ds1, p1, q1, rfl, rfl, rfl, h1, rr1⟩ := trodAll_cons rr0
  obtain ⟨v2, vs2, d2, ds2, p2, q2, rfl, rfl, rfl, h2, rr2⟩ := trodAll_cons rr1
  obtain ⟨rfl, rfl, rfl⟩ := trodAll_nil rr2
  obtain rfl : args = #[v0, v1, v2] := by cases args; simp_all
  obtain ⟨rfl, rfl⟩ := trodVars_none hV
  have k0 := h0
  have lt0 : ∀ x ∈ p0, x.block < W.heap.size := by obtain ⟨m, hm⟩ := k0; exact DataW.trod_lt m _ _ _ hm
  have k1 := h1
  have lt1 : ∀ x ∈ p1, x.block < W.heap.size := by obtain ⟨m, hm⟩ := k1; exact DataW.trod_lt m _ _ _ hm
  have k2 := h2
  have lt2 : ∀ x ∈ p2, x.block < W.heap.size := by obtain ⟨m, hm⟩ := k2; exact DataW.trod_lt m _ _ _ hm
  have hu : Rows.uptoBulkAll _ ≤ 1048576 := of_decide_eq_true hk0
  obtain ⟨D0, x0⟩ : ∃ d : Df.Aut, Df.DfaAt W W.heap.size v0 d := Df.dfa_open (hval 0 25 v0 rfl rfl) h0
  obtain ⟨A1, len1, c1, rfl⟩ := okWide_slice Try.underlying26 (hval 1 26 v1 rfl rfl)
  obtain ⟨z1, rfl, x1, r1, m1, q1⟩ : ∃ zs : List Int, len1 = zs.length ∧ IntsAt W W.heap.size A1 zs ∧ zs.length ≤ 17592186043904 ∧ zs.length ≤ c1 ∧ zs.length ≤ 1048576 := by
    obtain ⟨fuel, hf⟩ := h1
    rcases open_ints Try.underlying26 Try.underlying3 (by kernel_rfl) hf with ⟨hcs, _⟩ | ⟨x, l, c, zs, hcs, _, hl, hm, hz, hx, hcell, hwz⟩
    · simp [Value.cells] at hcs
      obtain ⟨rfl, rfl, rfl⟩ := hcs
      exact ⟨[], rfl, IntsAt.nil _ _ _, by simp, by simp, by simp⟩
    · simp [Value.cells] at hcs
      obtain ⟨rfl, rfl, rfl⟩ := hcs
      have hd := congrArg Prod.fst hx
      simp only at hd
      have := sized_slice hsz (j := 1) (t := 26) (e := 3) rfl (by rw [hd]; rfl) Try.underlying26
      rw [(show Try.prog.bytesOf 3 = 8 by kernel_rfl)] at this
      simp only [reachBytes, lits, List.length_map, List.length_take, List.length_drop] at this
      have hz' : zs.length = c1 := by simpa using hz
      have hq : (zs.take len1).length ≤ 1048576 := by
        have h9 := le_of_slice hu 1 (es := lits .i64 (zs.take len1)) (sp := lits .i64 (zs.drop len1)) (by rw [← hd]; rfl)
        simpa [lits] using h9
      exact ⟨zs.take len1, by rw [List.length_take]; omega, intsAt_of_open hcell hwz len1, by rw [List.length_take]; omega, by rw [List.length_take]; omega, hq⟩
  obtain ⟨A2, len2, c2, rfl⟩ := okWide_slice Try.underlying26 (hval 2 26 v2 rfl rfl)
  obtain ⟨z2, rfl, x2, r2, m2, q2⟩ : ∃ zs : List Int, len2 = zs.length ∧ IntsAt W W.heap.size A2 zs ∧ zs.length ≤ 17592186043904 ∧ zs.length ≤ c2 ∧ zs.length ≤ 1048576 := by
    obtain ⟨fuel, hf⟩ := h2
    rcases open_ints Try.underlying26 Try.underlying3 (by kernel_rfl) hf with ⟨hcs, _⟩ | ⟨x, l, c, zs, hcs, _, hl, hm, hz, hx, hcell, hwz⟩
    · simp [Value.cells] at hcs
      obtain ⟨rfl, rfl, rfl⟩ := hcs
      exact ⟨[], rfl, IntsAt.nil _ _ _, by simp, by simp, by simp⟩
    · simp [Value.cells] at hcs
      obtain ⟨rfl, rfl, rfl⟩ := hcs
      have hd := congrArg Prod.fst hx
      simp only at hd
      have := sized_slice hsz (j := 2) (t := 26) (e := 3) rfl (by rw [hd]; rfl) Try.underlying26
      rw [(show Try.prog.bytesOf 3 = 8 by kernel_rfl)] at this
      simp only [reachBytes, lits, List.length_map, List.length_take, List.length_drop] at this
      have hz' : zs.length = c2 := by simpa using hz
      have hq : (zs.take len2).length ≤ 1048576 := by
        have h9 := le_of_slice hu 2 (es := lits .i64 (zs.take len2)) (sp := lits .i64 (zs.drop len2)) (by rw [← hd]; rfl)
        simpa [lits] using h9
      exact ⟨zs.take len2, by rw [List.length_take]; omega, intsAt_of_open hcell hwz len2, by rw [List.length_take]; omega, by rw [List.length_take]; omega, hq⟩
  clear hA0 hval0
  refine (walk v0 D0 A1 c1 z1 A2 c2 z2 W x0 x1 r1 m1 q1 x2 r2 m2 q2).mono fun e W' ⟨he, bel⟩ => ?_
  subst he
  exact ⟨_, rfl, _, _, _, [], _, [], hW', trodAll_mk1 (shut_bool Try.underlying4 _), (trodAll_cons_mk (Below.trod laidOut (by kernel_rfl) (of_decide_eq_true (by kernel_rfl)) k0 bel lt0) (trodAll_cons_mk (Below.trod laidOut (by kernel_rfl) (of_decide_eq_true (by kernel_rfl)) k1 bel lt1) (trodAll_cons_mk (Below.trod laidOut (by kernel_rfl) (of_decide_eq_true (by kernel_rfl)) k2 bel lt2) trodAll_mk0))), rfl, bel.frame _, fun h => by cases h⟩

theorem over : Rows.verdictStaysUptoRow.holds Try.pinned (Rows.OpenSpec.upto Rows.verdictStaysSpec) :=
  OpenClaim.holds_of_cond 3 Try.f3 rfl rfl rfl rfl rfl rfl rfl ⟨rfl, rfl, rfl, rfl, rfl⟩ rfl rfl rfl rfl rfl (by kernel_rfl) Try.func3 (by kernel_rfl)
    (of_decide_eq_true (by kernel_rfl)) (by unfold Func.isWrapper; rw [if_neg (of_decide_eq_false (by kernel_rfl))]; exact ⟨rfl, rfl⟩)
    (fun os started H enc _ FF => lifted os started H enc FF)
theorem proved : Rows.VerdictStaysUptoSaid := over
#print axioms proved
end Go.Proofs.Ytblkaegnnokedaa.verdictStays
