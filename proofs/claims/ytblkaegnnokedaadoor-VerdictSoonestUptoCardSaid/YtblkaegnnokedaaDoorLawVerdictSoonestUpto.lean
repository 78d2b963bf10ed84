/-
  The statement VerdictSoonestUptoCardSaid of this seat, proved: for every input the law returns true and its arguments read behind the call as before. Conditions: none but the row's own (each argument within the reach; the listed variable as the program lays it, tied by the given tie).
-/
import Derived.Test.YtblkaegnnokedaaDoorRows
import Derived.Test.YtblkaegnnokedaaDoorCards
import Derived.Test.YtblkaegnnokedaaDoorTie
import Derived.SevenTiedAt
import Derived.LaidLaws
import Derived.LaidHandle
import Derived.LaidMore
import Derived.Lay
import Derived.MakeChecks
import Derived.Stop.Joined
import Derived.JoinedOf
import Derived.RowKit
import Derived.RowKitTokens
import Derived.ChangeSame
import Derived.ChangeVars
import Derived.JoinedCond
import Derived.Deep.CondSized
import Derived.Deep.DeepHandedRow
import Derived.Test.YtblkaegnnokedaaDoorWords
import Derived.WalkKit
import Derived.ProofKit
import Derived.OpenShut
import Derived.ShutString
import Derived.ChangeOld
import Derived.Below
import Derived.SizedLaws
import Derived.Lib.Hide
import Derived.Test.YtblkaegnnokedaaDoorVerS
import Derived.Test.YtblkaegnnokedaaDoorFew
import Derived.Test.YtblkaegnnokedaaDoorDfaV
import Derived.Test.YtblkaegnnokedaaDoorDfaK
import Derived.Test.YtblkaegnnokedaaDoorRefWord
import Derived.Test.YtblkaegnnokedaaDoorSays
import Derived.Test.YtblkaegnnokedaaDoorWordL
import Derived.Deep.QuietTactic
import Derived.BigQuiet
import Derived.Deep.RegionHeld3
namespace Go.Proofs.YtblkaegnnokedaaDoor.verdictSoonest
open Go.ChangeShapes Go.WideShapes Go.ChangeAt Go.RowKit Go.IntWalk Go.Proofs.YtblkaegnnokedaaDoor.Wd
open Go.ChangeMaps (open_string shut_string)
set_option linter.unusedVariables false

/-- What the bound gives: a text's length. -/
theorem le_of_bulk {H : Type} {l : List (DataW H)} (h : Rows.uptoBulkAll l ≤ 1048576) : ∀ (i : Nat) {bs : List UInt8}, l[i]? = some (.lit (.string bs)) → bs.length ≤ 1048576 := by
  have hp : ∀ (l : List (DataW H)) (i : Nat) (bs : List UInt8), l[i]? = some (.lit (.string bs)) → bs.length ≤ Rows.uptoBulkAll l := by
    intro l
    induction l with
    | nil => intro i bs h; simp at h
    | cons x r ih =>
      intro i bs hx
      simp only [Rows.uptoBulkAll]
      rcases i with _ | i
      · simp only [List.getElem?_cons_zero, Option.some.injEq] at hx
        subst hx
        simp only [Rows.uptoBulk]
        omega
      · have := ih i bs (by simpa using hx)
        omega
  exact fun i bs hx => Nat.le_trans (hp l i bs hx) h
/-- What the bound gives: a slice's length. -/
theorem one_le_bulk {H : Type} (d : DataW H) : 1 ≤ Rows.uptoBulk d := by
  rcases d with l | _ | _ | _ | _ | _ | _ | _
  · cases l <;> simp [Rows.uptoBulk]
  all_goals simp [Rows.uptoBulk]
theorem len_le_bulk {H : Type} : ∀ l : List (DataW H), l.length ≤ Rows.uptoBulkAll l
  | [] => Nat.le_refl _
  | d :: l => by
    have h1 := one_le_bulk d
    have h2 := len_le_bulk l
    simp only [Rows.uptoBulkAll, List.length_cons]
    omega
theorem le_of_slice {H : Type} {l : List (DataW H)} (h : Rows.uptoBulkAll l ≤ 1048576) : ∀ (i : Nat) {es sp : List (DataW H)}, l[i]? = some (.slice es sp) → es.length ≤ 1048576 := by
  have hp : ∀ (l : List (DataW H)) (i : Nat) (es sp : List (DataW H)), l[i]? = some (.slice es sp) → es.length ≤ Rows.uptoBulkAll l := by
    intro l
    induction l with
    | nil => intro i es sp h; simp at h
    | cons x r ih =>
      intro i es sp hx
      simp only [Rows.uptoBulkAll]
      rcases i with _ | i
      · simp only [List.getElem?_cons_zero, Option.some.injEq] at hx
        subst hx
        have := len_le_bulk es
        simp only [Rows.uptoBulk]
        omega
      · have := ih i es sp (by simpa using hx)
        omega
  exact fun i es sp hx => Nat.le_trans (hp l i es sp hx) h
theorem own : ownKnob Tryd.prog.godebug = none := by kernel_rfl
theorem laidOut : laidOutB Tryd.prog = true := by kernel_rfl
theorem et : Tryd.prog.globalNamed "errors.errorType" = some 0 := by kernel_rfl
theorem rt : (Tryd.prog.cutTypes.find? (·.1 == "internal/reflectlite.rtype")).map (·.2) = some 106 := by kernel_rfl
theorem oneRow : ((List.range 157).filter fun t => Tryd.prog.rowNamed t [101, 114, 114, 111, 114]) = [30] := by kernel_rfl
theorem size : Tryd.prog.types.size = 157 := by kernel_rfl
/-- What the condition gives a walk: the variable's one cell. -/
theorem handle_of_laid {w : World} (h : laidMetH Tryd.prog [("errors.errorType", Rows.laid_errors_errorType)] w) : w.cell? ⟨0, 0, none⟩ = some (.iface 106 (.agg #[.pointer (some ⟨1, 30, none⟩)])) := by
  have h' : laidMet Tryd.prog [] w ∧ handlesMet Tryd.prog [("errors.errorType", Rows.laid_errors_errorType)] w := h
  obtain ⟨name, u, ty, e1, e2, e3, e4, e5⟩ := h'.2 _ (List.mem_singleton.2 rfl)
  have en : name = [101, 114, 114, 111, 114] := (Option.some.inj e1).symm
  subst en
  obtain rfl := Option.some.inj (rt.symm.trans e2)
  have hm : ty ∈ (List.range 157).filter fun t => Tryd.prog.rowNamed t [101, 114, 114, 111, 114] := List.mem_filter.2 ⟨List.mem_range.2 (by rw [← size]; exact e3), e4⟩
  rw [oneRow] at hm
  obtain rfl := List.mem_singleton.1 hm
  have hh : typeHandle Tryd.prog 30 = .pointer (some ⟨1, 30, none⟩) := by kernel_rfl
  rw [hh] at e5
  simpa using World.var?_cell et e5 0
/-- A world that meets the condition. -/
noncomputable def laidWorld (os : Os) : World :=
  let w0 := World.holding Tryd.prog os ⟨#[], #[], []⟩
  { w0 with heap := w0.heap.modify 0 fun
      | .cells _ t frozen => .cells #[.iface 106 (.agg #[.pointer (some ⟨1, 30, none⟩)])] t frozen
      | o => o }
theorem laidWorld_met (os : Os) (args : Array Value) : laidMetH Tryd.prog [("errors.errorType", Rows.laid_errors_errorType)] ((laidWorld os).forCall (fun _ _ => 0) ⟨#[], args, []⟩).memory :=
  laidMetH_of_parts (laidMet_nil _ _) (by kernel_rfl)
open Go.Proofs.YtblkaegnnokedaaDoor.Wo Go.Proofs.YtblkaegnnokedaaDoor.Er Go.Proofs.YtblkaegnnokedaaDoor.Df Go.Proofs.YtblkaegnnokedaaDoor.Rc Go.Proofs.YtblkaegnnokedaaDoor.Sm Go.Proofs.YtblkaegnnokedaaDoor.Mp Go.Proofs.YtblkaegnnokedaaDoor.Sa Go.Proofs.YtblkaegnnokedaaDoor.Ve
theorem says_gives {w : World} (hg : w.cell? ⟨0, 0, none⟩ = some (.iface 106 (.agg #[.pointer (some ⟨1, 30, none⟩)]))) (e : Nat) {E : Value} {K : Int} (hE : errV e = E) (hK : (e : Int) = K) (W : World) (hb : Below w.heap.size w W) :
    Calls Tryd.prog 10 #[E, .int .i64 K] W fun r w' => r = .returned (.bool true) ∧ Below W.heap.size W w' := by
  subst hE
  subst hK
  exact says e hg W hb
theorem nil_five (W : World) : Calls Tryd.prog 10 #[.nilIface, .int .i64 5] W fun r w' => r = .returned (.bool false) ∧ Below W.heap.size W w' :=
  (error_nil 5 W).mono fun r w' ⟨h1, h2⟩ => ⟨h1.out, by rw [← h2]; exact Below.refl _ _⟩
theorem told_not {w : World} (hg : w.cell? ⟨0, 0, none⟩ = some (.iface 106 (.agg #[.pointer (some ⟨1, 30, none⟩)]))) {k : Nat} (hk : k ≠ 5) {E : Value} (hE : errV k = E) (W : World) (hb : Below w.heap.size w W) :
    Calls Tryd.prog 10 #[E, .int .i64 5] W fun r w' => r = .returned (.bool false) ∧ Below W.heap.size W w' := by
  subst hE
  rcases k with _ | k
  · exact nil_five W
  · exact (error_told _ _ W (keep_handle hg hb)).mono fun _ _ ⟨h, e⟩ => ⟨by rw [h.out, int_ne (by omega)], e⟩
theorem acc_not5 {d : Aut} {z : List Int} (g : Df.Good d) : accErr d z ≠ 5 := by
  unfold accErr
  rw [if_neg (by have := dchk_iff.2 g; omega)]
  rcases chk_cases d.L z with h | h | h <;> omega
theorem ints_none (W : World) (A : Option Addr) (c : Nat) : Calls Tryd.prog 18 #[.slice A 0 c, .slice none 0 0] W fun e w' => e = .returned (.bool true) ∧ Below W.heap.size W w' :=
  (ints_yes (n := 0) (v := []) (z := []) rfl (IntsAt.nil _ _ _) (IntsAt.nil _ _ _) (by simp)).mono fun e w' ⟨h1, m, h2⟩ => ⟨h1, by rw [h2]; exact below_drewN (Below.refl _ _) m⟩
theorem ints_two {W : World} {A B : Option Addr} {c d : Nat} {l : List Int} (hA : IntsAt W W.heap.size A l) (hB : IntsAt W W.heap.size B l) (hl : l.length ≤ 1000) : Calls Tryd.prog 18 #[.slice A l.length c, .slice B l.length d] W fun e w' => e = .returned (.bool true) ∧ Below W.heap.size W w' :=
  (ints_yes (n := 0) (v := l) (z := l) rfl hA hB (by omega)).mono fun e w' ⟨h1, m, h2⟩ => ⟨h1, by rw [h2]; exact below_drewN (Below.refl _ _) m⟩
set_option maxRecDepth 100000 in
theorem few_soon : soonOut fewA [] = ([1, 1, 1], 0) := by decide +kernel
theorem facts_gives (W : World) (v : Value) (h : DfaAt W W.heap.size v fewA) : Calls Tryd.prog 17 #[v, .slice none 0 0] W fun e w' => ∃ A c, e = .returned (.tuple #[.slice A 3 c, .nilIface]) ∧ Hid (IntsAt w' w'.heap.size A [1, 1, 1]) ∧ Below W.heap.size W w' :=
  soon_gives (Z := none) (cz := 0) (z := []) (E := .nilIface) h (IntsAt.nil _ _ _) (by simp) few_soon rfl
theorem facts_ints (W : World) (A : Option Addr) (c : Nat) (h : IntsAt W W.heap.size A [1, 1, 1]) : Calls Tryd.prog 18 #[.slice A 3 c, .slice (some ⟨W.heap.size, 0, none⟩) 3 3] (W.alloc (.cells #[.int .i64 1, .int .i64 1, .int .i64 1] 3)) fun e w' => e = .returned (.bool true) ∧ Below W.heap.size W w' := by
  have hb := below_alloc W (.cells #[.int .i64 1, .int .i64 1, .int .i64 1] 3)
  have hl := lit_ints W [1, 1, 1] (by intro x hx; simp only [List.mem_cons, List.not_mem_nil, or_false] at hx; rcases hx with rfl | rfl | rfl <;> exact ⟨by decide, by decide⟩) (by decide)
  exact (ints_two (c := c) (d := 3) (h.on hb) hl (by simp)).mono fun e w' ⟨h1, h2⟩ => ⟨h1, hb.trans (h2.mono hb.size)⟩
theorem less_is {W : World} {A B : Option Addr} {c d : Nat} {v z : List Int} (hA : IntsAt W W.heap.size A v) (hB : IntsAt W W.heap.size B z) (hv : v.length ≤ 1000000) (hz : z.length ≤ 1000000) (h : lss v z = false) :
    Calls Tryd.prog 24 #[.slice A v.length c, .slice B z.length d] W fun e w' => e = .returned (.bool false) ∧ Below W.heap.size W w' :=
  (refLess_any A c v B d z W hA hB hv hz).mono fun e w' ⟨h1, n, h2⟩ => ⟨by rw [h1.out, h], by rw [h2]; exact below_drewN (Below.refl _ _) n⟩

set_option maxRecDepth 100000 in
set_option maxHeartbeats 4000000 in
theorem walk (v0 : Value) (d0 : Df.Aut) (A1 : Option Addr) (c1 : Nat) (z1 : List Int) (A2 : Option Addr) (c2 : Nat) (z2 : List Int) (w : World) (h0 : Df.DfaAt w w.heap.size v0 d0) (v1 : IntsAt w w.heap.size A1 z1) (r1 : z1.length ≤ 17592186043904) (m1 : z1.length ≤ c1) (q1 : z1.length ≤ 1048576) (v2 : IntsAt w w.heap.size A2 z2) (r2 : z2.length ≤ 17592186043904) (m2 : z2.length ≤ c2) (q2 : z2.length ≤ 1048576) (hg : w.cell? ⟨0, 0, none⟩ = some (.iface 106 (.agg #[.pointer (some ⟨1, 30, none⟩)]))) :
    Calls Tryd.prog 5 #[v0, .slice A1 z1.length c1, .slice A2 z2.length c2] w fun e w' => e = .returned (.bool true) ∧ Below w.heap.size w w' := by
  have hr : z1.length ≤ 17592186044416 := by omega
  have hl : z1.length + z2.length ≤ 17592186044416 := by omega
  have hlj : (z1 ++ z2).length ≤ 17592186044416 := by rw [List.length_append]; exact hl
  obtain ⟨L0, s0, A0, n0, c0, F0, m0, k0, rfl⟩ := h0.form
  have hN0 := h0.eqs.2.2.1
  obtain ⟨u0, hu0, hb0, VA0⟩ := var_new w h0
  have VA := Lib.hid VA0
  have B := Lib.hid hb0
  have W0 := Lib.hid hu0
  have HN0 := Lib.hid hN0
  have Z := Lib.hid (v1.on hb0)
  have Y := Lib.hid (v2.on hb0)
  clear VA0 hb0 hu0 h0 hN0 v1 v2
  have HJ := Lib.hid (fun W (h : IntsAt W W.heap.size A1 z1) (k : IntsAt W W.heap.size A2 z2) => joined_ok (c := c1) (d := c2) h k hl)
  clear m1 r1 m2 r2 hl
  have HFew := Lib.hid few_any
  have HFact := Lib.hid facts_gives
  have HFi := Lib.hid facts_ints
  by_cases ga : accErr d0 z1 = 0
  · obtain ⟨Ga, fa⟩ := accErr_good ga
    have fw := fine_word fa
    have hlt := Ga.run_lt fw Ga.s_lt
    rcases hs : soon d0 (runA d0 d0.s.toNat z1) with _ | u
    · have HS := Lib.hid (fun W v (h : DfaAt W W.heap.size v d0) (hZ : IntsAt W W.heap.size A1 z1) => soon_gives (cz := c1) (E := errI 5) h hZ hr (l := []) (soonOut_none ga hs) rfl)
      have hE5 : errV 5 = errI 5 := rfl
      by_cases gj : accErr d0 (z1 ++ z2) = 0
      · obtain ⟨_, fj⟩ := accErr_good gj
        have hns := soon_none Ga hlt hs (v := z2) (fun a ha => fine_word fj a (List.mem_append_right _ ha))
        rw [← runA_append] at hns
        have hns2 : ¬ (verd d0 (runA d0 d0.s.toNat (z1 ++ z2)) = 0 ∨ verd d0 (runA d0 d0.s.toNat (z1 ++ z2)) = 3) := fun h => by
          have h2 := (isSet_iff _).2 h
          unfold settled at hns
          rw [hns] at h2; cases h2
        have HX := Lib.hid (fun W v X k (h : DfaAt W W.heap.size v d0) (hZ : IntsAt W W.heap.size X (z1 ++ z2)) => of_gives (cz := k) (E := .nilIface) h hZ hlj (ofOut_ok gj) rfl)
        obtain ⟨x, hx⟩ : ∃ x : Int, ((verd d0 (runA d0 d0.s.toNat (z1 ++ z2)) : Nat) : Int) = x := ⟨_, rfl⟩
        rw [hx] at HX
        have x0 : (x == 0) = false := int_ne (by omega)
        have x3 : (x == 3) = false := int_ne (by omega)
        clear ga gj Ga fa fw hlt hs fj hns hns2 hx hr hlj hg HN0 hE5 q1 q2
        generalize z1 ++ z2 = zz at *
        go_enter Tryd.func5, Tryd.ntmps5
        go_wp2_with fail
        rw [← W0.out]
        clear W0
        refine (HFew.out _).mono ?_
        rintro e u1 he
        obtain ⟨xf, rfl, hof⟩ := he.out
        have hb := hof.below
        have hat := hof.at_
        obtain ⟨Lf, sf, Af, nf, cf, Ff, mf, kf, rfl⟩ := hat.form
        have Z := Lib.hid (Z.out.on hb)
        have Y := Lib.hid (Y.out.on hb)
        have VA := Lib.hid (VA.out.on hb)
        have B := Lib.hid (B.out.trans (hb.mono B.out.size))
        have HAt := Lib.hid hat
        clear he hof hb hat HFew
        go_wp2_with fail
        refine (HFact.out _ _ HAt.out).mono ?_
        rintro e u2 ⟨AHF3, cHF3, rfl, hI, hb⟩
        have HF3 := Lib.hid hI.out
        have Z := Lib.hid (Z.out.on hb)
        have Y := Lib.hid (Y.out.on hb)
        have VA := Lib.hid (VA.out.on hb)
        have B := Lib.hid (B.out.trans (hb.mono B.out.size))
        clear hb hI  HFact HAt
        go_wp2_with fail
        refine (HFi.out _ _ _ HF3.out).mono ?_
        rintro e u3 ⟨rfl, hb⟩
        have Z := Lib.hid (Z.out.on hb)
        have Y := Lib.hid (Y.out.on hb)
        have HF3 := Lib.hid (HF3.out.on hb)
        have VA := Lib.hid (VA.out.on hb)
        have B := Lib.hid (B.out.trans (hb.mono B.out.size))
        clear hb  HFi HF3
        obtain ⟨p0, p1, p2, p3, p4⟩ := VA.out.box
        go_wp2_with fail
        refine (HS.out _ _ VA.out.at_ Z.out).mono ?_
        rintro e u4 ⟨AHI, cHI, rfl, hI, hb⟩
        have HI := Lib.hid hI.out
        have Z := Lib.hid (Z.out.on hb)
        have Y := Lib.hid (Y.out.on hb)
        have VA := Lib.hid (VA.out.on hb)
        have B := Lib.hid (B.out.trans (hb.mono B.out.size))
        clear hb hI p0 p1 p2 p3 p4 HS
        have HK : Hid (∀ W, Below u4.heap.size u4 W → W.cell? ⟨w.heap.size, 0, none⟩ = some (.int .i64 L0) ∧ W.cell? ⟨w.heap.size, 1, none⟩ = some (.int .i64 s0) ∧ W.cell? ⟨w.heap.size, 2, none⟩ = some (.slice A0 n0 c0) ∧ W.cell? ⟨w.heap.size, 3, none⟩ = some (.slice F0 m0 k0)) := fun W hW => ⟨(VA.out.box.on hW).c0, (VA.out.box.on hW).c1, (VA.out.box.on hW).c2, (VA.out.box.on hW).c3⟩
        have HD : Hid (Below u4.heap.size u4 u4.drew) := (Below.refl _ _).drew
        go_wp2_with fail
        go_region_held3 (fun W => W.cell? ⟨w.heap.size, 0, none⟩ = some (.int .i64 L0) ∧ W.cell? ⟨w.heap.size, 1, none⟩ = some (.int .i64 s0) ∧ W.cell? ⟨w.heap.size, 2, none⟩ = some (.slice A0 n0 c0) ∧ W.cell? ⟨w.heap.size, 3, none⟩ = some (.slice F0 m0 k0))
          (first | exact HK.out _ HBR.out | exact HK.out _ HBJ.out | exact HK.out _ (Below.refl _ _).drew)
          (first | (go_at_call 23; refine (HJ.out _ (Z.out.on HD.out) (Y.out.on HD.out)).mono ?_; rintro e u33 ⟨X33, kx33, rfl, hx, hb⟩; have HXJ := Lib.hid hx; have HBJ := Lib.hid (HD.out.trans (hb.mono HD.out.size)); clear hb hx) | (go_at_call 16; refine (HX.out _ _ X33 kx33 (VA.out.on HBJ.out).at_ HXJ.out).mono ?_; rintro e u34 ⟨rfl, hb⟩; have HBR := Lib.hid (HBJ.out.trans (hb.mono HBJ.out.size)); clear hb))
        all_goals
          have Z := Lib.hid (Z.out.on HBR.out)
          have Y := Lib.hid (Y.out.on HBR.out)
          have HI := Lib.hid (HI.out.on HBR.out)
          have VA := Lib.hid (VA.out.on HBR.out)
          have B := Lib.hid (B.out.trans (HBR.out.mono B.out.size))
          clear HBR HBJ HXJ HK HD HJ HX
          clear HI
          go_wp2
          go_ret
          exact ⟨rfl, B.out⟩
      · obtain ⟨E, hE⟩ := errV_bad gj
        have HX := Lib.hid (fun W v X k (h : DfaAt W W.heap.size v d0) (hZ : IntsAt W W.heap.size X (z1 ++ z2)) => of_gives (cz := k) h hZ hlj (ofOut_bad gj) hE)
        clear ga gj Ga fa fw hlt hs hr hlj hE hg HN0 hE5 q1 q2
        generalize z1 ++ z2 = zz at *
        go_enter Tryd.func5, Tryd.ntmps5
        go_wp2_with fail
        rw [← W0.out]
        clear W0
        refine (HFew.out _).mono ?_
        rintro e u1 he
        obtain ⟨xf, rfl, hof⟩ := he.out
        have hb := hof.below
        have hat := hof.at_
        obtain ⟨Lf, sf, Af, nf, cf, Ff, mf, kf, rfl⟩ := hat.form
        have Z := Lib.hid (Z.out.on hb)
        have Y := Lib.hid (Y.out.on hb)
        have VA := Lib.hid (VA.out.on hb)
        have B := Lib.hid (B.out.trans (hb.mono B.out.size))
        have HAt := Lib.hid hat
        clear he hof hb hat HFew
        go_wp2_with fail
        refine (HFact.out _ _ HAt.out).mono ?_
        rintro e u2 ⟨AHF3, cHF3, rfl, hI, hb⟩
        have HF3 := Lib.hid hI.out
        have Z := Lib.hid (Z.out.on hb)
        have Y := Lib.hid (Y.out.on hb)
        have VA := Lib.hid (VA.out.on hb)
        have B := Lib.hid (B.out.trans (hb.mono B.out.size))
        clear hb hI  HFact HAt
        go_wp2_with fail
        refine (HFi.out _ _ _ HF3.out).mono ?_
        rintro e u3 ⟨rfl, hb⟩
        have Z := Lib.hid (Z.out.on hb)
        have Y := Lib.hid (Y.out.on hb)
        have HF3 := Lib.hid (HF3.out.on hb)
        have VA := Lib.hid (VA.out.on hb)
        have B := Lib.hid (B.out.trans (hb.mono B.out.size))
        clear hb  HFi HF3
        obtain ⟨p0, p1, p2, p3, p4⟩ := VA.out.box
        go_wp2_with fail
        refine (HS.out _ _ VA.out.at_ Z.out).mono ?_
        rintro e u4 ⟨AHI, cHI, rfl, hI, hb⟩
        have HI := Lib.hid hI.out
        have Z := Lib.hid (Z.out.on hb)
        have Y := Lib.hid (Y.out.on hb)
        have VA := Lib.hid (VA.out.on hb)
        have B := Lib.hid (B.out.trans (hb.mono B.out.size))
        clear hb hI p0 p1 p2 p3 p4 HS
        have HK : Hid (∀ W, Below u4.heap.size u4 W → W.cell? ⟨w.heap.size, 0, none⟩ = some (.int .i64 L0) ∧ W.cell? ⟨w.heap.size, 1, none⟩ = some (.int .i64 s0) ∧ W.cell? ⟨w.heap.size, 2, none⟩ = some (.slice A0 n0 c0) ∧ W.cell? ⟨w.heap.size, 3, none⟩ = some (.slice F0 m0 k0)) := fun W hW => ⟨(VA.out.box.on hW).c0, (VA.out.box.on hW).c1, (VA.out.box.on hW).c2, (VA.out.box.on hW).c3⟩
        have HD : Hid (Below u4.heap.size u4 u4.drew) := (Below.refl _ _).drew
        go_wp2_with fail
        go_region_held3 (fun W => W.cell? ⟨w.heap.size, 0, none⟩ = some (.int .i64 L0) ∧ W.cell? ⟨w.heap.size, 1, none⟩ = some (.int .i64 s0) ∧ W.cell? ⟨w.heap.size, 2, none⟩ = some (.slice A0 n0 c0) ∧ W.cell? ⟨w.heap.size, 3, none⟩ = some (.slice F0 m0 k0))
          (first | exact HK.out _ HBR.out | exact HK.out _ HBJ.out | exact HK.out _ (Below.refl _ _).drew)
          (first | (go_at_call 23; refine (HJ.out _ (Z.out.on HD.out) (Y.out.on HD.out)).mono ?_; rintro e u33 ⟨X33, kx33, rfl, hx, hb⟩; have HXJ := Lib.hid hx; have HBJ := Lib.hid (HD.out.trans (hb.mono HD.out.size)); clear hb hx) | (go_at_call 16; refine (HX.out _ _ X33 kx33 (VA.out.on HBJ.out).at_ HXJ.out).mono ?_; rintro e u34 ⟨rfl, hb⟩; have HBR := Lib.hid (HBJ.out.trans (hb.mono HBJ.out.size)); clear hb))
        all_goals
          have Z := Lib.hid (Z.out.on HBR.out)
          have Y := Lib.hid (Y.out.on HBR.out)
          have HI := Lib.hid (HI.out.on HBR.out)
          have VA := Lib.hid (VA.out.on HBR.out)
          have B := Lib.hid (B.out.trans (HBR.out.mono B.out.size))
          clear HBR HBJ HXJ HK HD HJ HX
          clear HI
          go_wp2
          go_ret
          exact ⟨rfl, B.out⟩
    · obtain ⟨hu1, hu2, hu3, hu4⟩ := soon_some Ga hlt hs
      have hsm := word_small Ga.l6 hu1
      have hn40 := Ga.n40
      have HS := Lib.hid (fun W v (h : DfaAt W W.heap.size v d0) (hZ : IntsAt W W.heap.size A1 z1) => soon_gives (cz := c1) (E := .nilIface) h hZ hr (l := u) (soonOut_some ga hs) rfl)
      have hnn : n0 = d0.next.length := HN0.out.symm
      have hge : u.length < n0 := by omega
      have hn0 : n0 ≤ 40 := by omega
      have hl2 : z1.length + u.length ≤ 17592186044416 := by omega
      have hlk : (z1 ++ u).length ≤ 17592186044416 := by rw [List.length_append]; exact hl2
      have HJ2 := Lib.hid (fun W X k (h : IntsAt W W.heap.size A1 z1) (hu : IntsAt W W.heap.size X u) => joined_ok (c := c1) (d := k) h hu hl2)
      have hyw : ∃ (y : Int) (E : Value), (fun (y : Int) (E : Value) => (E = .nilIface ∧ (y = 0 ∨ y = 3)) ∨ (∃ k, E = errI k) ∧ 80 < z1.length + u.length) y E ∧ Hid (∀ W v X k (_ : DfaAt W W.heap.size v d0) (_ : IntsAt W W.heap.size X (z1 ++ u)), Calls Tryd.prog 16 #[v, .slice X (z1 ++ u).length k] W fun e w' => e = .returned (.tuple #[.int .i64 y, E]) ∧ Below W.heap.size W w') := by
        by_cases h80 : z1.length + u.length ≤ 80
        · have fz : Wo.Fine d0.L (z1 ++ u) := ⟨fa.1, by rw [List.length_append]; exact h80, word_append fw hu1⟩
          have gz := accErr_ok Ga fz
          refine ⟨_, .nilIface, .inl ⟨rfl, ?_⟩, fun W v X k h hZ => of_gives (cz := k) (E := .nilIface) h hZ hlk (ofOut_ok gz) rfl⟩
          rw [runA_append]
          rcases (isSet_iff _).1 hu2 with h | h
          · exact .inl (by rw [h]; rfl)
          · exact .inr (by rw [h]; rfl)
        · have gz : accErr d0 (z1 ++ u) ≠ 0 := fun h => h80 (by have := (accErr_good h).2.2.1; rw [List.length_append] at this; exact this)
          obtain ⟨E, hE⟩ := errV_bad gz
          exact ⟨0, errI E, .inr ⟨⟨E, rfl⟩, by omega⟩, fun W v X k h hZ => of_gives (cz := k) h hZ hlk (ofOut_bad gz) hE⟩
      obtain ⟨y, Ey, hy, HY⟩ := hyw
      try simp only at hy
      by_cases gj : accErr d0 (z1 ++ z2) = 0
      · obtain ⟨_, fj⟩ := accErr_good gj
        have fz2 : Word d0.L z2 := fun a ha => fine_word fj a (List.mem_append_right _ ha)
        have hz80 : z2.length ≤ 80 := by have := fj.2.1; rw [List.length_append] at this; omega
        have hmin := hu4 z2 fz2
        rw [← runA_append] at hmin
        have HX := Lib.hid (fun W v X k (h : DfaAt W W.heap.size v d0) (hZ : IntsAt W W.heap.size X (z1 ++ z2)) => of_gives (cz := k) (E := .nilIface) h hZ hlj (ofOut_ok gj) rfl)
        obtain ⟨x, hx⟩ : ∃ x : Int, ((verd d0 (runA d0 d0.s.toNat (z1 ++ z2)) : Nat) : Int) = x := ⟨_, rfl⟩
        rw [hx] at HX
        have hxc : x = 0 ∨ x = 3 → lss z2 u = false := fun h => hmin ((isSet_iff _).2 (by omega))
        clear ga gj Ga fa fw hs fj hr hlj hg hu1 hu2 hu3 hu4 hsm hnn hl2 hlk fz2 hmin
        by_cases hsx : x = 0 ∨ x = 3
        · have hls := hxc hsx
          have hu80 : u.length ≤ 1000000 := by omega
          have HLs := Lib.hid (fun W A B c d (hA : IntsAt W W.heap.size A z2) (hB : IntsAt W W.heap.size B u) => less_is (c := c) (d := d) hA hB (by omega) hu80 hls)
          clear hls hu80 hxc
          clear hn40 hz80 hx HN0 hlt
          generalize z1 ++ z2 = zz at *
          generalize z1 ++ u = zu at *
          rcases hsx with rfl | rfl
          all_goals rcases hy with ⟨rfl, rfl | rfl⟩ | ⟨⟨k, rfl⟩, h80⟩
          all_goals as_aux_lemma =>
            go_enter Tryd.func5, Tryd.ntmps5
            go_wp2_with fail
            rw [← W0.out]
            clear W0
            refine (HFew.out _).mono ?_
            rintro e u1 he
            obtain ⟨xf, rfl, hof⟩ := he.out
            have hb := hof.below
            have hat := hof.at_
            obtain ⟨Lf, sf, Af, nf, cf, Ff, mf, kf, rfl⟩ := hat.form
            have Z := Lib.hid (Z.out.on hb)
            have Y := Lib.hid (Y.out.on hb)
            have VA := Lib.hid (VA.out.on hb)
            have B := Lib.hid (B.out.trans (hb.mono B.out.size))
            have HAt := Lib.hid hat
            clear he hof hb hat HFew
            go_wp2_with fail
            refine (HFact.out _ _ HAt.out).mono ?_
            rintro e u2 ⟨AHF3, cHF3, rfl, hI, hb⟩
            have HF3 := Lib.hid hI.out
            have Z := Lib.hid (Z.out.on hb)
            have Y := Lib.hid (Y.out.on hb)
            have VA := Lib.hid (VA.out.on hb)
            have B := Lib.hid (B.out.trans (hb.mono B.out.size))
            clear hb hI  HFact HAt
            go_wp2_with fail
            refine (HFi.out _ _ _ HF3.out).mono ?_
            rintro e u3 ⟨rfl, hb⟩
            have Z := Lib.hid (Z.out.on hb)
            have Y := Lib.hid (Y.out.on hb)
            have HF3 := Lib.hid (HF3.out.on hb)
            have VA := Lib.hid (VA.out.on hb)
            have B := Lib.hid (B.out.trans (hb.mono B.out.size))
            clear hb  HFi HF3
            obtain ⟨p0, p1, p2, p3, p4⟩ := VA.out.box
            go_wp2_with fail
            refine (HS.out _ _ VA.out.at_ Z.out).mono ?_
            rintro e u4 ⟨AHI, cHI, rfl, hI, hb⟩
            have HI := Lib.hid hI.out
            have Z := Lib.hid (Z.out.on hb)
            have Y := Lib.hid (Y.out.on hb)
            have VA := Lib.hid (VA.out.on hb)
            have B := Lib.hid (B.out.trans (hb.mono B.out.size))
            clear hb hI p0 p1 p2 p3 p4 HS
            have HK : Hid (∀ W, Below u4.heap.size u4 W → W.cell? ⟨w.heap.size, 0, none⟩ = some (.int .i64 L0) ∧ W.cell? ⟨w.heap.size, 1, none⟩ = some (.int .i64 s0) ∧ W.cell? ⟨w.heap.size, 2, none⟩ = some (.slice A0 n0 c0) ∧ W.cell? ⟨w.heap.size, 3, none⟩ = some (.slice F0 m0 k0)) := fun W hW => ⟨(VA.out.box.on hW).c0, (VA.out.box.on hW).c1, (VA.out.box.on hW).c2, (VA.out.box.on hW).c3⟩
            have HD : Hid (Below u4.heap.size u4 u4.drew) := (Below.refl _ _).drew
            go_wp2_with fail
            go_region_held3 (fun W => W.cell? ⟨w.heap.size, 0, none⟩ = some (.int .i64 L0) ∧ W.cell? ⟨w.heap.size, 1, none⟩ = some (.int .i64 s0) ∧ W.cell? ⟨w.heap.size, 2, none⟩ = some (.slice A0 n0 c0) ∧ W.cell? ⟨w.heap.size, 3, none⟩ = some (.slice F0 m0 k0))
              (first | exact HK.out _ HBR.out | exact HK.out _ HBJ.out | exact HK.out _ (Below.refl _ _).drew)
              (first | (go_at_call 23; refine (HJ.out _ (Z.out.on HD.out) (Y.out.on HD.out)).mono ?_; rintro e u33 ⟨X33, kx33, rfl, hx, hb⟩; have HXJ := Lib.hid hx; have HBJ := Lib.hid (HD.out.trans (hb.mono HD.out.size)); clear hb hx) | (go_at_call 16; refine (HX.out _ _ X33 kx33 (VA.out.on HBJ.out).at_ HXJ.out).mono ?_; rintro e u34 ⟨rfl, hb⟩; have HBR := Lib.hid (HBJ.out.trans (hb.mono HBJ.out.size)); clear hb))
            all_goals
              have Z := Lib.hid (Z.out.on HBR.out)
              have Y := Lib.hid (Y.out.on HBR.out)
              have HI := Lib.hid (HI.out.on HBR.out)
              have VA := Lib.hid (VA.out.on HBR.out)
              have B := Lib.hid (B.out.trans (HBR.out.mono B.out.size))
              clear HBR HBJ HXJ HK HD HJ HX
              go_wp2_with fail
              refine (HLs.out _ _ _ _ _ Y.out HI.out).mono ?_
              rintro e u39 ⟨rfl, hb⟩
              have Z := Lib.hid (Z.out.on hb)
              have Y := Lib.hid (Y.out.on hb)
              have HI := Lib.hid (HI.out.on hb)
              have VA := Lib.hid (VA.out.on hb)
              have B := Lib.hid (B.out.trans (hb.mono B.out.size))
              clear hb  HLs
              obtain ⟨p0, p1, p2, p3, p4⟩ := VA.out.box
              have HK : Hid (∀ W, Below u39.heap.size u39 W → W.cell? ⟨w.heap.size, 0, none⟩ = some (.int .i64 L0) ∧ W.cell? ⟨w.heap.size, 1, none⟩ = some (.int .i64 s0) ∧ W.cell? ⟨w.heap.size, 2, none⟩ = some (.slice A0 n0 c0) ∧ W.cell? ⟨w.heap.size, 3, none⟩ = some (.slice F0 m0 k0)) := fun W hW => ⟨(VA.out.box.on hW).c0, (VA.out.box.on hW).c1, (VA.out.box.on hW).c2, (VA.out.box.on hW).c3⟩
              have HD : Hid (Below u39.heap.size u39 u39.drew) := (Below.refl _ _).drew
              go_wp2_with fail
              clear p0 p1 p2 p3 p4
              go_region_held3 (fun W => W.cell? ⟨w.heap.size, 0, none⟩ = some (.int .i64 L0) ∧ W.cell? ⟨w.heap.size, 1, none⟩ = some (.int .i64 s0) ∧ W.cell? ⟨w.heap.size, 2, none⟩ = some (.slice A0 n0 c0) ∧ W.cell? ⟨w.heap.size, 3, none⟩ = some (.slice F0 m0 k0))
                (first | exact HK.out _ HBR.out | exact HK.out _ HBJ.out | exact HK.out _ (Below.refl _ _).drew)
                (first | (go_at_call 23; refine (HJ2.out _ _ _ (Z.out.on HD.out) (HI.out.on HD.out)).mono ?_; rintro e u43 ⟨X43, kx43, rfl, hx, hb⟩; have HXJ := Lib.hid hx; have HBJ := Lib.hid (HD.out.trans (hb.mono HD.out.size)); clear hb hx) | (go_at_call 16; refine (HY.out _ _ X43 kx43 (VA.out.on HBJ.out).at_ HXJ.out).mono ?_; rintro e u44 ⟨rfl, hb⟩; have HBR := Lib.hid (HBJ.out.trans (hb.mono HBJ.out.size)); clear hb))
              all_goals
                have Z := Lib.hid (Z.out.on HBR.out)
                have Y := Lib.hid (Y.out.on HBR.out)
                have HI := Lib.hid (HI.out.on HBR.out)
                have VA := Lib.hid (VA.out.on HBR.out)
                have B := Lib.hid (B.out.trans (HBR.out.mono B.out.size))
                clear HBR HBJ HXJ HK HD HJ2 HY
                go_wp2
                go_ret
                exact ⟨rfl, B.out⟩
        · have x0 : (x == 0) = false := int_ne (fun h => hsx (.inl h))
          have x3 : (x == 3) = false := int_ne (fun h => hsx (.inr h))
          clear hsx hxc
          clear hn40 hz80 hx HN0 hlt
          generalize z1 ++ z2 = zz at *
          generalize z1 ++ u = zu at *
          rcases hy with ⟨rfl, rfl | rfl⟩ | ⟨⟨k, rfl⟩, h80⟩
          all_goals as_aux_lemma =>
            go_enter Tryd.func5, Tryd.ntmps5
            go_wp2_with fail
            rw [← W0.out]
            clear W0
            refine (HFew.out _).mono ?_
            rintro e u1 he
            obtain ⟨xf, rfl, hof⟩ := he.out
            have hb := hof.below
            have hat := hof.at_
            obtain ⟨Lf, sf, Af, nf, cf, Ff, mf, kf, rfl⟩ := hat.form
            have Z := Lib.hid (Z.out.on hb)
            have Y := Lib.hid (Y.out.on hb)
            have VA := Lib.hid (VA.out.on hb)
            have B := Lib.hid (B.out.trans (hb.mono B.out.size))
            have HAt := Lib.hid hat
            clear he hof hb hat HFew
            go_wp2_with fail
            refine (HFact.out _ _ HAt.out).mono ?_
            rintro e u2 ⟨AHF3, cHF3, rfl, hI, hb⟩
            have HF3 := Lib.hid hI.out
            have Z := Lib.hid (Z.out.on hb)
            have Y := Lib.hid (Y.out.on hb)
            have VA := Lib.hid (VA.out.on hb)
            have B := Lib.hid (B.out.trans (hb.mono B.out.size))
            clear hb hI  HFact HAt
            go_wp2_with fail
            refine (HFi.out _ _ _ HF3.out).mono ?_
            rintro e u3 ⟨rfl, hb⟩
            have Z := Lib.hid (Z.out.on hb)
            have Y := Lib.hid (Y.out.on hb)
            have HF3 := Lib.hid (HF3.out.on hb)
            have VA := Lib.hid (VA.out.on hb)
            have B := Lib.hid (B.out.trans (hb.mono B.out.size))
            clear hb  HFi HF3
            obtain ⟨p0, p1, p2, p3, p4⟩ := VA.out.box
            go_wp2_with fail
            refine (HS.out _ _ VA.out.at_ Z.out).mono ?_
            rintro e u4 ⟨AHI, cHI, rfl, hI, hb⟩
            have HI := Lib.hid hI.out
            have Z := Lib.hid (Z.out.on hb)
            have Y := Lib.hid (Y.out.on hb)
            have VA := Lib.hid (VA.out.on hb)
            have B := Lib.hid (B.out.trans (hb.mono B.out.size))
            clear hb hI p0 p1 p2 p3 p4 HS
            have HK : Hid (∀ W, Below u4.heap.size u4 W → W.cell? ⟨w.heap.size, 0, none⟩ = some (.int .i64 L0) ∧ W.cell? ⟨w.heap.size, 1, none⟩ = some (.int .i64 s0) ∧ W.cell? ⟨w.heap.size, 2, none⟩ = some (.slice A0 n0 c0) ∧ W.cell? ⟨w.heap.size, 3, none⟩ = some (.slice F0 m0 k0)) := fun W hW => ⟨(VA.out.box.on hW).c0, (VA.out.box.on hW).c1, (VA.out.box.on hW).c2, (VA.out.box.on hW).c3⟩
            have HD : Hid (Below u4.heap.size u4 u4.drew) := (Below.refl _ _).drew
            go_wp2_with fail
            go_region_held3 (fun W => W.cell? ⟨w.heap.size, 0, none⟩ = some (.int .i64 L0) ∧ W.cell? ⟨w.heap.size, 1, none⟩ = some (.int .i64 s0) ∧ W.cell? ⟨w.heap.size, 2, none⟩ = some (.slice A0 n0 c0) ∧ W.cell? ⟨w.heap.size, 3, none⟩ = some (.slice F0 m0 k0))
              (first | exact HK.out _ HBR.out | exact HK.out _ HBJ.out | exact HK.out _ (Below.refl _ _).drew)
              (first | (go_at_call 23; refine (HJ.out _ (Z.out.on HD.out) (Y.out.on HD.out)).mono ?_; rintro e u33 ⟨X33, kx33, rfl, hx, hb⟩; have HXJ := Lib.hid hx; have HBJ := Lib.hid (HD.out.trans (hb.mono HD.out.size)); clear hb hx) | (go_at_call 16; refine (HX.out _ _ X33 kx33 (VA.out.on HBJ.out).at_ HXJ.out).mono ?_; rintro e u34 ⟨rfl, hb⟩; have HBR := Lib.hid (HBJ.out.trans (hb.mono HBJ.out.size)); clear hb))
            all_goals
              have Z := Lib.hid (Z.out.on HBR.out)
              have Y := Lib.hid (Y.out.on HBR.out)
              have HI := Lib.hid (HI.out.on HBR.out)
              have VA := Lib.hid (VA.out.on HBR.out)
              have B := Lib.hid (B.out.trans (HBR.out.mono B.out.size))
              clear HBR HBJ HXJ HK HD HJ HX
              obtain ⟨p0, p1, p2, p3, p4⟩ := VA.out.box
              have HK : Hid (∀ W, Below u34.heap.size u34 W → W.cell? ⟨w.heap.size, 0, none⟩ = some (.int .i64 L0) ∧ W.cell? ⟨w.heap.size, 1, none⟩ = some (.int .i64 s0) ∧ W.cell? ⟨w.heap.size, 2, none⟩ = some (.slice A0 n0 c0) ∧ W.cell? ⟨w.heap.size, 3, none⟩ = some (.slice F0 m0 k0)) := fun W hW => ⟨(VA.out.box.on hW).c0, (VA.out.box.on hW).c1, (VA.out.box.on hW).c2, (VA.out.box.on hW).c3⟩
              have HD : Hid (Below u34.heap.size u34 u34.drew) := (Below.refl _ _).drew
              go_wp2_with fail
              clear p0 p1 p2 p3 p4
              go_region_held3 (fun W => W.cell? ⟨w.heap.size, 0, none⟩ = some (.int .i64 L0) ∧ W.cell? ⟨w.heap.size, 1, none⟩ = some (.int .i64 s0) ∧ W.cell? ⟨w.heap.size, 2, none⟩ = some (.slice A0 n0 c0) ∧ W.cell? ⟨w.heap.size, 3, none⟩ = some (.slice F0 m0 k0))
                (first | exact HK.out _ HBR.out | exact HK.out _ HBJ.out | exact HK.out _ (Below.refl _ _).drew)
                (first | (go_at_call 23; refine (HJ2.out _ _ _ (Z.out.on HD.out) (HI.out.on HD.out)).mono ?_; rintro e u43 ⟨X43, kx43, rfl, hx, hb⟩; have HXJ := Lib.hid hx; have HBJ := Lib.hid (HD.out.trans (hb.mono HD.out.size)); clear hb hx) | (go_at_call 16; refine (HY.out _ _ X43 kx43 (VA.out.on HBJ.out).at_ HXJ.out).mono ?_; rintro e u44 ⟨rfl, hb⟩; have HBR := Lib.hid (HBJ.out.trans (hb.mono HBJ.out.size)); clear hb))
              all_goals
                have Z := Lib.hid (Z.out.on HBR.out)
                have Y := Lib.hid (Y.out.on HBR.out)
                have HI := Lib.hid (HI.out.on HBR.out)
                have VA := Lib.hid (VA.out.on HBR.out)
                have B := Lib.hid (B.out.trans (HBR.out.mono B.out.size))
                clear HBR HBJ HXJ HK HD HJ2 HY
                go_wp2
                go_ret
                exact ⟨rfl, B.out⟩
      · obtain ⟨E, hE⟩ := errV_bad gj
        have HX := Lib.hid (fun W v X k (h : DfaAt W W.heap.size v d0) (hZ : IntsAt W W.heap.size X (z1 ++ z2)) => of_gives (cz := k) h hZ hlj (ofOut_bad gj) hE)
        clear ga gj Ga fa fw hs hr hlj hg hu1 hu2 hu3 hu4 hsm hnn hl2 hlk hE hn40 HN0 hlt
        generalize z1 ++ z2 = zz at *
        generalize z1 ++ u = zu at *
        rcases hy with ⟨rfl, rfl | rfl⟩ | ⟨⟨k, rfl⟩, h80⟩
        all_goals as_aux_lemma =>
          go_enter Tryd.func5, Tryd.ntmps5
          go_wp2_with fail
          rw [← W0.out]
          clear W0
          refine (HFew.out _).mono ?_
          rintro e u1 he
          obtain ⟨xf, rfl, hof⟩ := he.out
          have hb := hof.below
          have hat := hof.at_
          obtain ⟨Lf, sf, Af, nf, cf, Ff, mf, kf, rfl⟩ := hat.form
          have Z := Lib.hid (Z.out.on hb)
          have Y := Lib.hid (Y.out.on hb)
          have VA := Lib.hid (VA.out.on hb)
          have B := Lib.hid (B.out.trans (hb.mono B.out.size))
          have HAt := Lib.hid hat
          clear he hof hb hat HFew
          go_wp2_with fail
          refine (HFact.out _ _ HAt.out).mono ?_
          rintro e u2 ⟨AHF3, cHF3, rfl, hI, hb⟩
          have HF3 := Lib.hid hI.out
          have Z := Lib.hid (Z.out.on hb)
          have Y := Lib.hid (Y.out.on hb)
          have VA := Lib.hid (VA.out.on hb)
          have B := Lib.hid (B.out.trans (hb.mono B.out.size))
          clear hb hI  HFact HAt
          go_wp2_with fail
          refine (HFi.out _ _ _ HF3.out).mono ?_
          rintro e u3 ⟨rfl, hb⟩
          have Z := Lib.hid (Z.out.on hb)
          have Y := Lib.hid (Y.out.on hb)
          have HF3 := Lib.hid (HF3.out.on hb)
          have VA := Lib.hid (VA.out.on hb)
          have B := Lib.hid (B.out.trans (hb.mono B.out.size))
          clear hb  HFi HF3
          obtain ⟨p0, p1, p2, p3, p4⟩ := VA.out.box
          go_wp2_with fail
          refine (HS.out _ _ VA.out.at_ Z.out).mono ?_
          rintro e u4 ⟨AHI, cHI, rfl, hI, hb⟩
          have HI := Lib.hid hI.out
          have Z := Lib.hid (Z.out.on hb)
          have Y := Lib.hid (Y.out.on hb)
          have VA := Lib.hid (VA.out.on hb)
          have B := Lib.hid (B.out.trans (hb.mono B.out.size))
          clear hb hI p0 p1 p2 p3 p4 HS
          have HK : Hid (∀ W, Below u4.heap.size u4 W → W.cell? ⟨w.heap.size, 0, none⟩ = some (.int .i64 L0) ∧ W.cell? ⟨w.heap.size, 1, none⟩ = some (.int .i64 s0) ∧ W.cell? ⟨w.heap.size, 2, none⟩ = some (.slice A0 n0 c0) ∧ W.cell? ⟨w.heap.size, 3, none⟩ = some (.slice F0 m0 k0)) := fun W hW => ⟨(VA.out.box.on hW).c0, (VA.out.box.on hW).c1, (VA.out.box.on hW).c2, (VA.out.box.on hW).c3⟩
          have HD : Hid (Below u4.heap.size u4 u4.drew) := (Below.refl _ _).drew
          go_wp2_with fail
          go_region_held3 (fun W => W.cell? ⟨w.heap.size, 0, none⟩ = some (.int .i64 L0) ∧ W.cell? ⟨w.heap.size, 1, none⟩ = some (.int .i64 s0) ∧ W.cell? ⟨w.heap.size, 2, none⟩ = some (.slice A0 n0 c0) ∧ W.cell? ⟨w.heap.size, 3, none⟩ = some (.slice F0 m0 k0))
            (first | exact HK.out _ HBR.out | exact HK.out _ HBJ.out | exact HK.out _ (Below.refl _ _).drew)
            (first | (go_at_call 23; refine (HJ.out _ (Z.out.on HD.out) (Y.out.on HD.out)).mono ?_; rintro e u33 ⟨X33, kx33, rfl, hx, hb⟩; have HXJ := Lib.hid hx; have HBJ := Lib.hid (HD.out.trans (hb.mono HD.out.size)); clear hb hx) | (go_at_call 16; refine (HX.out _ _ X33 kx33 (VA.out.on HBJ.out).at_ HXJ.out).mono ?_; rintro e u34 ⟨rfl, hb⟩; have HBR := Lib.hid (HBJ.out.trans (hb.mono HBJ.out.size)); clear hb))
          all_goals
            have Z := Lib.hid (Z.out.on HBR.out)
            have Y := Lib.hid (Y.out.on HBR.out)
            have HI := Lib.hid (HI.out.on HBR.out)
            have VA := Lib.hid (VA.out.on HBR.out)
            have B := Lib.hid (B.out.trans (HBR.out.mono B.out.size))
            clear HBR HBJ HXJ HK HD HJ HX
            obtain ⟨p0, p1, p2, p3, p4⟩ := VA.out.box
            have HK : Hid (∀ W, Below u34.heap.size u34 W → W.cell? ⟨w.heap.size, 0, none⟩ = some (.int .i64 L0) ∧ W.cell? ⟨w.heap.size, 1, none⟩ = some (.int .i64 s0) ∧ W.cell? ⟨w.heap.size, 2, none⟩ = some (.slice A0 n0 c0) ∧ W.cell? ⟨w.heap.size, 3, none⟩ = some (.slice F0 m0 k0)) := fun W hW => ⟨(VA.out.box.on hW).c0, (VA.out.box.on hW).c1, (VA.out.box.on hW).c2, (VA.out.box.on hW).c3⟩
            have HD : Hid (Below u34.heap.size u34 u34.drew) := (Below.refl _ _).drew
            go_wp2_with fail
            clear p0 p1 p2 p3 p4
            go_region_held3 (fun W => W.cell? ⟨w.heap.size, 0, none⟩ = some (.int .i64 L0) ∧ W.cell? ⟨w.heap.size, 1, none⟩ = some (.int .i64 s0) ∧ W.cell? ⟨w.heap.size, 2, none⟩ = some (.slice A0 n0 c0) ∧ W.cell? ⟨w.heap.size, 3, none⟩ = some (.slice F0 m0 k0))
              (first | exact HK.out _ HBR.out | exact HK.out _ HBJ.out | exact HK.out _ (Below.refl _ _).drew)
              (first | (go_at_call 23; refine (HJ2.out _ _ _ (Z.out.on HD.out) (HI.out.on HD.out)).mono ?_; rintro e u43 ⟨X43, kx43, rfl, hx, hb⟩; have HXJ := Lib.hid hx; have HBJ := Lib.hid (HD.out.trans (hb.mono HD.out.size)); clear hb hx) | (go_at_call 16; refine (HY.out _ _ X43 kx43 (VA.out.on HBJ.out).at_ HXJ.out).mono ?_; rintro e u44 ⟨rfl, hb⟩; have HBR := Lib.hid (HBJ.out.trans (hb.mono HBJ.out.size)); clear hb))
            all_goals
              have Z := Lib.hid (Z.out.on HBR.out)
              have Y := Lib.hid (Y.out.on HBR.out)
              have HI := Lib.hid (HI.out.on HBR.out)
              have VA := Lib.hid (VA.out.on HBR.out)
              have B := Lib.hid (B.out.trans (HBR.out.mono B.out.size))
              clear HBR HBJ HXJ HK HD HJ2 HY
              go_wp2
              go_ret
              exact ⟨rfl, B.out⟩
  · obtain ⟨E, hE⟩ := errV_bad ga
    have HS := Lib.hid (fun W v (h : DfaAt W W.heap.size v d0) (hZ : IntsAt W W.heap.size A1 z1) => soon_gives (cz := c1) h hZ hr (l := []) (soonOut_bad ga) hE)
    have gj : accErr d0 (z1 ++ z2) ≠ 0 := fun h => by
      obtain ⟨g, f1, f2, f3⟩ := accErr_good h
      rw [List.length_append] at f2
      exact ga (accErr_ok g ⟨f1, by omega, fun a ha => f3 a (List.mem_append_left _ ha)⟩)
    obtain ⟨E2, hE2⟩ := errV_bad gj
    have HX := Lib.hid (fun W v X k (h : DfaAt W W.heap.size v d0) (hZ : IntsAt W W.heap.size X (z1 ++ z2)) => of_gives (cz := k) h hZ hlj (ofOut_bad gj) hE2)
    clear ga gj hE hE2 hr hlj hg HN0 q1 q2
    generalize z1 ++ z2 = zz at *
    go_enter Tryd.func5, Tryd.ntmps5
    go_wp2_with fail
    rw [← W0.out]
    clear W0
    refine (HFew.out _).mono ?_
    rintro e u1 he
    obtain ⟨xf, rfl, hof⟩ := he.out
    have hb := hof.below
    have hat := hof.at_
    obtain ⟨Lf, sf, Af, nf, cf, Ff, mf, kf, rfl⟩ := hat.form
    have Z := Lib.hid (Z.out.on hb)
    have Y := Lib.hid (Y.out.on hb)
    have VA := Lib.hid (VA.out.on hb)
    have B := Lib.hid (B.out.trans (hb.mono B.out.size))
    have HAt := Lib.hid hat
    clear he hof hb hat HFew
    go_wp2_with fail
    refine (HFact.out _ _ HAt.out).mono ?_
    rintro e u2 ⟨AHF3, cHF3, rfl, hI, hb⟩
    have HF3 := Lib.hid hI.out
    have Z := Lib.hid (Z.out.on hb)
    have Y := Lib.hid (Y.out.on hb)
    have VA := Lib.hid (VA.out.on hb)
    have B := Lib.hid (B.out.trans (hb.mono B.out.size))
    clear hb hI  HFact HAt
    go_wp2_with fail
    refine (HFi.out _ _ _ HF3.out).mono ?_
    rintro e u3 ⟨rfl, hb⟩
    have Z := Lib.hid (Z.out.on hb)
    have Y := Lib.hid (Y.out.on hb)
    have HF3 := Lib.hid (HF3.out.on hb)
    have VA := Lib.hid (VA.out.on hb)
    have B := Lib.hid (B.out.trans (hb.mono B.out.size))
    clear hb  HFi HF3
    obtain ⟨p0, p1, p2, p3, p4⟩ := VA.out.box
    go_wp2_with fail
    refine (HS.out _ _ VA.out.at_ Z.out).mono ?_
    rintro e u4 ⟨AHI, cHI, rfl, hI, hb⟩
    have HI := Lib.hid hI.out
    have Z := Lib.hid (Z.out.on hb)
    have Y := Lib.hid (Y.out.on hb)
    have VA := Lib.hid (VA.out.on hb)
    have B := Lib.hid (B.out.trans (hb.mono B.out.size))
    clear hb hI p0 p1 p2 p3 p4 HS
    have HK : Hid (∀ W, Below u4.heap.size u4 W → W.cell? ⟨w.heap.size, 0, none⟩ = some (.int .i64 L0) ∧ W.cell? ⟨w.heap.size, 1, none⟩ = some (.int .i64 s0) ∧ W.cell? ⟨w.heap.size, 2, none⟩ = some (.slice A0 n0 c0) ∧ W.cell? ⟨w.heap.size, 3, none⟩ = some (.slice F0 m0 k0)) := fun W hW => ⟨(VA.out.box.on hW).c0, (VA.out.box.on hW).c1, (VA.out.box.on hW).c2, (VA.out.box.on hW).c3⟩
    have HD : Hid (Below u4.heap.size u4 u4.drew) := (Below.refl _ _).drew
    go_wp2_with fail
    go_region_held3 (fun W => W.cell? ⟨w.heap.size, 0, none⟩ = some (.int .i64 L0) ∧ W.cell? ⟨w.heap.size, 1, none⟩ = some (.int .i64 s0) ∧ W.cell? ⟨w.heap.size, 2, none⟩ = some (.slice A0 n0 c0) ∧ W.cell? ⟨w.heap.size, 3, none⟩ = some (.slice F0 m0 k0))
      (first | exact HK.out _ HBR.out | exact HK.out _ HBJ.out | exact HK.out _ (Below.refl _ _).drew)
      (first | (go_at_call 23; refine (HJ.out _ (Z.out.on HD.out) (Y.out.on HD.out)).mono ?_; rintro e u33 ⟨X33, kx33, rfl, hx, hb⟩; have HXJ := Lib.hid hx; have HBJ := Lib.hid (HD.out.trans (hb.mono HD.out.size)); clear hb hx) | (go_at_call 16; refine (HX.out _ _ X33 kx33 (VA.out.on HBJ.out).at_ HXJ.out).mono ?_; rintro e u34 ⟨rfl, hb⟩; have HBR := Lib.hid (HBJ.out.trans (hb.mono HBJ.out.size)); clear hb))
    all_goals
      have Z := Lib.hid (Z.out.on HBR.out)
      have Y := Lib.hid (Y.out.on HBR.out)
      have HI := Lib.hid (HI.out.on HBR.out)
      have VA := Lib.hid (VA.out.on HBR.out)
      have B := Lib.hid (B.out.trans (HBR.out.mono B.out.size))
      clear HBR HBJ HXJ HK HD HJ HX
      clear HI
      go_wp2
      go_ret
      exact ⟨rfl, B.out⟩


theorem reads (os : Os) {H : Type} (enc : TypeId × Value → H) : ∃ places, DataW.whole enc Tryd.prog ((laidWorld os).forCall (fun _ _ => 0) ⟨#[], #[.agg #[.int .i64 0, .int .i64 0, .slice none 0 0, .slice none 0 0], .slice none 0 0, .slice none 0 0], []⟩).memory Tryd.f5.params.toList Rows.verdictSoonestSpec.vars false #[.agg #[.int .i64 0, .int .i64 0, .slice none 0 0, .slice none 0 0], .slice none 0 0, .slice none 0 0].toList 8 = some ([.agg [.lit (.int .i64 0), .lit (.int .i64 0), .nil, .nil], .nil, .nil], [], places) := ⟨[], by kernel_rfl⟩
set_option maxRecDepth 100000 in
theorem lifted (os : Os) (started : os.Started) (H : Type) (enc : TypeId × Value → H) (FF : Stop.Interp) :
    ReturnsInHanded {} Tryd.checked os 5 .any ((Rows.OpenSpec.upto Rows.verdictSoonestSpec).preRow enc Tryd.prog Tryd.f5 Rows.verdictSoonestUptoRow.domain false Rows.verdictSoonestUptoRow.laid) (((Rows.OpenSpec.upto Rows.verdictSoonestSpec).at FF).post enc Tryd.prog Tryd.f5 false true false false) := by
  obtain ⟨places, hx⟩ := reads os enc
  refine returnsInHanded_of_row (C := Tryd.checked) (s := Rows.OpenSpec.upto Rows.verdictSoonestSpec) own started (by kernel_rfl) Tryd.func5
    (witness_row_at (enc := enc) (C := Tryd.checked) false (laidWorld os) #[.agg #[.int .i64 0, .int .i64 0, .slice none 0 0, .slice none 0 0], .slice none 0 0, .slice none 0 0] rfl (by kernel_rfl) (by kernel_rfl) (by kernel_rfl)
      (OpenSpec.preRow_of_cond 8 hx (by kernel_rfl) (fun k hk => by cases hk; kernel_rfl) (by kernel_rfl) (laidWorld_met os _))) ?_
  intro W base args ds gs before hval0 hW hcnd hk1 hsz0 hL _ _
  have hk0 := hk1 _ rfl
  have hval : ∀ (j : Nat) t v, Tryd.f5.params[j]? = some t → args[j]? = some v → Value.okWide Tryd.prog W .any base t v := hval0
  have hsz : (DataW.weightsEach Tryd.prog (Tryd.f5.params.toList ++ Rows.verdictSoonestSpec.plain.varTypes Tryd.prog) (ds ++ gs)).all (· ≤ reachBytes) = true := hsz0
  have hW' := hW
  obtain ⟨p, q, hA0, hV0, rfl, hfz, hnd⟩ := hW
  have hV : DataW.TrodVars enc Tryd.prog W (fun _ => true) [] gs q := hV0
  have hA : DataW.TrodAll enc Tryd.prog W 0 (fun _ => true) true Tryd.f5.params.toList args.toList ds p := hA0
  rw [Tryd.params5] at hA hval hsz
  obtain ⟨v0, vs0, d0, ds0, p0, q0, hargs, rfl, rfl, h0, rr0⟩ := trodAll_cons hA
  obtain ⟨v1, vs1, d1, ds1, p1, q1, rfl, rfl, rfl, h1, rr1⟩ := trodAll_cons rr0
  obtain ⟨v2, vs2, d2, ds2, p2, q2, rfl, rfl, rfl, h2, rr2⟩ := trodAll_cons rr1
  obtain ⟨rfl, rfl, rfl⟩ := trodAll_nil rr2
  obtain rfl : args = #[v0, v1, v2] := by cases args; simp_all
  obtain ⟨rfl, rfl⟩ := trodVars_none hV
  have k0 := h0
  have lt0 : ∀ x ∈ p0, x.block < W.heap.size := by obtain ⟨m, hm⟩ := k0; exact DataW.trod_lt m _ _ _ hm
  have k1 := h1
  have lt1 : ∀ x ∈ p1, x.block < W.heap.size := by obtain ⟨m, hm⟩ := k1; exact DataW.trod_lt m _ _ _ hm
  have k2 := h2
  have lt2 : ∀ x ∈ p2, x.block < W.heap.size := by obtain ⟨m, hm⟩ := k2; exact DataW.trod_lt m _ _ _ hm
  have hu : Rows.uptoBulkAll _ ≤ 1048576 := of_decide_eq_true hk0
  obtain ⟨D0, x0⟩ : ∃ d : Df.Aut, Df.DfaAt W W.heap.size v0 d := Df.dfa_open (hval 0 25 v0 rfl rfl) h0
  obtain ⟨A1, len1, c1, rfl⟩ := okWide_slice Tryd.underlying26 (hval 1 26 v1 rfl rfl)
  obtain ⟨z1, rfl, x1, r1, m1, q1⟩ : ∃ zs : List Int, len1 = zs.length ∧ IntsAt W W.heap.size A1 zs ∧ zs.length ≤ 17592186043904 ∧ zs.length ≤ c1 ∧ zs.length ≤ 1048576 := by
    obtain ⟨fuel, hf⟩ := h1
    rcases open_ints Tryd.underlying26 Tryd.underlying3 (by kernel_rfl) hf with ⟨hcs, _⟩ | ⟨x, l, c, zs, hcs, _, hl, hm, hz, hx, hcell, hwz⟩
    · simp [Value.cells] at hcs
      obtain ⟨rfl, rfl, rfl⟩ := hcs
      exact ⟨[], rfl, IntsAt.nil _ _ _, by simp, by simp, by simp⟩
    · simp [Value.cells] at hcs
      obtain ⟨rfl, rfl, rfl⟩ := hcs
      have hd := congrArg Prod.fst hx
      simp only at hd
      have := sized_slice hsz (j := 1) (t := 26) (e := 3) rfl (by rw [hd]; rfl) Tryd.underlying26
      rw [(show Tryd.prog.bytesOf 3 = 8 by kernel_rfl)] at this
      simp only [reachBytes, lits, List.length_map, List.length_take, List.length_drop] at this
      have hz' : zs.length = c1 := by simpa using hz
      have hq : (zs.take len1).length ≤ 1048576 := by
        have h9 := le_of_slice hu 1 (es := lits .i64 (zs.take len1)) (sp := lits .i64 (zs.drop len1)) (by rw [← hd]; rfl)
        simpa [lits] using h9
      exact ⟨zs.take len1, by rw [List.length_take]; omega, intsAt_of_open hcell hwz len1, by rw [List.length_take]; omega, by rw [List.length_take]; omega, hq⟩
  obtain ⟨A2, len2, c2, rfl⟩ := okWide_slice Tryd.underlying26 (hval 2 26 v2 rfl rfl)
  obtain ⟨z2, rfl, x2, r2, m2, q2⟩ : ∃ zs : List Int, len2 = zs.length ∧ IntsAt W W.heap.size A2 zs ∧ zs.length ≤ 17592186043904 ∧ zs.length ≤ c2 ∧ zs.length ≤ 1048576 := by
    obtain ⟨fuel, hf⟩ := h2
    rcases open_ints Tryd.underlying26 Tryd.underlying3 (by kernel_rfl) hf with ⟨hcs, _⟩ | ⟨x, l, c, zs, hcs, _, hl, hm, hz, hx, hcell, hwz⟩
    · simp [Value.cells] at hcs
      obtain ⟨rfl, rfl, rfl⟩ := hcs
      exact ⟨[], rfl, IntsAt.nil _ _ _, by simp, by simp, by simp⟩
    · simp [Value.cells] at hcs
      obtain ⟨rfl, rfl, rfl⟩ := hcs
      have hd := congrArg Prod.fst hx
      simp only at hd
      have := sized_slice hsz (j := 2) (t := 26) (e := 3) rfl (by rw [hd]; rfl) Tryd.underlying26
      rw [(show Tryd.prog.bytesOf 3 = 8 by kernel_rfl)] at this
      simp only [reachBytes, lits, List.length_map, List.length_take, List.length_drop] at this
      have hz' : zs.length = c2 := by simpa using hz
      have hq : (zs.take len2).length ≤ 1048576 := by
        have h9 := le_of_slice hu 2 (es := lits .i64 (zs.take len2)) (sp := lits .i64 (zs.drop len2)) (by rw [← hd]; rfl)
        simpa [lits] using h9
      exact ⟨zs.take len2, by rw [List.length_take]; omega, intsAt_of_open hcell hwz len2, by rw [List.length_take]; omega, by rw [List.length_take]; omega, hq⟩
  clear hA0 hval0
  refine (walk v0 D0 A1 c1 z1 A2 c2 z2 W x0 x1 r1 m1 q1 x2 r2 m2 q2 (handle_of_laid hL)).mono fun e W' ⟨he, bel⟩ => ?_
  subst he
  exact ⟨_, rfl, _, _, _, [], _, [], hW', trodAll_mk1 (shut_bool Tryd.underlying4 _), (trodAll_cons_mk (Below.trod laidOut (by kernel_rfl) (of_decide_eq_true (by kernel_rfl)) k0 bel lt0) (trodAll_cons_mk (Below.trod laidOut (by kernel_rfl) (of_decide_eq_true (by kernel_rfl)) k1 bel lt1) (trodAll_cons_mk (Below.trod laidOut (by kernel_rfl) (of_decide_eq_true (by kernel_rfl)) k2 bel lt2) trodAll_mk0))), rfl, bel.frame _, fun h => by cases h⟩

theorem over : Rows.verdictSoonestUptoRow.holds Tryd.pinned (Rows.OpenSpec.upto Rows.verdictSoonestSpec) :=
  OpenClaim.holds_of_cond 5 Tryd.f5 rfl rfl rfl rfl rfl rfl rfl ⟨rfl, rfl, rfl, rfl, rfl⟩ rfl rfl rfl rfl rfl (by kernel_rfl) Tryd.func5 (by kernel_rfl)
    (of_decide_eq_true (by kernel_rfl)) (by unfold Func.isWrapper; rw [if_neg (of_decide_eq_false (by kernel_rfl))]; exact ⟨rfl, rfl⟩)
    (fun os started H enc _ FF => by rw [OpenClaim.pre_eq_preRow]; exact lifted os started H enc FF)
theorem proved : Rows.VerdictSoonestUptoCardSaid :=
  Claim7.holds_tied_plain_at .later [] [.handle] true (true, "e34c0bb72ea66d068c9c5f9a0bdeb40975989f46962b80c4834b7e61b2ae7e94") true
    over (fun _ h => by cases h) (by kernel_rfl) (fun _ h => by cases h) verdictSoonestUpto_row_tie rfl ⟨rfl, rfl⟩ (by kernel_rfl) rfl
    (fun f fn hf hfn => by
      obtain rfl : f = 5 := Option.some.inj ((show Tryd.prog.funcNamed "stileward/stilewardlaw4.VerdictSoonest" = some 5 by kernel_rfl).symm.trans hf) |>.symm
      obtain rfl : fn = Tryd.f5 := (Option.some.inj (Tryd.func5.symm.trans hfn)).symm
      exact ⟨by kernel_rfl, fun j t ht => by
        rw [Tryd.params5] at ht
        rcases j with _ | _ | _ | j
        · obtain rfl : 25 = t := by simpa using ht
          exact (show Tryd.prog.wantsStandIn 25 = false by kernel_rfl)
        · obtain rfl : 26 = t := by simpa using ht
          exact (show Tryd.prog.wantsStandIn 26 = false by kernel_rfl)
        · obtain rfl : 26 = t := by simpa using ht
          exact (show Tryd.prog.wantsStandIn 26 = false by kernel_rfl)
        · simp at ht⟩)
    (by kernel_rfl)
#print axioms proved
end Go.Proofs.YtblkaegnnokedaaDoor.verdictSoonest
