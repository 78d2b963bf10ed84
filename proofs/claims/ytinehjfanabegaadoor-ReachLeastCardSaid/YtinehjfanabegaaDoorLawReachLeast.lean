/-
  The statement ReachLeastCardSaid of this seat, proved: for every input the law returns true and its arguments read behind the call as before. Conditions: none but the row's own (each argument within the reach; the listed variable as the program lays it, tied by the given tie).
-/
import Derived.Test.YtinehjfanabegaaDoorRows
import Derived.Test.YtinehjfanabegaaDoorCards
import Derived.Test.YtinehjfanabegaaDoorTie
import Derived.SevenTiedAt
import Derived.LaidLaws
import Derived.LaidHandle
import Derived.Stop.Joined
import Derived.JoinedOf
import Derived.RowKit
import Derived.RowKitTokens
import Derived.ChangeSame
import Derived.ChangeVars
import Derived.Test.YtinehjfanabegaaDoorWords
import Derived.WalkKit
import Derived.ProofKit
import Derived.OpenShut
import Derived.ShutString
import Derived.ChangeOld
import Derived.Below
import Derived.SizedLaws
import Derived.Lib.Hide
import Derived.Test.YtinehjfanabegaaDoorLeast
import Derived.Test.YtinehjfanabegaaDoorRefWord
import Derived.Test.YtinehjfanabegaaDoorRefDfa
import Derived.Test.YtinehjfanabegaaDoorSays
namespace Go.Proofs.YtinehjfanabegaaDoor.reachLeast
open Go.ChangeShapes Go.WideShapes Go.ChangeAt Go.RowKit Go.IntWalk Go.Proofs.YtinehjfanabegaaDoor.Wd
open Go.ChangeMaps (open_string shut_string)
set_option linter.unusedVariables false

theorem own : ownKnob Tryd.prog.godebug = none := by kernel_rfl
theorem laidOut : laidOutB Tryd.prog = true := by kernel_rfl
theorem et : Tryd.prog.globalNamed "errors.errorType" = some 0 := by kernel_rfl
theorem rt : (Tryd.prog.cutTypes.find? (·.1 == "internal/reflectlite.rtype")).map (·.2) = some 177 := by kernel_rfl
theorem oneRow : ((List.range 228).filter fun t => Tryd.prog.rowNamed t [101, 114, 114, 111, 114]) = [30] := by kernel_rfl
theorem size : Tryd.prog.types.size = 228 := by kernel_rfl
/-- What the condition gives a walk: the variable's one cell. -/
theorem handle_of_laid {w : World} (h : laidMetH Tryd.prog [("errors.errorType", Rows.laid_errors_errorType)] w) : w.cell? ⟨0, 0, none⟩ = some (.iface 177 (.agg #[.pointer (some ⟨1, 30, none⟩)])) := by
  have h' : laidMet Tryd.prog [] w ∧ handlesMet Tryd.prog [("errors.errorType", Rows.laid_errors_errorType)] w := h
  obtain ⟨name, u, ty, e1, e2, e3, e4, e5⟩ := h'.2 _ (List.mem_singleton.2 rfl)
  have en : name = [101, 114, 114, 111, 114] := (Option.some.inj e1).symm
  subst en
  obtain rfl := Option.some.inj (rt.symm.trans e2)
  have hm : ty ∈ (List.range 228).filter fun t => Tryd.prog.rowNamed t [101, 114, 114, 111, 114] := List.mem_filter.2 ⟨List.mem_range.2 (by rw [← size]; exact e3), e4⟩
  rw [oneRow] at hm
  obtain rfl := List.mem_singleton.1 hm
  have hh : typeHandle Tryd.prog 30 = .pointer (some ⟨1, 30, none⟩) := by kernel_rfl
  rw [hh] at e5
  simpa using World.var?_cell et e5 0
/-- A world that meets the condition. -/
noncomputable def laidWorld (os : Os) : World :=
  let w0 := World.holding Tryd.prog os ⟨#[], #[], []⟩
  { w0 with heap := w0.heap.modify 0 fun
      | .cells _ t frozen => .cells #[.iface 177 (.agg #[.pointer (some ⟨1, 30, none⟩)])] t frozen
      | o => o }
theorem laidWorld_met (os : Os) (args : Array Value) : laidMetH Tryd.prog [("errors.errorType", Rows.laid_errors_errorType)] ((laidWorld os).forCall (fun _ _ => 0) ⟨#[], args, []⟩).memory :=
  laidMetH_of_parts (laidMet_nil _ _) (by kernel_rfl)
open Go.Proofs.YtinehjfanabegaaDoor.Wo Go.Proofs.YtinehjfanabegaaDoor.Er Go.Proofs.YtinehjfanabegaaDoor.Df Go.Proofs.YtinehjfanabegaaDoor.Rc

set_option maxRecDepth 100000 in
set_option maxHeartbeats 4000000 in
theorem walk (v0 : Value) (d0 : Df.Aut) (A1 : Option Addr) (c1 : Nat) (z1 : List Int) (w : World) (h0 : Df.DfaAt w w.heap.size v0 d0) (v1 : IntsAt w w.heap.size A1 z1) (r1 : z1.length ≤ 17592186043904) (m1 : z1.length ≤ c1) (hg : w.cell? ⟨0, 0, none⟩ = some (.iface 177 (.agg #[.pointer (some ⟨1, 30, none⟩)]))) :
    Calls Tryd.prog 9 #[v0, .slice A1 z1.length c1] w fun e w' => e = .returned (.bool true) ∧ Below w.heap.size w w' := by
  have hr : z1.length ≤ 17592186044416 := by omega
  obtain ⟨L0, s0, A0, n0, c0, F0, m0, k0, rfl⟩ := h0.form
  obtain ⟨hL0, hs0, hN0, hM0⟩ := h0.eqs
  obtain ⟨u0, hu0, hb0, VA0⟩ := var_new w h0
  have VA := Lib.hid VA0
  have B := Lib.hid hb0
  have W0 := Lib.hid hu0
  have Z := Lib.hid (v1.on hb0)
  have HSz : Hid (u0.heap.size = w.heap.size + 1) := by unfold Hid; rw [hu0]; simp
  have HF1 : Hid (∀ W v, DfaAt W W.heap.size v leastA → Calls Tryd.prog 37 #[v] W fun e w' => ∃ A c, e = .returned (.tuple #[.slice A 1 c, .nilIface]) ∧ Hid (IntsAt w' w'.heap.size A [1]) ∧ Below W.heap.size W w') := fun W v h =>
    givesI_of (l := [1]) (E := .nilIface) (out := firstOut leastA) (first_any v leastA W h) (by rw [leastFirst]; rfl) (by rw [leastFirst]) (by intro x hx; simp at hx; subst hx; exact ⟨by decide, by decide⟩)
  have HIn : Hid (∀ W A B c d, IntsAt W W.heap.size A [1] → IntsAt W W.heap.size B [1] → Calls Tryd.prog 34 #[.slice A 1 c, .slice B 1 d] W fun e w' => e = .returned (.bool true) ∧ Below W.heap.size W w') := fun W A B c d hA hB =>
    (ints_yes (n := 0) (v := [1]) (z := [1]) rfl hA hB (by decide)).mono fun e w' ⟨h1, m, h2⟩ => ⟨h1, by rw [h2]; exact below_drewN (Below.refl _ _) m⟩
  have HLs := Lib.hid (fun W A c B d y (hA : IntsAt W W.heap.size A z1) (hB : IntsAt W W.heap.size B y) (hv : z1.length ≤ 1000000) (hz : y.length ≤ 1000000) => refLess_any A c z1 B d y W hA hB hv hz)
  have HE5 := Lib.hid (fun W h => says 5 hg W h)
  clear hu0 hb0 VA0 hg h0 v1 r1 m1
  by_cases ga : accErr d0 z1 = 0
  · obtain ⟨Ga, fa⟩ := accErr_good ga
    have g1 := dchk_iff.2 Ga
    have HA := Lib.hid (fun W v (h : DfaAt W W.heap.size v d0) (hZ : IntsAt W W.heap.size A1 z1) => acc_gives (cz := c1) (E := .nilIface) h hZ hr (accOut_ok Ga fa) (congrArg errV ga))
    rcases hf : firstW d0 d0.s.toNat with _ | u
    · have hacc : accA d0 z1 = false := firstW_none Ga Ga.s_lt hf (fine_word fa)
      have HF := Lib.hid (fun W v (h : DfaAt W W.heap.size v d0) => givesI_of (l := []) (E := errV 5) (out := firstOut d0) (first_any v d0 W h) (by rw [firstOut_none g1 hf]) (by rw [firstOut_none g1 hf]) (by intro x hx; simp at hx))
      rw [hacc] at HA
      rw [show errV 5 = errI 5 from rfl] at HF HE5
      clear ga Ga fa g1 hf hacc hL0 hs0 hN0 hM0 hr HLs
      go_enter Tryd.func9, Tryd.ntmps9
      go_wp2_with fail
      rw [← W0.out]
      clear W0
      obtain ⟨u9, hu9⟩ : ∃ u9, u9 = (((u0.alloc (.cells #[.int .i64 0, .int .i64 1] 3)).alloc (.cells #[.int .i64 1, .int .i64 1] 3)).alloc (.cells #[.slice (some ⟨w.heap.size + 1, 0, none⟩) 2 2, .slice (some ⟨w.heap.size + 1 + 1, 0, none⟩) 2 2] 26)).alloc (.cells #[.bool false, .bool true] 4) := ⟨_, rfl⟩
      have ho := least_own u0 u9 (w.heap.size + 1) HSz.out.symm hu9
      rw [← hu9]
      clear hu9
      have hb := ho.below
      have HAt := Lib.hid ho.at_
      have VA := Lib.hid (VA.out.on hb)
      have Z := Lib.hid (Z.out.on hb)
      have B := Lib.hid (B.out.trans (hb.mono B.out.size))
      clear hb ho
      refine (HF1.out _ _ HAt.out).mono ?_
      rintro e u1 ⟨Af, cf, rfl, hA, hb⟩
      have VA := Lib.hid (VA.out.on hb)
      have Z := Lib.hid (Z.out.on hb)
      have B := Lib.hid (B.out.trans (hb.mono B.out.size))
      clear hb HF1 HAt
      have HIA := Lib.hid (hA.out.on (below_alloc u1 (.cells #[.int .i64 1] 3)))
      have HIB := Lib.hid (lit_one u1 1 ⟨by decide, by decide⟩)
      clear hA
      have hb := below_alloc u1 (.cells #[.int .i64 1] 3)
      have VA := Lib.hid (VA.out.on hb)
      have Z := Lib.hid (Z.out.on hb)
      have B := Lib.hid (B.out.trans (hb.mono B.out.size))
      clear hb
      go_wp2_with fail
      refine (HIn.out _ _ _ _ _ HIA.out HIB.out).mono ?_
      rintro e u2 ⟨rfl, hb⟩
      have VA := Lib.hid (VA.out.on hb)
      have Z := Lib.hid (Z.out.on hb)
      have B := Lib.hid (B.out.trans (hb.mono B.out.size))
      clear hb HIn HIA HIB
      obtain ⟨p0, p1, p2, p3, p4⟩ := VA.out.box
      go_wp2_with fail
      refine (HA.out _ _ VA.out.at_ Z.out).mono ?_
      rintro e u3 ⟨rfl, hb⟩
      have VA := Lib.hid (VA.out.on hb)
      have Z := Lib.hid (Z.out.on hb)
      have B := Lib.hid (B.out.trans (hb.mono B.out.size))
      clear hb
      clear HA p0 p1 p2 p3 p4
      obtain ⟨p0, p1, p2, p3, p4⟩ := VA.out.box
      go_wp2_with fail
      refine (HF.out _ _ VA.out.at_).mono ?_
      rintro e u4 ⟨Au, cu, rfl, hU, hb⟩
      have HU := Lib.hid hU.out
      have VA := Lib.hid (VA.out.on hb)
      have Z := Lib.hid (Z.out.on hb)
      have B := Lib.hid (B.out.trans (hb.mono B.out.size))
      clear hb hU HF p0 p1 p2 p3 p4
      clear HU
      go_wp2_with fail
      refine (HE5.out _ B.out).mono ?_
      rintro e u5 ⟨rfl, hb⟩
      have VA := Lib.hid (VA.out.on hb)
      have Z := Lib.hid (Z.out.on hb)
      have B := Lib.hid (B.out.trans (hb.mono B.out.size))
      clear hb
      clear HE5
      go_wp2
      go_ret
      exact ⟨rfl, B.out⟩
    · obtain ⟨hu1, hu2, hu3, hu4⟩ := firstW_some Ga Ga.s_lt hf
      have h40 := Ga.n40
      have hfu : Fine d0.L u := ⟨fa.1, by omega, hu1⟩
      have hsu := word_small fa.1.2 hu1
      have HF := Lib.hid (fun W v (h : DfaAt W W.heap.size v d0) => givesI_of (l := u) (E := .nilIface) (out := firstOut d0) (first_any v d0 W h) (by rw [firstOut_some g1 hf]; rfl) (by rw [firstOut_some g1 hf]) hsu)
      have hau : accA d0 u = true := hu3
      have HA2 := Lib.hid (fun W v A c (h : DfaAt W W.heap.size v d0) (hZ : IntsAt W W.heap.size A u) => acc_gives (cz := c) (E := .nilIface) h hZ (by omega) ((accOut_ok Ga hfu).trans hau) (congrArg errV (accErr_ok Ga hfu)))
      have hz80 := fa.2.1
      have HMin : Hid (accA d0 z1 = true → lss z1 u = false) := fun h => hu4 z1 (fine_word fa) h
      have hun : (u.length : Int) < (n0 : Int) := by rw [← hN0]; omega
      have hu40 : u.length ≤ 40 := by omega
      clear ga Ga fa g1 hf hL0 hs0 hN0 hM0 hr HE5 hu1 hu2 hu3 hu4 hfu hsu hau h40
      rcases hacc : accA d0 z1 with _ | _
      · rw [hacc] at HA
        clear hacc HMin HLs
        go_enter Tryd.func9, Tryd.ntmps9
        go_wp2_with fail
        rw [← W0.out]
        clear W0
        obtain ⟨u9, hu9⟩ : ∃ u9, u9 = (((u0.alloc (.cells #[.int .i64 0, .int .i64 1] 3)).alloc (.cells #[.int .i64 1, .int .i64 1] 3)).alloc (.cells #[.slice (some ⟨w.heap.size + 1, 0, none⟩) 2 2, .slice (some ⟨w.heap.size + 1 + 1, 0, none⟩) 2 2] 26)).alloc (.cells #[.bool false, .bool true] 4) := ⟨_, rfl⟩
        have ho := least_own u0 u9 (w.heap.size + 1) HSz.out.symm hu9
        rw [← hu9]
        clear hu9
        have hb := ho.below
        have HAt := Lib.hid ho.at_
        have VA := Lib.hid (VA.out.on hb)
        have Z := Lib.hid (Z.out.on hb)
        have B := Lib.hid (B.out.trans (hb.mono B.out.size))
        clear hb ho
        refine (HF1.out _ _ HAt.out).mono ?_
        rintro e u1 ⟨Af, cf, rfl, hA, hb⟩
        have VA := Lib.hid (VA.out.on hb)
        have Z := Lib.hid (Z.out.on hb)
        have B := Lib.hid (B.out.trans (hb.mono B.out.size))
        clear hb HF1 HAt
        have HIA := Lib.hid (hA.out.on (below_alloc u1 (.cells #[.int .i64 1] 3)))
        have HIB := Lib.hid (lit_one u1 1 ⟨by decide, by decide⟩)
        clear hA
        have hb := below_alloc u1 (.cells #[.int .i64 1] 3)
        have VA := Lib.hid (VA.out.on hb)
        have Z := Lib.hid (Z.out.on hb)
        have B := Lib.hid (B.out.trans (hb.mono B.out.size))
        clear hb
        go_wp2_with fail
        refine (HIn.out _ _ _ _ _ HIA.out HIB.out).mono ?_
        rintro e u2 ⟨rfl, hb⟩
        have VA := Lib.hid (VA.out.on hb)
        have Z := Lib.hid (Z.out.on hb)
        have B := Lib.hid (B.out.trans (hb.mono B.out.size))
        clear hb HIn HIA HIB
        obtain ⟨p0, p1, p2, p3, p4⟩ := VA.out.box
        go_wp2_with fail
        refine (HA.out _ _ VA.out.at_ Z.out).mono ?_
        rintro e u3 ⟨rfl, hb⟩
        have VA := Lib.hid (VA.out.on hb)
        have Z := Lib.hid (Z.out.on hb)
        have B := Lib.hid (B.out.trans (hb.mono B.out.size))
        clear hb
        clear HA p0 p1 p2 p3 p4
        obtain ⟨p0, p1, p2, p3, p4⟩ := VA.out.box
        go_wp2_with fail
        refine (HF.out _ _ VA.out.at_).mono ?_
        rintro e u4 ⟨Au, cu, rfl, hU, hb⟩
        have HU := Lib.hid hU.out
        have VA := Lib.hid (VA.out.on hb)
        have Z := Lib.hid (Z.out.on hb)
        have B := Lib.hid (B.out.trans (hb.mono B.out.size))
        clear hb hU HF p0 p1 p2 p3 p4
        obtain ⟨p0, p1, p2, p3, p4⟩ := VA.out.box
        go_wp2_with fail
        refine (HA2.out _ _ _ _ VA.out.at_ HU.out).mono ?_
        rintro e u5 ⟨rfl, hb⟩
        have VA := Lib.hid (VA.out.on hb)
        have Z := Lib.hid (Z.out.on hb)
        have HU := Lib.hid (HU.out.on hb)
        have B := Lib.hid (B.out.trans (hb.mono B.out.size))
        clear hb
        clear HA2 p0 p1 p2 p3 p4
        obtain ⟨p0, p1, p2, p3, p4⟩ := VA.out.box
        go_wp2
        go_ret
        exact ⟨rfl, B.out⟩
      · have hmin := HMin.out hacc
        rw [hacc] at HA
        clear hacc HMin
        by_cases hlt : u.length < z1.length
        · have hlt2 : (u.length : Int) < (z1.length : Int) := by omega
          clear hmin HLs
          go_enter Tryd.func9, Tryd.ntmps9
          go_wp2_with fail
          rw [← W0.out]
          clear W0
          obtain ⟨u9, hu9⟩ : ∃ u9, u9 = (((u0.alloc (.cells #[.int .i64 0, .int .i64 1] 3)).alloc (.cells #[.int .i64 1, .int .i64 1] 3)).alloc (.cells #[.slice (some ⟨w.heap.size + 1, 0, none⟩) 2 2, .slice (some ⟨w.heap.size + 1 + 1, 0, none⟩) 2 2] 26)).alloc (.cells #[.bool false, .bool true] 4) := ⟨_, rfl⟩
          have ho := least_own u0 u9 (w.heap.size + 1) HSz.out.symm hu9
          rw [← hu9]
          clear hu9
          have hb := ho.below
          have HAt := Lib.hid ho.at_
          have VA := Lib.hid (VA.out.on hb)
          have Z := Lib.hid (Z.out.on hb)
          have B := Lib.hid (B.out.trans (hb.mono B.out.size))
          clear hb ho
          refine (HF1.out _ _ HAt.out).mono ?_
          rintro e u1 ⟨Af, cf, rfl, hA, hb⟩
          have VA := Lib.hid (VA.out.on hb)
          have Z := Lib.hid (Z.out.on hb)
          have B := Lib.hid (B.out.trans (hb.mono B.out.size))
          clear hb HF1 HAt
          have HIA := Lib.hid (hA.out.on (below_alloc u1 (.cells #[.int .i64 1] 3)))
          have HIB := Lib.hid (lit_one u1 1 ⟨by decide, by decide⟩)
          clear hA
          have hb := below_alloc u1 (.cells #[.int .i64 1] 3)
          have VA := Lib.hid (VA.out.on hb)
          have Z := Lib.hid (Z.out.on hb)
          have B := Lib.hid (B.out.trans (hb.mono B.out.size))
          clear hb
          go_wp2_with fail
          refine (HIn.out _ _ _ _ _ HIA.out HIB.out).mono ?_
          rintro e u2 ⟨rfl, hb⟩
          have VA := Lib.hid (VA.out.on hb)
          have Z := Lib.hid (Z.out.on hb)
          have B := Lib.hid (B.out.trans (hb.mono B.out.size))
          clear hb HIn HIA HIB
          obtain ⟨p0, p1, p2, p3, p4⟩ := VA.out.box
          go_wp2_with fail
          refine (HA.out _ _ VA.out.at_ Z.out).mono ?_
          rintro e u3 ⟨rfl, hb⟩
          have VA := Lib.hid (VA.out.on hb)
          have Z := Lib.hid (Z.out.on hb)
          have B := Lib.hid (B.out.trans (hb.mono B.out.size))
          clear hb
          clear HA p0 p1 p2 p3 p4
          obtain ⟨p0, p1, p2, p3, p4⟩ := VA.out.box
          go_wp2_with fail
          refine (HF.out _ _ VA.out.at_).mono ?_
          rintro e u4 ⟨Au, cu, rfl, hU, hb⟩
          have HU := Lib.hid hU.out
          have VA := Lib.hid (VA.out.on hb)
          have Z := Lib.hid (Z.out.on hb)
          have B := Lib.hid (B.out.trans (hb.mono B.out.size))
          clear hb hU HF p0 p1 p2 p3 p4
          obtain ⟨p0, p1, p2, p3, p4⟩ := VA.out.box
          go_wp2_with fail
          refine (HA2.out _ _ _ _ VA.out.at_ HU.out).mono ?_
          rintro e u5 ⟨rfl, hb⟩
          have VA := Lib.hid (VA.out.on hb)
          have Z := Lib.hid (Z.out.on hb)
          have HU := Lib.hid (HU.out.on hb)
          have B := Lib.hid (B.out.trans (hb.mono B.out.size))
          clear hb
          clear HA2 p0 p1 p2 p3 p4
          obtain ⟨p0, p1, p2, p3, p4⟩ := VA.out.box
          go_wp2
          go_ret
          exact ⟨rfl, B.out⟩
        · have hle := len_of_not_lss hmin hlt
          have hle2 := int_eq (show (u.length : Int) = (z1.length : Int) by omega)
          have hlt2 : ¬ (u.length : Int) < (z1.length : Int) := by omega
          have HMin := Lib.hid hmin
          clear hmin hle
          go_enter Tryd.func9, Tryd.ntmps9
          go_wp2_with fail
          rw [← W0.out]
          clear W0
          obtain ⟨u9, hu9⟩ : ∃ u9, u9 = (((u0.alloc (.cells #[.int .i64 0, .int .i64 1] 3)).alloc (.cells #[.int .i64 1, .int .i64 1] 3)).alloc (.cells #[.slice (some ⟨w.heap.size + 1, 0, none⟩) 2 2, .slice (some ⟨w.heap.size + 1 + 1, 0, none⟩) 2 2] 26)).alloc (.cells #[.bool false, .bool true] 4) := ⟨_, rfl⟩
          have ho := least_own u0 u9 (w.heap.size + 1) HSz.out.symm hu9
          rw [← hu9]
          clear hu9
          have hb := ho.below
          have HAt := Lib.hid ho.at_
          have VA := Lib.hid (VA.out.on hb)
          have Z := Lib.hid (Z.out.on hb)
          have B := Lib.hid (B.out.trans (hb.mono B.out.size))
          clear hb ho
          refine (HF1.out _ _ HAt.out).mono ?_
          rintro e u1 ⟨Af, cf, rfl, hA, hb⟩
          have VA := Lib.hid (VA.out.on hb)
          have Z := Lib.hid (Z.out.on hb)
          have B := Lib.hid (B.out.trans (hb.mono B.out.size))
          clear hb HF1 HAt
          have HIA := Lib.hid (hA.out.on (below_alloc u1 (.cells #[.int .i64 1] 3)))
          have HIB := Lib.hid (lit_one u1 1 ⟨by decide, by decide⟩)
          clear hA
          have hb := below_alloc u1 (.cells #[.int .i64 1] 3)
          have VA := Lib.hid (VA.out.on hb)
          have Z := Lib.hid (Z.out.on hb)
          have B := Lib.hid (B.out.trans (hb.mono B.out.size))
          clear hb
          go_wp2_with fail
          refine (HIn.out _ _ _ _ _ HIA.out HIB.out).mono ?_
          rintro e u2 ⟨rfl, hb⟩
          have VA := Lib.hid (VA.out.on hb)
          have Z := Lib.hid (Z.out.on hb)
          have B := Lib.hid (B.out.trans (hb.mono B.out.size))
          clear hb HIn HIA HIB
          obtain ⟨p0, p1, p2, p3, p4⟩ := VA.out.box
          go_wp2_with fail
          refine (HA.out _ _ VA.out.at_ Z.out).mono ?_
          rintro e u3 ⟨rfl, hb⟩
          have VA := Lib.hid (VA.out.on hb)
          have Z := Lib.hid (Z.out.on hb)
          have B := Lib.hid (B.out.trans (hb.mono B.out.size))
          clear hb
          clear HA p0 p1 p2 p3 p4
          obtain ⟨p0, p1, p2, p3, p4⟩ := VA.out.box
          go_wp2_with fail
          refine (HF.out _ _ VA.out.at_).mono ?_
          rintro e u4 ⟨Au, cu, rfl, hU, hb⟩
          have HU := Lib.hid hU.out
          have VA := Lib.hid (VA.out.on hb)
          have Z := Lib.hid (Z.out.on hb)
          have B := Lib.hid (B.out.trans (hb.mono B.out.size))
          clear hb hU HF p0 p1 p2 p3 p4
          obtain ⟨p0, p1, p2, p3, p4⟩ := VA.out.box
          go_wp2_with fail
          refine (HA2.out _ _ _ _ VA.out.at_ HU.out).mono ?_
          rintro e u5 ⟨rfl, hb⟩
          have VA := Lib.hid (VA.out.on hb)
          have Z := Lib.hid (Z.out.on hb)
          have HU := Lib.hid (HU.out.on hb)
          have B := Lib.hid (B.out.trans (hb.mono B.out.size))
          clear hb
          clear HA2 p0 p1 p2 p3 p4
          obtain ⟨p0, p1, p2, p3, p4⟩ := VA.out.box
          go_wp2_with fail
          refine (HLs.out _ _ _ _ _ _ Z.out HU.out (by omega) (by omega)).mono ?_
          rintro e u7 ⟨he, m7, rfl⟩
          obtain rfl : e = .returned (.bool false) := by rw [he.out, HMin.out]
          clear he
          go_wp2
          go_ret
          exact ⟨rfl, below_drewN B.out _⟩
  · obtain ⟨E, hE⟩ := errV_bad ga
    have HA := Lib.hid (fun W v (h : DfaAt W W.heap.size v d0) (hZ : IntsAt W W.heap.size A1 z1) => acc_gives (cz := c1) h hZ hr (b := accOut d0 z1) rfl hE)
    have HF := Lib.hid (fun W v (h : DfaAt W W.heap.size v d0) => givesI_of (l := (firstOut d0).1) (E := errV (firstOut d0).2) (out := firstOut d0) (first_any v d0 W h) rfl rfl (firstOut_small d0))
    clear ga hE hL0 hs0 hN0 hM0 hr HLs HE5
    generalize accOut d0 z1 = b at *
    generalize (firstOut d0).1 = u at *
    generalize errV (firstOut d0).2 = E2 at *
    go_enter Tryd.func9, Tryd.ntmps9
    go_wp2_with fail
    rw [← W0.out]
    clear W0
    obtain ⟨u9, hu9⟩ : ∃ u9, u9 = (((u0.alloc (.cells #[.int .i64 0, .int .i64 1] 3)).alloc (.cells #[.int .i64 1, .int .i64 1] 3)).alloc (.cells #[.slice (some ⟨w.heap.size + 1, 0, none⟩) 2 2, .slice (some ⟨w.heap.size + 1 + 1, 0, none⟩) 2 2] 26)).alloc (.cells #[.bool false, .bool true] 4) := ⟨_, rfl⟩
    have ho := least_own u0 u9 (w.heap.size + 1) HSz.out.symm hu9
    rw [← hu9]
    clear hu9
    have hb := ho.below
    have HAt := Lib.hid ho.at_
    have VA := Lib.hid (VA.out.on hb)
    have Z := Lib.hid (Z.out.on hb)
    have B := Lib.hid (B.out.trans (hb.mono B.out.size))
    clear hb ho
    refine (HF1.out _ _ HAt.out).mono ?_
    rintro e u1 ⟨Af, cf, rfl, hA, hb⟩
    have VA := Lib.hid (VA.out.on hb)
    have Z := Lib.hid (Z.out.on hb)
    have B := Lib.hid (B.out.trans (hb.mono B.out.size))
    clear hb HF1 HAt
    have HIA := Lib.hid (hA.out.on (below_alloc u1 (.cells #[.int .i64 1] 3)))
    have HIB := Lib.hid (lit_one u1 1 ⟨by decide, by decide⟩)
    clear hA
    have hb := below_alloc u1 (.cells #[.int .i64 1] 3)
    have VA := Lib.hid (VA.out.on hb)
    have Z := Lib.hid (Z.out.on hb)
    have B := Lib.hid (B.out.trans (hb.mono B.out.size))
    clear hb
    go_wp2_with fail
    refine (HIn.out _ _ _ _ _ HIA.out HIB.out).mono ?_
    rintro e u2 ⟨rfl, hb⟩
    have VA := Lib.hid (VA.out.on hb)
    have Z := Lib.hid (Z.out.on hb)
    have B := Lib.hid (B.out.trans (hb.mono B.out.size))
    clear hb HIn HIA HIB
    obtain ⟨p0, p1, p2, p3, p4⟩ := VA.out.box
    go_wp2_with fail
    refine (HA.out _ _ VA.out.at_ Z.out).mono ?_
    rintro e u3 ⟨rfl, hb⟩
    have VA := Lib.hid (VA.out.on hb)
    have Z := Lib.hid (Z.out.on hb)
    have B := Lib.hid (B.out.trans (hb.mono B.out.size))
    clear hb
    clear HA p0 p1 p2 p3 p4
    obtain ⟨p0, p1, p2, p3, p4⟩ := VA.out.box
    go_wp2_with fail
    refine (HF.out _ _ VA.out.at_).mono ?_
    rintro e u4 ⟨Au, cu, rfl, hU, hb⟩
    have HU := Lib.hid hU.out
    have VA := Lib.hid (VA.out.on hb)
    have Z := Lib.hid (Z.out.on hb)
    have B := Lib.hid (B.out.trans (hb.mono B.out.size))
    clear hb hU HF p0 p1 p2 p3 p4
    clear HU
    go_wp2
    go_ret
    exact ⟨rfl, B.out⟩


set_option maxRecDepth 100000 in
theorem lifted (os : Os) (started : os.Started) (H : Type) (enc : TypeId × Value → H) :
    ReturnsInHanded {} Tryd.checked os 9 .any (fun w args => (Rows.reachLeastSpec.pre enc Tryd.prog Tryd.f9 Rows.reachLeastRow.domain false w args ∧ laidMetH Tryd.prog [("errors.errorType", Rows.laid_errors_errorType)] w) ∧ sizedMet enc Tryd.prog Tryd.f9 (OpenSpec.ofChange Rows.reachLeastSpec) false w args) (Rows.reachLeastSpec.post enc Tryd.prog Tryd.f9 false true false false) := by
  refine returnsInHanded_of_change_and (C := Tryd.checked) (X := fun w _ => laidMetH Tryd.prog [("errors.errorType", Rows.laid_errors_errorType)] w) (fun _ _ _ hh h => h.of_heap hh) own started (by kernel_rfl) Tryd.func9
    (ChangeSpec.witness_at (enc := enc) (C := Tryd.checked) (os := os) (X := fun w _ => laidMetH Tryd.prog [("errors.errorType", Rows.laid_errors_errorType)] w) false (laidWorld os) #[.agg #[.int .i64 0, .int .i64 0, .slice none 0 0, .slice none 0 0], .slice none 0 0] 8 rfl (by kernel_rfl) (by kernel_rfl) (by kernel_rfl) (by kernel_rfl) (by kernel_rfl) (laidWorld_met os _)) ?_
  intro W base args ds gs before hval0 hW hcnd hsz0 hL _
  have hval : ∀ (j : Nat) t v, Tryd.f9.params[j]? = some t → args[j]? = some v → Value.okWide Tryd.prog W .any base t v := hval0
  have hsz : (DataW.weightsEach Tryd.prog (Tryd.f9.params.toList ++ Rows.reachLeastSpec.plain.varTypes Tryd.prog) (ds ++ gs)).all (· ≤ reachBytes) = true := hsz0
  have hW' := hW
  obtain ⟨p, q, hA0, hV0, rfl, hfz, hnd⟩ := hW
  have hV : DataW.TrodVars enc Tryd.prog W (fun _ => true) [] gs q := hV0
  have hA : DataW.TrodAll enc Tryd.prog W 0 (fun _ => true) true Tryd.f9.params.toList args.toList ds p := hA0
  rw [Tryd.params9] at hA hval hsz
  obtain ⟨v0, vs0, d0, ds0, p0, q0, hargs, rfl, rfl, h0, rr0⟩ := trodAll_cons hA
  obtain ⟨v1, vs1, d1, ds1, p1, q1, rfl, rfl, rfl, h1, rr1⟩ := trodAll_cons rr0
  obtain ⟨rfl, rfl, rfl⟩ := trodAll_nil rr1
  obtain rfl : args = #[v0, v1] := by cases args; simp_all
  obtain ⟨rfl, rfl⟩ := trodVars_none hV
  have k0 := h0
  have lt0 : ∀ x ∈ p0, x.block < W.heap.size := by obtain ⟨m, hm⟩ := k0; exact DataW.trod_lt m _ _ _ hm
  have k1 := h1
  have lt1 : ∀ x ∈ p1, x.block < W.heap.size := by obtain ⟨m, hm⟩ := k1; exact DataW.trod_lt m _ _ _ hm
  obtain ⟨D0, x0⟩ : ∃ d : Df.Aut, Df.DfaAt W W.heap.size v0 d := Df.dfa_open (hval 0 25 v0 rfl rfl) h0
  obtain ⟨A1, len1, c1, rfl⟩ := okWide_slice Tryd.underlying26 (hval 1 26 v1 rfl rfl)
  obtain ⟨z1, rfl, x1, r1, m1⟩ : ∃ zs : List Int, len1 = zs.length ∧ IntsAt W W.heap.size A1 zs ∧ zs.length ≤ 17592186043904 ∧ zs.length ≤ c1 := by
    obtain ⟨fuel, hf⟩ := h1
    rcases open_ints Tryd.underlying26 Tryd.underlying3 (by kernel_rfl) hf with ⟨hcs, _⟩ | ⟨x, l, c, zs, hcs, _, hl, hm, hz, hx, hcell, hwz⟩
    · simp [Value.cells] at hcs
      obtain ⟨rfl, rfl, rfl⟩ := hcs
      exact ⟨[], rfl, IntsAt.nil _ _ _, by simp, by simp⟩
    · simp [Value.cells] at hcs
      obtain ⟨rfl, rfl, rfl⟩ := hcs
      have hd := congrArg Prod.fst hx
      simp only at hd
      have := sized_slice hsz (j := 1) (t := 26) (e := 3) rfl (by rw [hd]; rfl) Tryd.underlying26
      rw [(show Tryd.prog.bytesOf 3 = 8 by kernel_rfl)] at this
      simp only [reachBytes, lits, List.length_map, List.length_take, List.length_drop] at this
      have hz' : zs.length = c1 := by simpa using hz
      exact ⟨zs.take len1, by rw [List.length_take]; omega, intsAt_of_open hcell hwz len1, by rw [List.length_take]; omega, by rw [List.length_take]; omega⟩
  clear hA0 hval0
  refine (walk v0 D0 A1 c1 z1 W x0 x1 r1 m1 (handle_of_laid hL)).mono fun e W' ⟨he, bel⟩ => ?_
  subst he
  exact ⟨_, rfl, _, _, _, [], _, [], hW', trodAll_mk1 (shut_bool Tryd.underlying4 _), (trodAll_cons_mk (Below.trod laidOut (by kernel_rfl) (of_decide_eq_true (by kernel_rfl)) k0 bel lt0) (trodAll_cons_mk (Below.trod laidOut (by kernel_rfl) (of_decide_eq_true (by kernel_rfl)) k1 bel lt1) trodAll_mk0)), rfl, bel.frame _, fun h => by cases h⟩

theorem over : Rows.reachLeastRow.holds Tryd.pinned (OpenSpec.ofChange Rows.reachLeastSpec) :=
  OpenClaim.holds_of_wide 9 Tryd.f9 rfl rfl rfl rfl rfl rfl rfl ⟨rfl, rfl, rfl, rfl, rfl⟩ rfl rfl rfl rfl rfl (by kernel_rfl) Tryd.func9 (by kernel_rfl)
    (of_decide_eq_true (by kernel_rfl)) (by unfold Func.isWrapper; rw [if_neg (of_decide_eq_false (by kernel_rfl))]; exact ⟨rfl, rfl⟩)
    (fun os started H enc _ => lifted os started H enc)
theorem proved : Rows.ReachLeastCardSaid :=
  Claim7.holds_tied_plain_at .later [] [.handle] true (true, "79422bc317647e98da3515ddd54c616c62872d918dc64e134f53a2f36d3d9ecc") true
    over (fun _ h => by cases h) (by kernel_rfl) (fun _ h => by cases h) reachLeast_row_tie rfl ⟨rfl, rfl⟩ (by kernel_rfl) rfl
    (fun f fn hf hfn => by
      obtain rfl : f = 9 := Option.some.inj ((show Tryd.prog.funcNamed "stileward/stilewardlaw2.ReachLeast" = some 9 by kernel_rfl).symm.trans hf) |>.symm
      obtain rfl : fn = Tryd.f9 := (Option.some.inj (Tryd.func9.symm.trans hfn)).symm
      exact ⟨by kernel_rfl, fun j t ht => by
        rw [Tryd.params9] at ht
        rcases j with _ | _ | j
        · obtain rfl : 25 = t := by simpa using ht
          exact (show Tryd.prog.wantsStandIn 25 = false by kernel_rfl)
        · obtain rfl : 26 = t := by simpa using ht
          exact (show Tryd.prog.wantsStandIn 26 = false by kernel_rfl)
        · simp at ht⟩)
    (by kernel_rfl)
#print axioms proved
end Go.Proofs.YtinehjfanabegaaDoor.reachLeast
