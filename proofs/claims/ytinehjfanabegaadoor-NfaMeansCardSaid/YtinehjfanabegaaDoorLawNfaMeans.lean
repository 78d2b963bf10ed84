/-
  The statement NfaMeansCardSaid of this seat, proved: for every input the law returns true and its arguments read behind the call as before. Conditions: none but the row's own (each argument within the reach; the listed variable as the program lays it, tied by the given tie).
-/
import Derived.Test.YtinehjfanabegaaDoorRows
import Derived.Test.YtinehjfanabegaaDoorCards
import Derived.Test.YtinehjfanabegaaDoorTie
import Derived.SevenTiedAt
import Derived.LaidLaws
import Derived.LaidHandle
import Derived.Stop.Joined
import Derived.JoinedOf
import Derived.RowKit
import Derived.RowKitTokens
import Derived.ChangeSame
import Derived.ChangeVars
import Derived.Test.YtinehjfanabegaaDoorWords
import Derived.WalkKit
import Derived.ProofKit
import Derived.OpenShut
import Derived.ShutString
import Derived.ChangeOld
import Derived.Below
import Derived.SizedLaws
import Derived.Lib.Hide
import Derived.Test.YtinehjfanabegaaDoorNfaV
import Derived.Test.YtinehjfanabegaaDoorSays
import Derived.Test.YtinehjfanabegaaDoorWordL
namespace Go.Proofs.YtinehjfanabegaaDoor.nfaMeans
open Go.ChangeShapes Go.WideShapes Go.ChangeAt Go.RowKit Go.IntWalk Go.Proofs.YtinehjfanabegaaDoor.Wd
open Go.ChangeMaps (open_string shut_string)
set_option linter.unusedVariables false

theorem own : ownKnob Tryd.prog.godebug = none := by kernel_rfl
theorem laidOut : laidOutB Tryd.prog = true := by kernel_rfl
theorem et : Tryd.prog.globalNamed "errors.errorType" = some 0 := by kernel_rfl
theorem rt : (Tryd.prog.cutTypes.find? (·.1 == "internal/reflectlite.rtype")).map (·.2) = some 177 := by kernel_rfl
theorem oneRow : ((List.range 228).filter fun t => Tryd.prog.rowNamed t [101, 114, 114, 111, 114]) = [30] := by kernel_rfl
theorem size : Tryd.prog.types.size = 228 := by kernel_rfl
/-- What the condition gives a walk: the variable's one cell. -/
theorem handle_of_laid {w : World} (h : laidMetH Tryd.prog [("errors.errorType", Rows.laid_errors_errorType)] w) : w.cell? ⟨0, 0, none⟩ = some (.iface 177 (.agg #[.pointer (some ⟨1, 30, none⟩)])) := by
  have h' : laidMet Tryd.prog [] w ∧ handlesMet Tryd.prog [("errors.errorType", Rows.laid_errors_errorType)] w := h
  obtain ⟨name, u, ty, e1, e2, e3, e4, e5⟩ := h'.2 _ (List.mem_singleton.2 rfl)
  have en : name = [101, 114, 114, 111, 114] := (Option.some.inj e1).symm
  subst en
  obtain rfl := Option.some.inj (rt.symm.trans e2)
  have hm : ty ∈ (List.range 228).filter fun t => Tryd.prog.rowNamed t [101, 114, 114, 111, 114] := List.mem_filter.2 ⟨List.mem_range.2 (by rw [← size]; exact e3), e4⟩
  rw [oneRow] at hm
  obtain rfl := List.mem_singleton.1 hm
  have hh : typeHandle Tryd.prog 30 = .pointer (some ⟨1, 30, none⟩) := by kernel_rfl
  rw [hh] at e5
  simpa using World.var?_cell et e5 0
/-- A world that meets the condition. -/
noncomputable def laidWorld (os : Os) : World :=
  let w0 := World.holding Tryd.prog os ⟨#[], #[], []⟩
  { w0 with heap := w0.heap.modify 0 fun
      | .cells _ t frozen => .cells #[.iface 177 (.agg #[.pointer (some ⟨1, 30, none⟩)])] t frozen
      | o => o }
theorem laidWorld_met (os : Os) (args : Array Value) : laidMetH Tryd.prog [("errors.errorType", Rows.laid_errors_errorType)] ((laidWorld os).forCall (fun _ _ => 0) ⟨#[], args, []⟩).memory :=
  laidMetH_of_parts (laidMet_nil _ _) (by kernel_rfl)
open Go.Proofs.YtinehjfanabegaaDoor.Wo Go.Proofs.YtinehjfanabegaaDoor.Er Go.Proofs.YtinehjfanabegaaDoor.Df
def closedN : Nf.Nfa := ⟨1, 2, [0], [(0, 0, 1)], [1]⟩
theorem closed_at (u : World) (g : Nat) (hg : g = u.heap.size) :
    ∃ u5, u5 = ((((u.alloc (.cells #[.int .i64 0] 3)).alloc (.cells #[.int .i64 0, .int .i64 0, .int .i64 1] 79)).alloc (.cells #[.int .i64 1] 3)).alloc
      (.cells #[.int .i64 1, .int .i64 2, .slice (some ⟨g, 0, none⟩) 1 1, .slice (some ⟨g + 1, 0, none⟩) 1 1, .slice (some ⟨g + 1 + 1, 0, none⟩) 1 1] 64)).alloc (.cells #[.int .i64 0] 3) ∧
    Below u.heap.size u u5 ∧ Nf.NfaAt u5 u5.heap.size (.agg #[.int .i64 1, .int .i64 2, .slice (some ⟨g, 0, none⟩) 1 1, .slice (some ⟨g + 1, 0, none⟩) 1 1, .slice (some ⟨g + 1 + 1, 0, none⟩) 1 1]) closedN ∧
    IntsAt u5 u5.heap.size (some ⟨g + 1 + 1 + 1 + 1, 0, none⟩) [0] := by
  have h1 := (own_start u).lit 3 1 1 #[.int .i64 0] rfl (by simp [maxLen])
  have h2 := h1.lit 79 3 1 #[.int .i64 0, .int .i64 0, .int .i64 1] rfl (by simp [maxLen])
  have h3 := h2.lit 3 1 1 #[.int .i64 1] rfl (by simp [maxLen])
  have h4 := Nf.own_nfa_new h3 (.int .i64 1) (.int .i64 2) (.slice (some ⟨g, 0, none⟩) 1 1) (.slice (some ⟨g + 1, 0, none⟩) 1 1) (.slice (some ⟨g + 1 + 1, 0, none⟩) 1 1)
  have h5 := h4.lit 3 1 1 #[.int .i64 0] rfl (by simp [maxLen])
  have hal : ∀ (w : World) (o : Obj), (w.alloc o).heap.size = w.heap.size + 1 := fun w o => by simp
  simp only [hal] at h5
  rw [← hg] at h5
  refine ⟨_, rfl, h5.below, ?_, ?_⟩
  · exact Nf.own_reads (a := closedN) h5 (by simp [closedN, eInts, i64]) (by simp [closedN, Nf.eMoves, Nf.mcells, i64]) (by simp [closedN, eInts, i64]) ⟨by decide, by decide⟩ ⟨by decide, by decide⟩ (by intro x hx; simp [closedN] at hx; subst hx; exact ⟨by decide, by decide⟩) (by intro m hm; simp [closedN] at hm; subst hm; exact ⟨⟨by decide, by decide⟩, ⟨by decide, by decide⟩, ⟨by decide, by decide⟩⟩) (by intro x hx; simp [closedN] at hx; subst hx; exact ⟨by decide, by decide⟩)
  · obtain ⟨A, c, e, _, _, h9⟩ := own_ints_at (v := .slice (some ⟨g + 1 + 1 + 1 + 1, 0, none⟩) 1 1) (l := [0]) h5 (by simp [eInts, i64]) (by intro x hx; simp at hx; subst hx; exact ⟨by decide, by decide⟩)
    simp only [Value.slice.injEq] at e
    rw [e.1]; exact h9
theorem closed_err : Nf.naErr closedN [0] = 0 := by kernel_rfl
theorem closed_out : Nf.naOut closedN [0] = true := by kernel_rfl
theorem full_err (W : World) {w : World} (hg : w.cell? ⟨0, 0, none⟩ = some (.iface 177 (.agg #[.pointer (some ⟨1, 30, none⟩)]))) (hb : Below w.heap.size w W) :
    Calls Tryd.prog 17 #[errI 4, .int .i64 4] W fun r w' => r = .returned (.bool true) ∧ Below W.heap.size W w' := says 4 hg W hb

set_option maxRecDepth 100000 in
set_option maxHeartbeats 4000000 in
theorem walk (v0 : Value) (n0 : Nf.Nfa) (A1 : Option Addr) (c1 : Nat) (z1 : List Int) (w : World) (h0 : Nf.NfaAt w w.heap.size v0 n0) (v1 : IntsAt w w.heap.size A1 z1) (r1 : z1.length ≤ 17592186043904) (m1 : z1.length ≤ c1) (hg : w.cell? ⟨0, 0, none⟩ = some (.iface 177 (.agg #[.pointer (some ⟨1, 30, none⟩)]))) :
    Calls Tryd.prog 15 #[v0, .slice A1 z1.length c1] w fun e w' => e = .returned (.bool true) ∧ Below w.heap.size w w' := by
  have hr : z1.length ≤ 17592186044416 := by omega
  obtain ⟨L0, s0, A0, a0, c0, M0, b0, e0, F0, m0, k0, rfl⟩ := h0.form
  obtain ⟨ux, hux, hbx, VX0⟩ := Nf.varN_new w h0
  obtain ⟨uc, huc, hbc, hcl, hcw⟩ := closed_at ux (w.heap.size + 1) (by rw [hux]; simp)
  have VX := Lib.hid (VX0.on hbc)
  have B := Lib.hid (hbx.trans (hbc.mono hbx.size))
  have Z := Lib.hid ((v1.on hbx).on hbc)
  have CL := Lib.hid hcl
  have CW := Lib.hid hcw
  have W0 : Hid (uc = (((((w.alloc (.cells #[.int .i64 L0, .int .i64 s0, .slice A0 a0 c0, .slice M0 b0 e0, .slice F0 m0 k0] 64)).alloc (.cells #[.int .i64 0] 3)).alloc (.cells #[.int .i64 0, .int .i64 0, .int .i64 1] 79)).alloc (.cells #[.int .i64 1] 3)).alloc (.cells #[.int .i64 1, .int .i64 2, .slice (some ⟨w.heap.size + 1, 0, none⟩) 1 1, .slice (some ⟨w.heap.size + 1 + 1, 0, none⟩) 1 1, .slice (some ⟨w.heap.size + 1 + 1 + 1, 0, none⟩) 1 1] 64)).alloc (.cells #[.int .i64 0] 3)) := by rw [Hid, ← hux]; exact huc
  have HCl := Lib.hid (fun W v Z c (h : Nf.NfaAt W W.heap.size v closedN) (hZ : IntsAt W W.heap.size Z [0]) => Nf.nacc_gives (cz := c) (E := .nilIface) h hZ (by simp) closed_out (congrArg errV closed_err))
  have HFull := Lib.hid (fun W (hb : Below w.heap.size w W) => full_err W hg hb)
  clear hux hbx VX0 huc hbc hcl hcw h0 v1 r1 m1 hg
  by_cases ga : Nf.naErr n0 z1 = 0
  · obtain ⟨Ga, fa⟩ := Nf.naErr_zero.1 ga
    have gn := Nf.nchk_iff.2 Ga
    have HA := Lib.hid (fun W v (h : Nf.NfaAt W W.heap.size v n0) (hZ : IntsAt W W.heap.size A1 z1) => Nf.nacc_gives (cz := c1) (E := .nilIface) h hZ hr (Nf.naOut_ok Ga fa) (congrArg errV ga))
    rcases hf : found (Nf.T n0) (Nf.beg n0) with _ | l
    · have HMk := Lib.hid (fun W v (h : Nf.NfaAt W W.heap.size v n0) => Nf.nmake_gives (E := errI 4) h ((Nf.makeOut_ok gn).trans (explOut_none hf)) rfl)
      clear ga Ga fa gn hf hr
      generalize Nf.accN n0 z1 = bb at *
      go_enter Tryd.func15, Tryd.ntmps15
      go_wp2_with fail
      rw [← W0.out]
      clear W0
      refine (HCl.out _ _ _ _ CL.out CW.out).mono ?_
      rintro e u1 ⟨rfl, hb⟩
      have VX := Lib.hid (VX.out.on hb)
      have Z := Lib.hid (Z.out.on hb)
      have B := Lib.hid (B.out.trans (hb.mono B.out.size))
      clear hb 
      clear HCl CL CW
      obtain ⟨p0, p1, p2, p3, p4, p5⟩ := VX.out.box
      go_wp2_with fail
      refine (HA.out _ _ VX.out.at_ Z.out).mono ?_
      rintro e u2 ⟨rfl, hb⟩
      have VX := Lib.hid (VX.out.on hb)
      have Z := Lib.hid (Z.out.on hb)
      have B := Lib.hid (B.out.trans (hb.mono B.out.size))
      clear hb p0 p1 p2 p3 p4 p5 HA
      obtain ⟨p0, p1, p2, p3, p4, p5⟩ := VX.out.box
      go_wp2_with fail
      refine (HMk.out _ _ VX.out.at_).mono ?_
      rintro e u3 ⟨L13, s13, A13, n13, c13, F13, m13, k13, rfl, hd, hb⟩
      have VX := Lib.hid (VX.out.on hb)
      have Z := Lib.hid (Z.out.on hb)
      have B := Lib.hid (B.out.trans (hb.mono B.out.size))
      clear hb p0 p1 p2 p3 p4 p5 HMk
      obtain ⟨x3, hx3, hbn, Vn⟩ := var_new u3 hd.out
      have HX := Lib.hid hx3
      have Vn := Lib.hid Vn
      have VX := Lib.hid (VX.out.on hbn)
      have Z := Lib.hid (Z.out.on hbn)
      have B := Lib.hid (B.out.trans (hbn.mono B.out.size))
      clear hbn hd hx3
      go_wp2_with fail
      rw [← HX.out]
      clear HX
      clear Vn
      refine (HFull.out _ B.out).mono ?_
      rintro e u4 ⟨rfl, hb⟩
      clear VX Z
      have B := Lib.hid (B.out.trans (hb.mono B.out.size))
      clear hb  HFull
      go_wp2
      go_ret
      exact ⟨rfl, B.out⟩
    · have gm := Nf.make_good Ga hf
      have fm : Fine (Nf.makeA n0 l).L z1 := fa
      have HMk := Lib.hid (fun W v (h : Nf.NfaAt W W.heap.size v n0) => Nf.nmake_gives (E := .nilIface) h ((Nf.makeOut_ok gn).trans (explOut_some hf)) rfl)
      have HAd := Lib.hid (fun W v (h : DfaAt W W.heap.size v (Nf.makeA n0 l)) (hZ : IntsAt W W.heap.size A1 z1) => acc_gives (cz := c1) (E := .nilIface) h hZ hr ((accOut_ok gm fm).trans (Nf.make_acc Ga hf (fine_word fa))) (congrArg errV (accErr_ok gm fm)))
      rw [show autOf n0.L (Nf.T n0) l (Nf.finN n0) = Nf.makeA n0 l from rfl] at HMk
      clear ga Ga fa gn hf hr gm fm
      generalize Nf.accN n0 z1 = bb at *
      generalize Nf.makeA n0 l = T at *
      have hbb : (bb == bb) = true := beq_self_eq_true _
      go_enter Tryd.func15, Tryd.ntmps15
      go_wp2_with fail
      rw [← W0.out]
      clear W0
      refine (HCl.out _ _ _ _ CL.out CW.out).mono ?_
      rintro e u1 ⟨rfl, hb⟩
      have VX := Lib.hid (VX.out.on hb)
      have Z := Lib.hid (Z.out.on hb)
      have B := Lib.hid (B.out.trans (hb.mono B.out.size))
      clear hb 
      clear HCl CL CW
      obtain ⟨p0, p1, p2, p3, p4, p5⟩ := VX.out.box
      go_wp2_with fail
      refine (HA.out _ _ VX.out.at_ Z.out).mono ?_
      rintro e u2 ⟨rfl, hb⟩
      have VX := Lib.hid (VX.out.on hb)
      have Z := Lib.hid (Z.out.on hb)
      have B := Lib.hid (B.out.trans (hb.mono B.out.size))
      clear hb p0 p1 p2 p3 p4 p5 HA
      obtain ⟨p0, p1, p2, p3, p4, p5⟩ := VX.out.box
      go_wp2_with fail
      refine (HMk.out _ _ VX.out.at_).mono ?_
      rintro e u3 ⟨L13, s13, A13, n13, c13, F13, m13, k13, rfl, hd, hb⟩
      have VX := Lib.hid (VX.out.on hb)
      have Z := Lib.hid (Z.out.on hb)
      have B := Lib.hid (B.out.trans (hb.mono B.out.size))
      clear hb p0 p1 p2 p3 p4 p5 HMk
      obtain ⟨x3, hx3, hbn, Vn⟩ := var_new u3 hd.out
      have HX := Lib.hid hx3
      have Vn := Lib.hid Vn
      have VX := Lib.hid (VX.out.on hbn)
      have Z := Lib.hid (Z.out.on hbn)
      have B := Lib.hid (B.out.trans (hbn.mono B.out.size))
      clear hbn hd hx3
      go_wp2_with fail
      rw [← HX.out]
      clear HX
      have VT := Vn
      clear Vn
      refine (HAd.out _ _ VT.out.at_ Z.out).mono ?_
      rintro e u4 ⟨rfl, hb⟩
      clear VX
      have VT := Lib.hid (VT.out.on hb)
      have Z := Lib.hid (Z.out.on hb)
      have B := Lib.hid (B.out.trans (hb.mono B.out.size))
      clear hb  HAd
      go_wp2
      go_ret
      exact ⟨rfl, B.out⟩
  · obtain ⟨E, hE⟩ := errV_bad ga
    have HA := Lib.hid (fun W v (h : Nf.NfaAt W W.heap.size v n0) (hZ : IntsAt W W.heap.size A1 z1) => Nf.nacc_gives (cz := c1) h hZ hr (Nf.naOut_bad ga) hE)
    have HMk := Lib.hid (fun W v (h : Nf.NfaAt W W.heap.size v n0) => Nf.nmake_gives h (r := (Nf.makeOut n0).1) (k := (Nf.makeOut n0).2) rfl rfl)
    clear ga hE hr
    generalize (Nf.makeOut n0).1 = r at *
    generalize errV (Nf.makeOut n0).2 = E2 at *
    go_enter Tryd.func15, Tryd.ntmps15
    go_wp2_with fail
    rw [← W0.out]
    clear W0
    refine (HCl.out _ _ _ _ CL.out CW.out).mono ?_
    rintro e u1 ⟨rfl, hb⟩
    have VX := Lib.hid (VX.out.on hb)
    have Z := Lib.hid (Z.out.on hb)
    have B := Lib.hid (B.out.trans (hb.mono B.out.size))
    clear hb 
    clear HCl CL CW
    obtain ⟨p0, p1, p2, p3, p4, p5⟩ := VX.out.box
    go_wp2_with fail
    refine (HA.out _ _ VX.out.at_ Z.out).mono ?_
    rintro e u2 ⟨rfl, hb⟩
    have VX := Lib.hid (VX.out.on hb)
    have Z := Lib.hid (Z.out.on hb)
    have B := Lib.hid (B.out.trans (hb.mono B.out.size))
    clear hb p0 p1 p2 p3 p4 p5 HA
    obtain ⟨p0, p1, p2, p3, p4, p5⟩ := VX.out.box
    go_wp2_with fail
    refine (HMk.out _ _ VX.out.at_).mono ?_
    rintro e u3 ⟨L13, s13, A13, n13, c13, F13, m13, k13, rfl, hd, hb⟩
    have VX := Lib.hid (VX.out.on hb)
    have Z := Lib.hid (Z.out.on hb)
    have B := Lib.hid (B.out.trans (hb.mono B.out.size))
    clear hb p0 p1 p2 p3 p4 p5 HMk
    have HY := Lib.hid (B.out.trans ((below_alloc _ (.cells #[.int .i64 L13, .int .i64 s13, .slice A13 n13 c13, .slice F13 m13 k13] 25)).mono B.out.size))
    clear hd B
    go_wp2
    go_ret
    exact ⟨rfl, HY.out⟩


set_option maxRecDepth 100000 in
theorem lifted (os : Os) (started : os.Started) (H : Type) (enc : TypeId × Value → H) :
    ReturnsInHanded {} Tryd.checked os 15 .any (fun w args => (Rows.nfaMeansSpec.pre enc Tryd.prog Tryd.f15 Rows.nfaMeansRow.domain false w args ∧ laidMetH Tryd.prog [("errors.errorType", Rows.laid_errors_errorType)] w) ∧ sizedMet enc Tryd.prog Tryd.f15 (OpenSpec.ofChange Rows.nfaMeansSpec) false w args) (Rows.nfaMeansSpec.post enc Tryd.prog Tryd.f15 false true false false) := by
  refine returnsInHanded_of_change_and (C := Tryd.checked) (X := fun w _ => laidMetH Tryd.prog [("errors.errorType", Rows.laid_errors_errorType)] w) (fun _ _ _ hh h => h.of_heap hh) own started (by kernel_rfl) Tryd.func15
    (ChangeSpec.witness_at (enc := enc) (C := Tryd.checked) (os := os) (X := fun w _ => laidMetH Tryd.prog [("errors.errorType", Rows.laid_errors_errorType)] w) false (laidWorld os) #[.agg #[.int .i64 0, .int .i64 0, .slice none 0 0, .slice none 0 0, .slice none 0 0], .slice none 0 0] 8 rfl (by kernel_rfl) (by kernel_rfl) (by kernel_rfl) (by kernel_rfl) (by kernel_rfl) (laidWorld_met os _)) ?_
  intro W base args ds gs before hval0 hW hcnd hsz0 hL _
  have hval : ∀ (j : Nat) t v, Tryd.f15.params[j]? = some t → args[j]? = some v → Value.okWide Tryd.prog W .any base t v := hval0
  have hsz : (DataW.weightsEach Tryd.prog (Tryd.f15.params.toList ++ Rows.nfaMeansSpec.plain.varTypes Tryd.prog) (ds ++ gs)).all (· ≤ reachBytes) = true := hsz0
  have hW' := hW
  obtain ⟨p, q, hA0, hV0, rfl, hfz, hnd⟩ := hW
  have hV : DataW.TrodVars enc Tryd.prog W (fun _ => true) [] gs q := hV0
  have hA : DataW.TrodAll enc Tryd.prog W 0 (fun _ => true) true Tryd.f15.params.toList args.toList ds p := hA0
  rw [Tryd.params15] at hA hval hsz
  obtain ⟨v0, vs0, d0, ds0, p0, q0, hargs, rfl, rfl, h0, rr0⟩ := trodAll_cons hA
  obtain ⟨v1, vs1, d1, ds1, p1, q1, rfl, rfl, rfl, h1, rr1⟩ := trodAll_cons rr0
  obtain ⟨rfl, rfl, rfl⟩ := trodAll_nil rr1
  obtain rfl : args = #[v0, v1] := by cases args; simp_all
  obtain ⟨rfl, rfl⟩ := trodVars_none hV
  have k0 := h0
  have lt0 : ∀ x ∈ p0, x.block < W.heap.size := by obtain ⟨m, hm⟩ := k0; exact DataW.trod_lt m _ _ _ hm
  have k1 := h1
  have lt1 : ∀ x ∈ p1, x.block < W.heap.size := by obtain ⟨m, hm⟩ := k1; exact DataW.trod_lt m _ _ _ hm
  obtain ⟨D0, x0⟩ : ∃ a : Nf.Nfa, Nf.NfaAt W W.heap.size v0 a := Nf.nfa_open (hval 0 64 v0 rfl rfl) h0
  obtain ⟨A1, len1, c1, rfl⟩ := okWide_slice Tryd.underlying26 (hval 1 26 v1 rfl rfl)
  obtain ⟨z1, rfl, x1, r1, m1⟩ : ∃ zs : List Int, len1 = zs.length ∧ IntsAt W W.heap.size A1 zs ∧ zs.length ≤ 17592186043904 ∧ zs.length ≤ c1 := by
    obtain ⟨fuel, hf⟩ := h1
    rcases open_ints Tryd.underlying26 Tryd.underlying3 (by kernel_rfl) hf with ⟨hcs, _⟩ | ⟨x, l, c, zs, hcs, _, hl, hm, hz, hx, hcell, hwz⟩
    · simp [Value.cells] at hcs
      obtain ⟨rfl, rfl, rfl⟩ := hcs
      exact ⟨[], rfl, IntsAt.nil _ _ _, by simp, by simp⟩
    · simp [Value.cells] at hcs
      obtain ⟨rfl, rfl, rfl⟩ := hcs
      have hd := congrArg Prod.fst hx
      simp only at hd
      have := sized_slice hsz (j := 1) (t := 26) (e := 3) rfl (by rw [hd]; rfl) Tryd.underlying26
      rw [(show Tryd.prog.bytesOf 3 = 8 by kernel_rfl)] at this
      simp only [reachBytes, lits, List.length_map, List.length_take, List.length_drop] at this
      have hz' : zs.length = c1 := by simpa using hz
      exact ⟨zs.take len1, by rw [List.length_take]; omega, intsAt_of_open hcell hwz len1, by rw [List.length_take]; omega, by rw [List.length_take]; omega⟩
  clear hA0 hval0
  refine (walk v0 D0 A1 c1 z1 W x0 x1 r1 m1 (handle_of_laid hL)).mono fun e W' ⟨he, bel⟩ => ?_
  subst he
  exact ⟨_, rfl, _, _, _, [], _, [], hW', trodAll_mk1 (shut_bool Tryd.underlying4 _), (trodAll_cons_mk (Below.trod laidOut (by kernel_rfl) (of_decide_eq_true (by kernel_rfl)) k0 bel lt0) (trodAll_cons_mk (Below.trod laidOut (by kernel_rfl) (of_decide_eq_true (by kernel_rfl)) k1 bel lt1) trodAll_mk0)), rfl, bel.frame _, fun h => by cases h⟩

theorem over : Rows.nfaMeansRow.holds Tryd.pinned (OpenSpec.ofChange Rows.nfaMeansSpec) :=
  OpenClaim.holds_of_wide 15 Tryd.f15 rfl rfl rfl rfl rfl rfl rfl ⟨rfl, rfl, rfl, rfl, rfl⟩ rfl rfl rfl rfl rfl (by kernel_rfl) Tryd.func15 (by kernel_rfl)
    (of_decide_eq_true (by kernel_rfl)) (by unfold Func.isWrapper; rw [if_neg (of_decide_eq_false (by kernel_rfl))]; exact ⟨rfl, rfl⟩)
    (fun os started H enc _ => lifted os started H enc)
theorem proved : Rows.NfaMeansCardSaid :=
  Claim7.holds_tied_plain_at .later [] [.handle] true (true, "79422bc317647e98da3515ddd54c616c62872d918dc64e134f53a2f36d3d9ecc") true
    over (fun _ h => by cases h) (by kernel_rfl) (fun _ h => by cases h) nfaMeans_row_tie rfl ⟨rfl, rfl⟩ (by kernel_rfl) rfl
    (fun f fn hf hfn => by
      obtain rfl : f = 15 := Option.some.inj ((show Tryd.prog.funcNamed "stileward/stilewardlaw2.NfaMeans" = some 15 by kernel_rfl).symm.trans hf) |>.symm
      obtain rfl : fn = Tryd.f15 := (Option.some.inj (Tryd.func15.symm.trans hfn)).symm
      exact ⟨by kernel_rfl, fun j t ht => by
        rw [Tryd.params15] at ht
        rcases j with _ | _ | j
        · obtain rfl : 64 = t := by simpa using ht
          exact (show Tryd.prog.wantsStandIn 64 = false by kernel_rfl)
        · obtain rfl : 26 = t := by simpa using ht
          exact (show Tryd.prog.wantsStandIn 26 = false by kernel_rfl)
        · simp at ht⟩)
    (by kernel_rfl)
#print axioms proved
end Go.Proofs.YtinehjfanabegaaDoor.nfaMeans
