/-
  The statement PastBackCardSaid of this seat, proved: for every input the law returns true and its arguments read behind the call as before. Conditions: none but the row's own (each argument within the reach; the listed variable as the program lays it, tied by the given tie).
-/
import Derived.Test.YtdkbdoogjehkfaaDoorRows
import Derived.Test.YtdkbdoogjehkfaaDoorCards
import Derived.Test.YtdkbdoogjehkfaaDoorTie
import Derived.SevenTiedAt
import Derived.LaidLaws
import Derived.LaidHandle
import Derived.LaidMore
import Derived.Lay
import Derived.MakeChecks
import Derived.Stop.Joined
import Derived.JoinedOf
import Derived.RowKit
import Derived.RowKitTokens
import Derived.ChangeSame
import Derived.ChangeVars
import Derived.Test.YtdkbdoogjehkfaaDoorWords
import Derived.WalkKit
import Derived.ProofKit
import Derived.OpenShut
import Derived.ShutString
import Derived.ChangeOld
import Derived.Below
import Derived.SizedLaws
import Derived.Lib.Hide
import Derived.Test.YtdkbdoogjehkfaaDoorBackQ
import Derived.Test.YtdkbdoogjehkfaaDoorPastW
import Derived.Test.YtdkbdoogjehkfaaDoorSays
namespace Go.Proofs.YtdkbdoogjehkfaaDoor.pastBack
open Go.ChangeShapes Go.WideShapes Go.ChangeAt Go.RowKit Go.IntWalk Go.Proofs.YtdkbdoogjehkfaaDoor.Wd
open Go.ChangeMaps (open_string shut_string)
set_option linter.unusedVariables false

theorem own : ownKnob Tryd.prog.godebug = none := by kernel_rfl
theorem laidOut : laidOutB Tryd.prog = true := by kernel_rfl
theorem et : Tryd.prog.globalNamed "errors.errorType" = some 0 := by kernel_rfl
theorem rt : (Tryd.prog.cutTypes.find? (·.1 == "internal/reflectlite.rtype")).map (·.2) = some 103 := by kernel_rfl
theorem oneRow : ((List.range 146).filter fun t => Tryd.prog.rowNamed t [101, 114, 114, 111, 114]) = [28] := by kernel_rfl
theorem size : Tryd.prog.types.size = 146 := by kernel_rfl
/-- What the condition gives a walk: the variable's one cell. -/
theorem handle_of_laid {w : World} (h : laidMetH Tryd.prog [("errors.errorType", Rows.laid_errors_errorType)] w) : w.cell? ⟨0, 0, none⟩ = some (.iface 103 (.agg #[.pointer (some ⟨1, 28, none⟩)])) := by
  have h' : laidMet Tryd.prog [] w ∧ handlesMet Tryd.prog [("errors.errorType", Rows.laid_errors_errorType)] w := h
  obtain ⟨name, u, ty, e1, e2, e3, e4, e5⟩ := h'.2 _ (List.mem_singleton.2 rfl)
  have en : name = [101, 114, 114, 111, 114] := (Option.some.inj e1).symm
  subst en
  obtain rfl := Option.some.inj (rt.symm.trans e2)
  have hm : ty ∈ (List.range 146).filter fun t => Tryd.prog.rowNamed t [101, 114, 114, 111, 114] := List.mem_filter.2 ⟨List.mem_range.2 (by rw [← size]; exact e3), e4⟩
  rw [oneRow] at hm
  obtain rfl := List.mem_singleton.1 hm
  have hh : typeHandle Tryd.prog 28 = .pointer (some ⟨1, 28, none⟩) := by kernel_rfl
  rw [hh] at e5
  simpa using World.var?_cell et e5 0
/-- A world that meets the condition. -/
noncomputable def laidWorld (os : Os) : World :=
  let w0 := World.holding Tryd.prog os ⟨#[], #[], []⟩
  { w0 with heap := w0.heap.modify 0 fun
      | .cells _ t frozen => .cells #[.iface 103 (.agg #[.pointer (some ⟨1, 28, none⟩)])] t frozen
      | o => o }
theorem laidWorld_met (os : Os) (args : Array Value) : laidMetH Tryd.prog [("errors.errorType", Rows.laid_errors_errorType)] ((laidWorld os).forCall (fun _ _ => 0) ⟨#[], args, []⟩).memory :=
  laidMetH_of_parts (laidMet_nil _ _) (by kernel_rfl)
open Go.Proofs.YtdkbdoogjehkfaaDoor.Wo Go.Proofs.YtdkbdoogjehkfaaDoor.Er Go.Proofs.YtdkbdoogjehkfaaDoor.Df Go.Proofs.YtdkbdoogjehkfaaDoor.Fm
theorem says_gives {w : World} (hg : w.cell? ⟨0, 0, none⟩ = some (.iface 103 (.agg #[.pointer (some ⟨1, 28, none⟩)]))) (e : Nat) {E : Value} {K : Int} (hE : errV e = E) (hK : (e : Int) = K) (W : World) (hb : Below w.heap.size w W) :
    Calls Tryd.prog 7 #[E, .int .i64 K] W fun r w' => r = .returned (.bool true) ∧ Below W.heap.size W w' := by
  subst hE
  subst hK
  exact says e hg W hb

set_option maxRecDepth 100000 in
set_option maxHeartbeats 4000000 in
theorem walk (a0 : Int) (A1 : Option Addr) (c1 : Nat) (z1 : List Fm.Nd) (A2 : Option Addr) (c2 : Nat) (z2 : List Int) (w : World) (l0 : -9223372036854775808 ≤ a0) (h0 : a0 ≤ 9223372036854775807) (v1 : Fm.NodesAt w w.heap.size A1 z1) (m1 : z1.length ≤ c1) (n1 : c1 ≤ 9223372036854775807) (r1 : z1.length ≤ 5864062014634) (v2 : IntsAt w w.heap.size A2 z2) (r2 : z2.length ≤ 17592186043904) (m2 : z2.length ≤ c2) (hg : w.cell? ⟨0, 0, none⟩ = some (.iface 103 (.agg #[.pointer (some ⟨1, 28, none⟩)]))) :
    Calls Tryd.prog 5 #[.int .i64 a0, .slice A1 z1.length c1, .slice A2 z2.length c2] w fun e w' => e = .returned (.bool true) ∧ Below w.heap.size w w' := by
  have hL : Small a0 := ⟨l0, h0⟩
  have HK := Lib.hid known_any
  have HN := Lib.hid v1
  have HZ := Lib.hid v2
  obtain ⟨n, hn⟩ : ∃ n, z1.length = n := ⟨_, rfl⟩
  obtain ⟨M, hM⟩ : ∃ M, z2.length = M := ⟨_, rfl⟩
  have hz2 : z2.length ≤ 17592186044416 := by omega
  have hf63 : z1.length ≤ 9223372036854775807 := by omega
  have hc1 : n ≤ c1 := by omega
  by_cases hf : fchk a0 (mrF z1) = 0
  · have g := fchk_iff.1 hf
    have HM := Lib.hid (fun W hA => pmir_yes hL hn g A1 c1 hc1 W hA)
    have hml : (mrF z1).length = n := by rw [mrF_length, hn]
    have hm63 : (mrF z1).length ≤ 9223372036854775807 := by omega
    by_cases hc : chk a0 z2 = 0
    · have hw := chk_iff.1 hc
      have HF := Lib.hid (fun W hA hB => pholds_yes hL hn hM g hw A1 c1 hc1 A2 c2 W hA hB)
      rcases bk_cases a0 (mrF z1) with ⟨l, _, hl, hr⟩ | ⟨k, hr, hk⟩
      · have gd : Df.Good (backA a0 (mrF z1) l) := back_good g hl
        have hacc : accA (backA a0 (mrF z1) l) z2 = fval (mrF z1) z2.reverse := back_acc g hl (w := z2) (fun c hc => hw.2.2 c hc)
        have eL : (backA a0 (mrF z1) l).L = a0 := rfl
        generalize backA a0 (mrF z1) l = d at *
        have HBk := Lib.hid (fun W A c (hA : NodesAt W W.heap.size A (mrF z1)) => back_gives (E := .nilIface) (c := c) hL hA hm63 hr rfl)
        rw [hml] at HBk
        have hf2 : Wo.Fine d.L z2 := by rw [eL]; exact hw
        have HAc := Lib.hid (fun W v (h : DfaAt W W.heap.size v d) (hB : IntsAt W W.heap.size A2 z2) => acc_gives (cz := c2) (E := .nilIface) h hB hz2 ((accOut_ok gd hf2).trans hacc) (congrArg errV (accErr_ok gd hf2)))
        rw [hM] at HAc
        generalize fval (mrF z1) z2.reverse = b at *
        have hbb : (b == b) = true := beq_self_eq_true _
        rw [hn, hM]
        clear gd hacc eL hf2 hr hl g hw hf hc hg v1 v2 hL hn hM hz2 hf63 hml hm63
        go_enter Tryd.func5, Tryd.ntmps5
        go_wp2_with fail
        refine (HK.out _).mono ?_
        rintro e u1 ⟨rfl, hb⟩
        have HN := Lib.hid (HN.out.on hb)
        have HZ := Lib.hid (HZ.out.on hb)
        have B := Lib.hid hb
        clear hb  HK
        go_wp2_with fail
        refine (HF.out _ HN.out HZ.out).mono ?_
        rintro e u2 ⟨rfl, hb⟩
        have HN := Lib.hid (HN.out.on hb)
        have HZ := Lib.hid (HZ.out.on hb)
        have B := Lib.hid (B.out.trans (hb.mono B.out.size))
        clear hb  HF
        go_wp2_with fail
        refine (HM.out _ HN.out).mono ?_
        rintro e u3 ⟨he, hb⟩
        obtain ⟨A5, c5, rfl, h5, h6, N5⟩ := he.out
        have N5 := N5
        have HN := Lib.hid (HN.out.on hb)
        have HZ := Lib.hid (HZ.out.on hb)
        have B := Lib.hid (B.out.trans (hb.mono B.out.size))
        clear hb he HM
        go_wp2_with fail
        refine (HBk.out _ _ _ N5.out).mono ?_
        rintro e u4 ⟨L14, s14, A14, n14, c14, F14, m14, k14, rfl, hd, hb⟩
        have HN := Lib.hid (HN.out.on hb)
        have HZ := Lib.hid (HZ.out.on hb)
        have N5 := Lib.hid (N5.out.on hb)
        have B := Lib.hid (B.out.trans (hb.mono B.out.size))
        clear hb  HBk
        obtain ⟨x4, hx4, hbn, Vn⟩ := var_new u4 hd.out
        have VA := Lib.hid Vn
        have HN := Lib.hid (HN.out.on hbn)
        have HZ := Lib.hid (HZ.out.on hbn)
        have N5 := Lib.hid (N5.out.on hbn)
        have B := Lib.hid (B.out.trans (hbn.mono B.out.size))
        clear hbn Vn hd
        obtain ⟨p0, p1, p2, p3, p4⟩ := VA.out.box
        rw [hx4] at p1 p2 p3 p4
        have HX := Lib.hid hx4
        clear hx4
        go_wp2_with fail
        rw [← HX.out]
        clear HX
        refine (HAc.out _ _ VA.out.at_ HZ.out).mono ?_
        rintro e u5 ⟨rfl, hb⟩
        have HN := Lib.hid (HN.out.on hb)
        have HZ := Lib.hid (HZ.out.on hb)
        have N5 := Lib.hid (N5.out.on hb)
        have VA := Lib.hid (VA.out.on hb)
        have B := Lib.hid (B.out.trans (hb.mono B.out.size))
        clear hb p0 p1 p2 p3 p4 HAc
        clear VA
        go_wp2
        go_ret
        exact ⟨rfl, B.out⟩
      · obtain rfl := hk g
        have HBk := Lib.hid (fun W A c (hA : NodesAt W W.heap.size A (mrF z1)) => back_gives (E := .iface 59 (.int .i64 4)) (c := c) hL hA hm63 hr rfl)
        rw [hml] at HBk
        have HE := Lib.hid (fun W (hb : Below w.heap.size w W) => says_gives hg 4 (E := .iface 59 (.int .i64 4)) (K := 4) rfl rfl W hb)
        generalize fval (mrF z1) z2.reverse = b at *
        rw [hn, hM]
        clear hr g hw hf hc hg v1 v2 hL hn hM hz2 hf63 hml hm63
        rcases b with _ | _
        · go_enter Tryd.func5, Tryd.ntmps5
          go_wp2_with fail
          refine (HK.out _).mono ?_
          rintro e u1 ⟨rfl, hb⟩
          have HN := Lib.hid (HN.out.on hb)
          have HZ := Lib.hid (HZ.out.on hb)
          have B := Lib.hid hb
          clear hb  HK
          go_wp2_with fail
          refine (HF.out _ HN.out HZ.out).mono ?_
          rintro e u2 ⟨rfl, hb⟩
          have HN := Lib.hid (HN.out.on hb)
          have HZ := Lib.hid (HZ.out.on hb)
          have B := Lib.hid (B.out.trans (hb.mono B.out.size))
          clear hb  HF
          go_wp2_with fail
          refine (HM.out _ HN.out).mono ?_
          rintro e u3 ⟨he, hb⟩
          obtain ⟨A5, c5, rfl, h5, h6, N5⟩ := he.out
          have N5 := N5
          have HN := Lib.hid (HN.out.on hb)
          have HZ := Lib.hid (HZ.out.on hb)
          have B := Lib.hid (B.out.trans (hb.mono B.out.size))
          clear hb he HM
          go_wp2_with fail
          refine (HBk.out _ _ _ N5.out).mono ?_
          rintro e u4 ⟨L14, s14, A14, n14, c14, F14, m14, k14, rfl, hd, hb⟩
          have HN := Lib.hid (HN.out.on hb)
          have HZ := Lib.hid (HZ.out.on hb)
          have N5 := Lib.hid (N5.out.on hb)
          have B := Lib.hid (B.out.trans (hb.mono B.out.size))
          clear hb  HBk
          obtain ⟨x4, hx4, hbn, Vn⟩ := var_new u4 hd.out
          have VA := Lib.hid Vn
          have HN := Lib.hid (HN.out.on hbn)
          have HZ := Lib.hid (HZ.out.on hbn)
          have N5 := Lib.hid (N5.out.on hbn)
          have B := Lib.hid (B.out.trans (hbn.mono B.out.size))
          clear hbn Vn hd
          have HX := Lib.hid hx4
          clear hx4
          go_wp2_with fail
          rw [← HX.out]
          clear HX
          refine (HE.out _ B.out).mono ?_
          rintro e u5 ⟨rfl, hb⟩
          have HN := Lib.hid (HN.out.on hb)
          have HZ := Lib.hid (HZ.out.on hb)
          have N5 := Lib.hid (N5.out.on hb)
          have VA := Lib.hid (VA.out.on hb)
          have B := Lib.hid (B.out.trans (hb.mono B.out.size))
          clear hb  HE
          clear VA
          go_wp2
          go_ret
          exact ⟨rfl, B.out⟩
        · go_enter Tryd.func5, Tryd.ntmps5
          go_wp2_with fail
          refine (HK.out _).mono ?_
          rintro e u1 ⟨rfl, hb⟩
          have HN := Lib.hid (HN.out.on hb)
          have HZ := Lib.hid (HZ.out.on hb)
          have B := Lib.hid hb
          clear hb  HK
          go_wp2_with fail
          refine (HF.out _ HN.out HZ.out).mono ?_
          rintro e u2 ⟨rfl, hb⟩
          have HN := Lib.hid (HN.out.on hb)
          have HZ := Lib.hid (HZ.out.on hb)
          have B := Lib.hid (B.out.trans (hb.mono B.out.size))
          clear hb  HF
          go_wp2_with fail
          refine (HM.out _ HN.out).mono ?_
          rintro e u3 ⟨he, hb⟩
          obtain ⟨A5, c5, rfl, h5, h6, N5⟩ := he.out
          have N5 := N5
          have HN := Lib.hid (HN.out.on hb)
          have HZ := Lib.hid (HZ.out.on hb)
          have B := Lib.hid (B.out.trans (hb.mono B.out.size))
          clear hb he HM
          go_wp2_with fail
          refine (HBk.out _ _ _ N5.out).mono ?_
          rintro e u4 ⟨L14, s14, A14, n14, c14, F14, m14, k14, rfl, hd, hb⟩
          have HN := Lib.hid (HN.out.on hb)
          have HZ := Lib.hid (HZ.out.on hb)
          have N5 := Lib.hid (N5.out.on hb)
          have B := Lib.hid (B.out.trans (hb.mono B.out.size))
          clear hb  HBk
          obtain ⟨x4, hx4, hbn, Vn⟩ := var_new u4 hd.out
          have VA := Lib.hid Vn
          have HN := Lib.hid (HN.out.on hbn)
          have HZ := Lib.hid (HZ.out.on hbn)
          have N5 := Lib.hid (N5.out.on hbn)
          have B := Lib.hid (B.out.trans (hbn.mono B.out.size))
          clear hbn Vn hd
          have HX := Lib.hid hx4
          clear hx4
          go_wp2_with fail
          rw [← HX.out]
          clear HX
          refine (HE.out _ B.out).mono ?_
          rintro e u5 ⟨rfl, hb⟩
          have HN := Lib.hid (HN.out.on hb)
          have HZ := Lib.hid (HZ.out.on hb)
          have N5 := Lib.hid (N5.out.on hb)
          have VA := Lib.hid (VA.out.on hb)
          have B := Lib.hid (B.out.trans (hb.mono B.out.size))
          clear hb  HE
          clear VA
          go_wp2
          go_ret
          exact ⟨rfl, B.out⟩
    · have hv : verr a0 (mrF z1) z2 ≠ 0 := by unfold verr; rw [if_pos hf]; exact hc
      have HF := Lib.hid (fun W hA hB => pholds_no hL hf63 hz2 hn hM hv A1 c1 hc1 A2 c2 W hA hB)
      rw [errV_pos hv] at HF
      generalize (verr a0 (mrF z1) z2 : Int) = q at *
      rw [hn, hM]
      clear hn hM hL hf hc g hz2 hf63 v1 v2 hv hml hm63 hg
      go_enter Tryd.func5, Tryd.ntmps5
      go_wp2_with fail
      refine (HK.out _).mono ?_
      rintro e u1 ⟨rfl, hb⟩
      have HN := Lib.hid (HN.out.on hb)
      have HZ := Lib.hid (HZ.out.on hb)
      have B := Lib.hid hb
      clear hb  HK
      go_wp2_with fail
      refine (HF.out _ HN.out HZ.out).mono ?_
      rintro e u2 ⟨rfl, hb⟩
      have HN := Lib.hid (HN.out.on hb)
      have HZ := Lib.hid (HZ.out.on hb)
      have B := Lib.hid (B.out.trans (hb.mono B.out.size))
      clear hb  HF
      go_wp2_with fail
      refine (HM.out _ HN.out).mono ?_
      rintro e u3 ⟨he, hb⟩
      obtain ⟨A5, c5, rfl, h5, h6, N5⟩ := he.out
      have N5 := N5
      have HN := Lib.hid (HN.out.on hb)
      have HZ := Lib.hid (HZ.out.on hb)
      have B := Lib.hid (B.out.trans (hb.mono B.out.size))
      clear hb he HM
      go_wp2
      go_ret
      exact ⟨rfl, B.out⟩
  · have HM := Lib.hid (fun W hA => pmir_no hL hf63 hn hf A1 c1 hc1 W hA)
    have hv : verr a0 (mrF z1) z2 ≠ 0 := by unfold verr; rw [if_neg hf]; exact hf
    have HF := Lib.hid (fun W hA hB => pholds_no hL hf63 hz2 hn hM hv A1 c1 hc1 A2 c2 W hA hB)
    rw [errV_pos hv] at HF
    rw [errV_pos hf] at HM
    generalize (verr a0 (mrF z1) z2 : Int) = q at *
    generalize (fchk a0 (mrF z1) : Int) = q2 at *
    rw [hn, hM]
    clear hn hM hL hf hz2 hf63 v1 v2 hv hg
    go_enter Tryd.func5, Tryd.ntmps5
    go_wp2_with fail
    refine (HK.out _).mono ?_
    rintro e u1 ⟨rfl, hb⟩
    have HN := Lib.hid (HN.out.on hb)
    have HZ := Lib.hid (HZ.out.on hb)
    have B := Lib.hid hb
    clear hb  HK
    go_wp2_with fail
    refine (HF.out _ HN.out HZ.out).mono ?_
    rintro e u2 ⟨rfl, hb⟩
    have HN := Lib.hid (HN.out.on hb)
    have HZ := Lib.hid (HZ.out.on hb)
    have B := Lib.hid (B.out.trans (hb.mono B.out.size))
    clear hb  HF
    go_wp2_with fail
    refine (HM.out _ HN.out).mono ?_
    rintro e u3 ⟨rfl, hb⟩
    have HN := Lib.hid (HN.out.on hb)
    have HZ := Lib.hid (HZ.out.on hb)
    have B := Lib.hid (B.out.trans (hb.mono B.out.size))
    clear hb  HM
    go_wp2
    go_ret
    exact ⟨rfl, B.out⟩


set_option maxRecDepth 100000 in
theorem lifted (os : Os) (started : os.Started) (H : Type) (enc : TypeId × Value → H) :
    ReturnsInHanded {} Tryd.checked os 5 .any (fun w args => (Rows.pastBackSpec.pre enc Tryd.prog Tryd.f5 Rows.pastBackRow.domain false w args ∧ laidMetH Tryd.prog [("errors.errorType", Rows.laid_errors_errorType)] w) ∧ sizedMet enc Tryd.prog Tryd.f5 (OpenSpec.ofChange Rows.pastBackSpec) false w args) (Rows.pastBackSpec.post enc Tryd.prog Tryd.f5 false true false false) := by
  refine returnsInHanded_of_change_and (C := Tryd.checked) (X := fun w _ => laidMetH Tryd.prog [("errors.errorType", Rows.laid_errors_errorType)] w) (fun _ _ _ hh h => h.of_heap hh) own started (by kernel_rfl) Tryd.func5
    (ChangeSpec.witness_at (enc := enc) (C := Tryd.checked) (os := os) (X := fun w _ => laidMetH Tryd.prog [("errors.errorType", Rows.laid_errors_errorType)] w) false (laidWorld os) #[.int .i64 0, .slice none 0 0, .slice none 0 0] 8 rfl (by kernel_rfl) (by kernel_rfl) (by kernel_rfl) (by kernel_rfl) (by kernel_rfl) (laidWorld_met os _)) ?_
  intro W base args ds gs before hval0 hW hcnd hsz0 hL _
  have hval : ∀ (j : Nat) t v, Tryd.f5.params[j]? = some t → args[j]? = some v → Value.okWide Tryd.prog W .any base t v := hval0
  have hsz : (DataW.weightsEach Tryd.prog (Tryd.f5.params.toList ++ Rows.pastBackSpec.plain.varTypes Tryd.prog) (ds ++ gs)).all (· ≤ reachBytes) = true := hsz0
  have hW' := hW
  obtain ⟨p, q, hA0, hV0, rfl, hfz, hnd⟩ := hW
  have hV : DataW.TrodVars enc Tryd.prog W (fun _ => true) [] gs q := hV0
  have hA : DataW.TrodAll enc Tryd.prog W 0 (fun _ => true) true Tryd.f5.params.toList args.toList ds p := hA0
  rw [Tryd.params5] at hA hval hsz
  obtain ⟨v0, vs0, d0, ds0, p0, q0, hargs, rfl, rfl, h0, rr0⟩ := trodAll_cons hA
  obtain ⟨v1, vs1, d1, ds1, p1, q1, rfl, rfl, rfl, h1, rr1⟩ := trodAll_cons rr0
  obtain ⟨v2, vs2, d2, ds2, p2, q2, rfl, rfl, rfl, h2, rr2⟩ := trodAll_cons rr1
  obtain ⟨rfl, rfl, rfl⟩ := trodAll_nil rr2
  obtain rfl : args = #[v0, v1, v2] := by cases args; simp_all
  obtain ⟨rfl, rfl⟩ := trodVars_none hV
  have k0 := h0
  have lt0 : ∀ x ∈ p0, x.block < W.heap.size := by obtain ⟨m, hm⟩ := k0; exact DataW.trod_lt m _ _ _ hm
  have k1 := h1
  have lt1 : ∀ x ∈ p1, x.block < W.heap.size := by obtain ⟨m, hm⟩ := k1; exact DataW.trod_lt m _ _ _ hm
  have k2 := h2
  have lt2 : ∀ x ∈ p2, x.block < W.heap.size := by obtain ⟨m, hm⟩ := k2; exact DataW.trod_lt m _ _ _ hm
  obtain ⟨a0, rfl, rfl, rfl, w0⟩ := open_int Tryd.underlying3 (hval 0 3 v0 rfl rfl) h0
  obtain ⟨l0, hh0⟩ := bounds_i64 w0
  obtain ⟨A1, c1, z1, rfl, m1, n1, x1, r1⟩ : ∃ (A : Option Addr) (c : Nat) (l : List Fm.Nd), v1 = .slice A l.length c ∧ l.length ≤ c ∧ c ≤ 9223372036854775807 ∧ Fm.NodesAt W W.heap.size A l ∧ l.length ≤ 5864062014634 := by
    obtain ⟨A, len, c, rfl⟩ := okWide_slice Tryd.underlying22 (hval 1 22 v1 rfl rfl)
    obtain ⟨fuel, hf⟩ := h1
    obtain ⟨A2, c2, l, hcs, q1, q2, q3, q4⟩ := Fm.open_nodes hf
    simp [Value.cells] at hcs
    obtain ⟨rfl, rfl, rfl⟩ := hcs
    refine ⟨_, _, l, rfl, q1, q2, q3, ?_⟩
    rcases q4 with q4 | ⟨es, sp, hd, hl⟩
    · omega
    · have := sized_slice hsz (j := 1) (t := 22) (e := 57) (elems := es) (spare := sp) rfl (by rw [← hd]; rfl) Tryd.underlying22
      rw [(show Tryd.prog.bytesOf 57 = 24 by kernel_rfl)] at this
      simp only [reachBytes] at this
      omega
  obtain ⟨A2, len2, c2, rfl⟩ := okWide_slice Tryd.underlying23 (hval 2 23 v2 rfl rfl)
  obtain ⟨z2, rfl, x2, r2, m2⟩ : ∃ zs : List Int, len2 = zs.length ∧ IntsAt W W.heap.size A2 zs ∧ zs.length ≤ 17592186043904 ∧ zs.length ≤ c2 := by
    obtain ⟨fuel, hf⟩ := h2
    rcases open_ints Tryd.underlying23 Tryd.underlying3 (by kernel_rfl) hf with ⟨hcs, _⟩ | ⟨x, l, c, zs, hcs, _, hl, hm, hz, hx, hcell, hwz⟩
    · simp [Value.cells] at hcs
      obtain ⟨rfl, rfl, rfl⟩ := hcs
      exact ⟨[], rfl, IntsAt.nil _ _ _, by simp, by simp⟩
    · simp [Value.cells] at hcs
      obtain ⟨rfl, rfl, rfl⟩ := hcs
      have hd := congrArg Prod.fst hx
      simp only at hd
      have := sized_slice hsz (j := 2) (t := 23) (e := 3) rfl (by rw [hd]; rfl) Tryd.underlying23
      rw [(show Tryd.prog.bytesOf 3 = 8 by kernel_rfl)] at this
      simp only [reachBytes, lits, List.length_map, List.length_take, List.length_drop] at this
      have hz' : zs.length = c2 := by simpa using hz
      exact ⟨zs.take len2, by rw [List.length_take]; omega, intsAt_of_open hcell hwz len2, by rw [List.length_take]; omega, by rw [List.length_take]; omega⟩
  clear hA0 hval0
  refine (walk a0 A1 c1 z1 A2 c2 z2 W l0 hh0 x1 m1 n1 r1 x2 r2 m2 (handle_of_laid hL)).mono fun e W' ⟨he, bel⟩ => ?_
  subst he
  exact ⟨_, rfl, _, _, _, [], _, [], hW', trodAll_mk1 (shut_bool Tryd.underlying4 _), (trodAll_cons_mk (Below.trod laidOut (by kernel_rfl) (of_decide_eq_true (by kernel_rfl)) k0 bel lt0) (trodAll_cons_mk (Below.trod laidOut (by kernel_rfl) (of_decide_eq_true (by kernel_rfl)) k1 bel lt1) (trodAll_cons_mk (Below.trod laidOut (by kernel_rfl) (of_decide_eq_true (by kernel_rfl)) k2 bel lt2) trodAll_mk0))), rfl, bel.frame _, fun h => by cases h⟩

theorem over : Rows.pastBackRow.holds Tryd.pinned (OpenSpec.ofChange Rows.pastBackSpec) :=
  OpenClaim.holds_of_wide 5 Tryd.f5 rfl rfl rfl rfl rfl rfl rfl ⟨rfl, rfl, rfl, rfl, rfl⟩ rfl rfl rfl rfl rfl (by kernel_rfl) Tryd.func5 (by kernel_rfl)
    (of_decide_eq_true (by kernel_rfl)) (by unfold Func.isWrapper; rw [if_neg (of_decide_eq_false (by kernel_rfl))]; exact ⟨rfl, rfl⟩)
    (fun os started H enc _ => lifted os started H enc)
theorem proved : Rows.PastBackCardSaid :=
  Claim7.holds_tied_plain_at .later [] [.handle] true (true, "052976ef47c006fc6db55b391aee047266882a13868b527c28e54604fc64ad30") true
    over (fun _ h => by cases h) (by kernel_rfl) (fun _ h => by cases h) pastBack_row_tie rfl ⟨rfl, rfl⟩ (by kernel_rfl) rfl
    (fun f fn hf hfn => by
      obtain rfl : f = 5 := Option.some.inj ((show Tryd.prog.funcNamed "stileward/stilewardlaw3.PastBack" = some 5 by kernel_rfl).symm.trans hf) |>.symm
      obtain rfl : fn = Tryd.f5 := (Option.some.inj (Tryd.func5.symm.trans hfn)).symm
      exact ⟨by kernel_rfl, fun j t ht => by
        rw [Tryd.params5] at ht
        rcases j with _ | _ | _ | j
        · obtain rfl : 3 = t := by simpa using ht
          exact (show Tryd.prog.wantsStandIn 3 = false by kernel_rfl)
        · obtain rfl : 22 = t := by simpa using ht
          exact (show Tryd.prog.wantsStandIn 22 = false by kernel_rfl)
        · obtain rfl : 23 = t := by simpa using ht
          exact (show Tryd.prog.wantsStandIn 23 = false by kernel_rfl)
        · simp at ht⟩)
    (by kernel_rfl)
#print axioms proved
end Go.Proofs.YtdkbdoogjehkfaaDoor.pastBack
