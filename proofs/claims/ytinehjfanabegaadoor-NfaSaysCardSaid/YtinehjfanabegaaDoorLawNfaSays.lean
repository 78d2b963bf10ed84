/-
  The statement NfaSaysCardSaid of this seat, proved: for every input the law returns true and its arguments read behind the call as before. Conditions: none but the row's own (each argument within the reach; the listed variable as the program lays it, tied by the given tie).
-/
import Derived.Test.YtinehjfanabegaaDoorRows
import Derived.Test.YtinehjfanabegaaDoorCards
import Derived.Test.YtinehjfanabegaaDoorTie
import Derived.SevenTiedAt
import Derived.LaidLaws
import Derived.LaidHandle
import Derived.Stop.Joined
import Derived.JoinedOf
import Derived.RowKit
import Derived.RowKitTokens
import Derived.ChangeSame
import Derived.ChangeVars
import Derived.Test.YtinehjfanabegaaDoorWords
import Derived.WalkKit
import Derived.ProofKit
import Derived.OpenShut
import Derived.ShutString
import Derived.ChangeOld
import Derived.Below
import Derived.SizedLaws
import Derived.Lib.Hide
import Derived.Test.YtinehjfanabegaaDoorNfaV
import Derived.Test.YtinehjfanabegaaDoorRefSet
import Derived.Test.YtinehjfanabegaaDoorSays
import Derived.Test.YtinehjfanabegaaDoorWordL
import Derived.Test.YtinehjfanabegaaDoorRefWord
namespace Go.Proofs.YtinehjfanabegaaDoor.nfaSays
open Go.ChangeShapes Go.WideShapes Go.ChangeAt Go.RowKit Go.IntWalk Go.Proofs.YtinehjfanabegaaDoor.Wd
open Go.ChangeMaps (open_string shut_string)
set_option linter.unusedVariables false

theorem own : ownKnob Tryd.prog.godebug = none := by kernel_rfl
theorem laidOut : laidOutB Tryd.prog = true := by kernel_rfl
theorem et : Tryd.prog.globalNamed "errors.errorType" = some 0 := by kernel_rfl
theorem rt : (Tryd.prog.cutTypes.find? (·.1 == "internal/reflectlite.rtype")).map (·.2) = some 177 := by kernel_rfl
theorem oneRow : ((List.range 228).filter fun t => Tryd.prog.rowNamed t [101, 114, 114, 111, 114]) = [30] := by kernel_rfl
theorem size : Tryd.prog.types.size = 228 := by kernel_rfl
/-- What the condition gives a walk: the variable's one cell. -/
theorem handle_of_laid {w : World} (h : laidMetH Tryd.prog [("errors.errorType", Rows.laid_errors_errorType)] w) : w.cell? ⟨0, 0, none⟩ = some (.iface 177 (.agg #[.pointer (some ⟨1, 30, none⟩)])) := by
  have h' : laidMet Tryd.prog [] w ∧ handlesMet Tryd.prog [("errors.errorType", Rows.laid_errors_errorType)] w := h
  obtain ⟨name, u, ty, e1, e2, e3, e4, e5⟩ := h'.2 _ (List.mem_singleton.2 rfl)
  have en : name = [101, 114, 114, 111, 114] := (Option.some.inj e1).symm
  subst en
  obtain rfl := Option.some.inj (rt.symm.trans e2)
  have hm : ty ∈ (List.range 228).filter fun t => Tryd.prog.rowNamed t [101, 114, 114, 111, 114] := List.mem_filter.2 ⟨List.mem_range.2 (by rw [← size]; exact e3), e4⟩
  rw [oneRow] at hm
  obtain rfl := List.mem_singleton.1 hm
  have hh : typeHandle Tryd.prog 30 = .pointer (some ⟨1, 30, none⟩) := by kernel_rfl
  rw [hh] at e5
  simpa using World.var?_cell et e5 0
/-- A world that meets the condition. -/
noncomputable def laidWorld (os : Os) : World :=
  let w0 := World.holding Tryd.prog os ⟨#[], #[], []⟩
  { w0 with heap := w0.heap.modify 0 fun
      | .cells _ t frozen => .cells #[.iface 177 (.agg #[.pointer (some ⟨1, 30, none⟩)])] t frozen
      | o => o }
theorem laidWorld_met (os : Os) (args : Array Value) : laidMetH Tryd.prog [("errors.errorType", Rows.laid_errors_errorType)] ((laidWorld os).forCall (fun _ _ => 0) ⟨#[], args, []⟩).memory :=
  laidMetH_of_parts (laidMet_nil _ _) (by kernel_rfl)
open Go.Proofs.YtinehjfanabegaaDoor.Wo Go.Proofs.YtinehjfanabegaaDoor.Er Go.Proofs.YtinehjfanabegaaDoor.Df
theorem rnfa_gives {W : World} {v : Value} {a : Nf.Nfa} (h : Nf.NfaAt W W.heap.size v a) {K : Int} (hK : ((Nf.nchk a : Nat) : Int) = K) : Calls Tryd.prog 48 #[v] W fun e w' => e = .returned (.int .i64 K) ∧ Below W.heap.size W w' :=
  (Nf.rnfa_any v a W h).mono fun e w' ⟨he, hb⟩ => ⟨by rw [he.out, hK], hb⟩
theorem ncheck_gives {W : World} {v : Value} {a : Nf.Nfa} (h : Nf.NfaAt W W.heap.size v a) {E : Value} (hE : errV (Nf.nchk a) = E) : Calls Tryd.prog 49 #[v] W fun e w' => e = .returned E ∧ Below W.heap.size W w' :=
  (Nf.ncheck_any v a W h).mono fun e w' ⟨he, hb⟩ => ⟨by rw [he.out, hE], hb⟩
theorem says_gives {w : World} (hg : w.cell? ⟨0, 0, none⟩ = some (.iface 177 (.agg #[.pointer (some ⟨1, 30, none⟩)]))) (e : Nat) {E : Value} {K : Int} (hE : errV e = E) (hK : (e : Int) = K) (W : World) (hb : Below w.heap.size w W) :
    Calls Tryd.prog 17 #[E, .int .i64 K] W fun r w' => r = .returned (.bool true) ∧ Below W.heap.size W w' := by
  subst hE
  subst hK
  exact says e hg W hb
theorem rword_gives {W : World} {L : Int} {A : Option Addr} {c : Nat} {z : List Int} (hL : Small L) (hA : IntsAt W W.heap.size A z) (hz : z.length ≤ 17592186044416) {K : Int} (hK : ((chk L z : Nat) : Int) = K) :
    Calls Tryd.prog 19 #[.int .i64 L, .slice A z.length c] W fun e w' => e = .returned (.int .i64 K) ∧ Below W.heap.size W w' :=
  (refWord_any L A c z W hL hA hz).mono fun e w' ⟨he, hw⟩ => ⟨by rw [he.out, hK], by rw [← hw]; exact Below.refl _ _⟩
theorem rnacc_gives {W : World} {v : Value} {a : Nf.Nfa} {Z : Option Addr} {cz : Nat} {z : List Int} (h : Nf.NfaAt W W.heap.size v a) (g : Nf.Good a) (hZ : IntsAt W W.heap.size Z z) (hz : z.length ≤ 17592186044416) :
    Calls Tryd.prog 51 #[v, .slice Z z.length cz] W fun e w' => e = .returned (.bool (Nf.accN a z)) ∧ Below W.heap.size W w' :=
  (Nf.rnacc_any v a Z cz z W h g hZ hz).mono fun e w' ⟨he, hb⟩ => ⟨he.out, hb⟩

set_option maxRecDepth 100000 in
set_option maxHeartbeats 4000000 in
theorem walk (v0 : Value) (n0 : Nf.Nfa) (A1 : Option Addr) (c1 : Nat) (z1 : List Int) (w : World) (h0 : Nf.NfaAt w w.heap.size v0 n0) (v1 : IntsAt w w.heap.size A1 z1) (r1 : z1.length ≤ 17592186043904) (m1 : z1.length ≤ c1) (hg : w.cell? ⟨0, 0, none⟩ = some (.iface 177 (.agg #[.pointer (some ⟨1, 30, none⟩)]))) :
    Calls Tryd.prog 13 #[v0, .slice A1 z1.length c1] w fun e w' => e = .returned (.bool true) ∧ Below w.heap.size w w' := by
  have hr : z1.length ≤ 17592186044416 := by omega
  obtain ⟨L0, s0, A0, a0, c0, M0, b0, e0, F0, m0, k0, rfl⟩ := h0.form
  have hL0 := h0.eqs.1
  have hSm := h0.eqs.2.2
  obtain ⟨ux, hux, hbx, VX0⟩ := Nf.varN_new w h0
  have VX := Lib.hid VX0
  have B := Lib.hid hbx
  have Z := Lib.hid (v1.on hbx)
  have W0 := Lib.hid hux
  clear hux hbx VX0 h0 v1 r1 m1
  rcases g1 : Nf.nchk n0 with _ | x
  · have Ga := Nf.nchk_iff.1 g1
    have HD := Lib.hid (fun W v (h : Nf.NfaAt W W.heap.size v n0) => rnfa_gives (K := 0) h (by rw [g1]; rfl))
    have HC := Lib.hid (fun W v (h : Nf.NfaAt W W.heap.size v n0) => ncheck_gives (E := .nilIface) h (congrArg errV g1))
    have HE1 := Lib.hid (fun W (hb : Below w.heap.size w W) => says_gives hg 0 (E := .nilIface) (K := 0) rfl rfl W hb)
    rcases g2 : chk L0 z1 with _ | x
    · have fz : Fine n0.L z1 := by rw [hL0]; exact chk_iff.1 g2
      have g3 := Nf.naErr_zero.2 ⟨Ga, fz⟩
      have HW := Lib.hid (fun W (hZ : IntsAt W W.heap.size A1 z1) => rword_gives (L := L0) (c := c1) (K := 0) hSm hZ hr (by rw [g2]; rfl))
      have HA := Lib.hid (fun W v (h : Nf.NfaAt W W.heap.size v n0) (hZ : IntsAt W W.heap.size A1 z1) => Nf.nacc_gives (cz := c1) (E := .nilIface) h hZ hr (Nf.naOut_ok Ga fz) (congrArg errV g3))
      have HE2 := Lib.hid (fun W (hb : Below w.heap.size w W) => says_gives hg 0 (E := .nilIface) (K := 0) rfl rfl W hb)
      have HX := Lib.hid (fun W v (h : Nf.NfaAt W W.heap.size v n0) (hZ : IntsAt W W.heap.size A1 z1) => rnacc_gives (cz := c1) h Ga hZ hr)
      clear Ga g1 g2 fz g3 hL0 hSm hr hg
      generalize Nf.accN n0 z1 = y at *
      have hyy : (y == y) = true := beq_self_eq_true _
      go_enter Tryd.func13, Tryd.ntmps13
      obtain ⟨p0, p1, p2, p3, p4, p5⟩ := VX.out.box
      go_wp2_with fail
      rw [← W0.out]
      clear W0
      refine (HD.out _ _ VX.out.at_).mono ?_
      rintro e u1 ⟨rfl, hb⟩
      have VX := Lib.hid (VX.out.on hb)
      have Z := Lib.hid (Z.out.on hb)
      have B := Lib.hid (B.out.trans (hb.mono B.out.size))
      clear hb p0 p1 p2 p3 p4 p5 HD
      obtain ⟨p0, p1, p2, p3, p4, p5⟩ := VX.out.box
      go_wp2_with fail
      refine (HC.out _ _ VX.out.at_).mono ?_
      rintro e u2 ⟨rfl, hb⟩
      have VX := Lib.hid (VX.out.on hb)
      have Z := Lib.hid (Z.out.on hb)
      have B := Lib.hid (B.out.trans (hb.mono B.out.size))
      clear hb p0 p1 p2 p3 p4 p5 HC
      go_wp2_with fail
      refine (HE1.out _ B.out).mono ?_
      rintro e u3 ⟨rfl, hb⟩
      have VX := Lib.hid (VX.out.on hb)
      have Z := Lib.hid (Z.out.on hb)
      have B := Lib.hid (B.out.trans (hb.mono B.out.size))
      clear hb  HE1
      obtain ⟨p0, p1, p2, p3, p4, p5⟩ := VX.out.box
      go_wp2_with fail
      refine (HW.out _ Z.out).mono ?_
      rintro e u4 ⟨rfl, hb⟩
      have VX := Lib.hid (VX.out.on hb)
      have Z := Lib.hid (Z.out.on hb)
      have B := Lib.hid (B.out.trans (hb.mono B.out.size))
      clear hb p0 p1 p2 p3 p4 p5 HW
      obtain ⟨p0, p1, p2, p3, p4, p5⟩ := VX.out.box
      go_wp2_with fail
      refine (HA.out _ _ VX.out.at_ Z.out).mono ?_
      rintro e u5 ⟨rfl, hb⟩
      have VX := Lib.hid (VX.out.on hb)
      have Z := Lib.hid (Z.out.on hb)
      have B := Lib.hid (B.out.trans (hb.mono B.out.size))
      clear hb p0 p1 p2 p3 p4 p5 HA
      go_wp2_with fail
      refine (HE2.out _ B.out).mono ?_
      rintro e u6 ⟨rfl, hb⟩
      have VX := Lib.hid (VX.out.on hb)
      have Z := Lib.hid (Z.out.on hb)
      have B := Lib.hid (B.out.trans (hb.mono B.out.size))
      clear hb  HE2
      obtain ⟨p0, p1, p2, p3, p4, p5⟩ := VX.out.box
      go_wp2_with fail
      refine (HX.out _ _ VX.out.at_ Z.out).mono ?_
      rintro e u7 ⟨rfl, hb⟩
      have VX := Lib.hid (VX.out.on hb)
      have Z := Lib.hid (Z.out.on hb)
      have B := Lib.hid (B.out.trans (hb.mono B.out.size))
      clear hb p0 p1 p2 p3 p4 p5 HX
      go_wp2
      go_ret
      exact ⟨rfl, B.out⟩
    · obtain ⟨K, hK⟩ : ∃ K : Int, ((x + 1 : Nat) : Int) = K := ⟨_, rfl⟩
      have hK0 : ¬ K = 0 := by omega
      have hK1 : (K == 0) = false := by simp [hK0]
      have hEK : errV (x + 1) = errI K := by rw [← hK]; rfl
      have fz : ¬ Fine n0.L z1 := by rw [hL0]; intro q; have := chk_iff.2 q; omega
      have g3 : Nf.naErr n0 z1 = x + 1 := by unfold Nf.naErr; rw [if_neg (by omega), hL0, g2]
      have HW := Lib.hid (fun W (hZ : IntsAt W W.heap.size A1 z1) => rword_gives (L := L0) (c := c1) (K := K) hSm hZ hr (by rw [g2, hK]))
      have HA := Lib.hid (fun W v (h : Nf.NfaAt W W.heap.size v n0) (hZ : IntsAt W W.heap.size A1 z1) => Nf.nacc_gives (cz := c1) (E := errI K) (b := false) h hZ hr (Nf.naOut_bad (by omega)) (by rw [g3, hEK]))
      have HE2 := Lib.hid (fun W (hb : Below w.heap.size w W) => says_gives hg (x + 1) (E := errI K) (K := K) hEK hK W hb)
      clear Ga g1 g2 fz g3 hL0 hSm hr hg hK hEK
      clear x
      go_enter Tryd.func13, Tryd.ntmps13
      obtain ⟨p0, p1, p2, p3, p4, p5⟩ := VX.out.box
      go_wp2_with fail
      rw [← W0.out]
      clear W0
      refine (HD.out _ _ VX.out.at_).mono ?_
      rintro e u1 ⟨rfl, hb⟩
      have VX := Lib.hid (VX.out.on hb)
      have Z := Lib.hid (Z.out.on hb)
      have B := Lib.hid (B.out.trans (hb.mono B.out.size))
      clear hb p0 p1 p2 p3 p4 p5 HD
      obtain ⟨p0, p1, p2, p3, p4, p5⟩ := VX.out.box
      go_wp2_with fail
      refine (HC.out _ _ VX.out.at_).mono ?_
      rintro e u2 ⟨rfl, hb⟩
      have VX := Lib.hid (VX.out.on hb)
      have Z := Lib.hid (Z.out.on hb)
      have B := Lib.hid (B.out.trans (hb.mono B.out.size))
      clear hb p0 p1 p2 p3 p4 p5 HC
      go_wp2_with fail
      refine (HE1.out _ B.out).mono ?_
      rintro e u3 ⟨rfl, hb⟩
      have VX := Lib.hid (VX.out.on hb)
      have Z := Lib.hid (Z.out.on hb)
      have B := Lib.hid (B.out.trans (hb.mono B.out.size))
      clear hb  HE1
      obtain ⟨p0, p1, p2, p3, p4, p5⟩ := VX.out.box
      go_wp2_with fail
      refine (HW.out _ Z.out).mono ?_
      rintro e u4 ⟨rfl, hb⟩
      have VX := Lib.hid (VX.out.on hb)
      have Z := Lib.hid (Z.out.on hb)
      have B := Lib.hid (B.out.trans (hb.mono B.out.size))
      clear hb p0 p1 p2 p3 p4 p5 HW
      obtain ⟨p0, p1, p2, p3, p4, p5⟩ := VX.out.box
      go_wp2_with fail
      refine (HA.out _ _ VX.out.at_ Z.out).mono ?_
      rintro e u5 ⟨rfl, hb⟩
      have VX := Lib.hid (VX.out.on hb)
      have Z := Lib.hid (Z.out.on hb)
      have B := Lib.hid (B.out.trans (hb.mono B.out.size))
      clear hb p0 p1 p2 p3 p4 p5 HA
      go_wp2_with fail
      refine (HE2.out _ B.out).mono ?_
      rintro e u6 ⟨rfl, hb⟩
      have VX := Lib.hid (VX.out.on hb)
      have Z := Lib.hid (Z.out.on hb)
      have B := Lib.hid (B.out.trans (hb.mono B.out.size))
      clear hb  HE2
      go_wp2
      go_ret
      exact ⟨rfl, B.out⟩
  · obtain ⟨K, hK⟩ : ∃ K : Int, ((x + 1 : Nat) : Int) = K := ⟨_, rfl⟩
    have hK0 : ¬ K = 0 := by omega
    have hK1 : (K == 0) = false := by simp [hK0]
    have hEK : errV (x + 1) = errI K := by rw [← hK]; rfl
    have g3 : Nf.naErr n0 z1 = x + 1 := by unfold Nf.naErr; rw [if_pos (by omega), g1]
    have HD := Lib.hid (fun W v (h : Nf.NfaAt W W.heap.size v n0) => rnfa_gives (K := K) h (by rw [g1, hK]))
    have HC := Lib.hid (fun W v (h : Nf.NfaAt W W.heap.size v n0) => ncheck_gives (E := errI K) h (by rw [g1, hEK]))
    have HE1 := Lib.hid (fun W (hb : Below w.heap.size w W) => says_gives hg (x + 1) (E := errI K) (K := K) hEK hK W hb)
    have HA := Lib.hid (fun W v (h : Nf.NfaAt W W.heap.size v n0) (hZ : IntsAt W W.heap.size A1 z1) => Nf.nacc_gives (cz := c1) (E := errI K) (b := false) h hZ hr (Nf.naOut_bad (by omega)) (by rw [g3, hEK]))
    have HE2 := HE1
    clear g1 g3 hL0 hSm hr hg hK hEK
    clear x
    go_enter Tryd.func13, Tryd.ntmps13
    obtain ⟨p0, p1, p2, p3, p4, p5⟩ := VX.out.box
    go_wp2_with fail
    rw [← W0.out]
    clear W0
    refine (HD.out _ _ VX.out.at_).mono ?_
    rintro e u1 ⟨rfl, hb⟩
    have VX := Lib.hid (VX.out.on hb)
    have Z := Lib.hid (Z.out.on hb)
    have B := Lib.hid (B.out.trans (hb.mono B.out.size))
    clear hb p0 p1 p2 p3 p4 p5 HD
    obtain ⟨p0, p1, p2, p3, p4, p5⟩ := VX.out.box
    go_wp2_with fail
    refine (HC.out _ _ VX.out.at_).mono ?_
    rintro e u2 ⟨rfl, hb⟩
    have VX := Lib.hid (VX.out.on hb)
    have Z := Lib.hid (Z.out.on hb)
    have B := Lib.hid (B.out.trans (hb.mono B.out.size))
    clear hb p0 p1 p2 p3 p4 p5 HC
    go_wp2_with fail
    refine (HE1.out _ B.out).mono ?_
    rintro e u3 ⟨rfl, hb⟩
    have VX := Lib.hid (VX.out.on hb)
    have Z := Lib.hid (Z.out.on hb)
    have B := Lib.hid (B.out.trans (hb.mono B.out.size))
    clear hb  HE1
    obtain ⟨p0, p1, p2, p3, p4, p5⟩ := VX.out.box
    go_wp2_with fail
    refine (HA.out _ _ VX.out.at_ Z.out).mono ?_
    rintro e u4 ⟨rfl, hb⟩
    have VX := Lib.hid (VX.out.on hb)
    have Z := Lib.hid (Z.out.on hb)
    have B := Lib.hid (B.out.trans (hb.mono B.out.size))
    clear hb p0 p1 p2 p3 p4 p5 HA
    go_wp2_with fail
    refine (HE2.out _ B.out).mono ?_
    rintro e u5 ⟨rfl, hb⟩
    have VX := Lib.hid (VX.out.on hb)
    have Z := Lib.hid (Z.out.on hb)
    have B := Lib.hid (B.out.trans (hb.mono B.out.size))
    clear hb  HE2
    go_wp2
    go_ret
    exact ⟨rfl, B.out⟩


set_option maxRecDepth 100000 in
theorem lifted (os : Os) (started : os.Started) (H : Type) (enc : TypeId × Value → H) :
    ReturnsInHanded {} Tryd.checked os 13 .any (fun w args => (Rows.nfaSaysSpec.pre enc Tryd.prog Tryd.f13 Rows.nfaSaysRow.domain false w args ∧ laidMetH Tryd.prog [("errors.errorType", Rows.laid_errors_errorType)] w) ∧ sizedMet enc Tryd.prog Tryd.f13 (OpenSpec.ofChange Rows.nfaSaysSpec) false w args) (Rows.nfaSaysSpec.post enc Tryd.prog Tryd.f13 false true false false) := by
  refine returnsInHanded_of_change_and (C := Tryd.checked) (X := fun w _ => laidMetH Tryd.prog [("errors.errorType", Rows.laid_errors_errorType)] w) (fun _ _ _ hh h => h.of_heap hh) own started (by kernel_rfl) Tryd.func13
    (ChangeSpec.witness_at (enc := enc) (C := Tryd.checked) (os := os) (X := fun w _ => laidMetH Tryd.prog [("errors.errorType", Rows.laid_errors_errorType)] w) false (laidWorld os) #[.agg #[.int .i64 0, .int .i64 0, .slice none 0 0, .slice none 0 0, .slice none 0 0], .slice none 0 0] 8 rfl (by kernel_rfl) (by kernel_rfl) (by kernel_rfl) (by kernel_rfl) (by kernel_rfl) (laidWorld_met os _)) ?_
  intro W base args ds gs before hval0 hW hcnd hsz0 hL _
  have hval : ∀ (j : Nat) t v, Tryd.f13.params[j]? = some t → args[j]? = some v → Value.okWide Tryd.prog W .any base t v := hval0
  have hsz : (DataW.weightsEach Tryd.prog (Tryd.f13.params.toList ++ Rows.nfaSaysSpec.plain.varTypes Tryd.prog) (ds ++ gs)).all (· ≤ reachBytes) = true := hsz0
  have hW' := hW
  obtain ⟨p, q, hA0, hV0, rfl, hfz, hnd⟩ := hW
  have hV : DataW.TrodVars enc Tryd.prog W (fun _ => true) [] gs q := hV0
  have hA : DataW.TrodAll enc Tryd.prog W 0 (fun _ => true) true Tryd.f13.params.toList args.toList ds p := hA0
  rw [Tryd.params13] at hA hval hsz
  obtain ⟨v0, vs0, d0, ds0, p0, q0, hargs, rfl, rfl, h0, rr0⟩ := trodAll_cons hA
  obtain ⟨v1, vs1, d1, ds1, p1, q1, rfl, rfl, rfl, h1, rr1⟩ := trodAll_cons rr0
  obtain ⟨rfl, rfl, rfl⟩ := trodAll_nil rr1
  obtain rfl : args = #[v0, v1] := by cases args; simp_all
  obtain ⟨rfl, rfl⟩ := trodVars_none hV
  have k0 := h0
  have lt0 : ∀ x ∈ p0, x.block < W.heap.size := by obtain ⟨m, hm⟩ := k0; exact DataW.trod_lt m _ _ _ hm
  have k1 := h1
  have lt1 : ∀ x ∈ p1, x.block < W.heap.size := by obtain ⟨m, hm⟩ := k1; exact DataW.trod_lt m _ _ _ hm
  obtain ⟨D0, x0⟩ : ∃ a : Nf.Nfa, Nf.NfaAt W W.heap.size v0 a := Nf.nfa_open (hval 0 64 v0 rfl rfl) h0
  obtain ⟨A1, len1, c1, rfl⟩ := okWide_slice Tryd.underlying26 (hval 1 26 v1 rfl rfl)
  obtain ⟨z1, rfl, x1, r1, m1⟩ : ∃ zs : List Int, len1 = zs.length ∧ IntsAt W W.heap.size A1 zs ∧ zs.length ≤ 17592186043904 ∧ zs.length ≤ c1 := by
    obtain ⟨fuel, hf⟩ := h1
    rcases open_ints Tryd.underlying26 Tryd.underlying3 (by kernel_rfl) hf with ⟨hcs, _⟩ | ⟨x, l, c, zs, hcs, _, hl, hm, hz, hx, hcell, hwz⟩
    · simp [Value.cells] at hcs
      obtain ⟨rfl, rfl, rfl⟩ := hcs
      exact ⟨[], rfl, IntsAt.nil _ _ _, by simp, by simp⟩
    · simp [Value.cells] at hcs
      obtain ⟨rfl, rfl, rfl⟩ := hcs
      have hd := congrArg Prod.fst hx
      simp only at hd
      have := sized_slice hsz (j := 1) (t := 26) (e := 3) rfl (by rw [hd]; rfl) Tryd.underlying26
      rw [(show Tryd.prog.bytesOf 3 = 8 by kernel_rfl)] at this
      simp only [reachBytes, lits, List.length_map, List.length_take, List.length_drop] at this
      have hz' : zs.length = c1 := by simpa using hz
      exact ⟨zs.take len1, by rw [List.length_take]; omega, intsAt_of_open hcell hwz len1, by rw [List.length_take]; omega, by rw [List.length_take]; omega⟩
  clear hA0 hval0
  refine (walk v0 D0 A1 c1 z1 W x0 x1 r1 m1 (handle_of_laid hL)).mono fun e W' ⟨he, bel⟩ => ?_
  subst he
  exact ⟨_, rfl, _, _, _, [], _, [], hW', trodAll_mk1 (shut_bool Tryd.underlying4 _), (trodAll_cons_mk (Below.trod laidOut (by kernel_rfl) (of_decide_eq_true (by kernel_rfl)) k0 bel lt0) (trodAll_cons_mk (Below.trod laidOut (by kernel_rfl) (of_decide_eq_true (by kernel_rfl)) k1 bel lt1) trodAll_mk0)), rfl, bel.frame _, fun h => by cases h⟩

theorem over : Rows.nfaSaysRow.holds Tryd.pinned (OpenSpec.ofChange Rows.nfaSaysSpec) :=
  OpenClaim.holds_of_wide 13 Tryd.f13 rfl rfl rfl rfl rfl rfl rfl ⟨rfl, rfl, rfl, rfl, rfl⟩ rfl rfl rfl rfl rfl (by kernel_rfl) Tryd.func13 (by kernel_rfl)
    (of_decide_eq_true (by kernel_rfl)) (by unfold Func.isWrapper; rw [if_neg (of_decide_eq_false (by kernel_rfl))]; exact ⟨rfl, rfl⟩)
    (fun os started H enc _ => lifted os started H enc)
theorem proved : Rows.NfaSaysCardSaid :=
  Claim7.holds_tied_plain_at .later [] [.handle] true (true, "79422bc317647e98da3515ddd54c616c62872d918dc64e134f53a2f36d3d9ecc") true
    over (fun _ h => by cases h) (by kernel_rfl) (fun _ h => by cases h) nfaSays_row_tie rfl ⟨rfl, rfl⟩ (by kernel_rfl) rfl
    (fun f fn hf hfn => by
      obtain rfl : f = 13 := Option.some.inj ((show Tryd.prog.funcNamed "stileward/stilewardlaw2.NfaSays" = some 13 by kernel_rfl).symm.trans hf) |>.symm
      obtain rfl : fn = Tryd.f13 := (Option.some.inj (Tryd.func13.symm.trans hfn)).symm
      exact ⟨by kernel_rfl, fun j t ht => by
        rw [Tryd.params13] at ht
        rcases j with _ | _ | j
        · obtain rfl : 64 = t := by simpa using ht
          exact (show Tryd.prog.wantsStandIn 64 = false by kernel_rfl)
        · obtain rfl : 26 = t := by simpa using ht
          exact (show Tryd.prog.wantsStandIn 26 = false by kernel_rfl)
        · simp at ht⟩)
    (by kernel_rfl)
#print axioms proved
end Go.Proofs.YtinehjfanabegaaDoor.nfaSays
