/-
  The statement SuperMostCardSaid of this seat, proved: for every input the law returns true and its arguments read behind the call as before. Conditions: none but the row's own (each argument within the reach; the listed variable as the program lays it, tied by the given tie).
-/
import Derived.Test.YtbciefeipiphiaaDoorRows
import Derived.Test.YtbciefeipiphiaaDoorCards
import Derived.Test.YtbciefeipiphiaaDoorTie
import Derived.SevenTiedAt
import Derived.LaidLaws
import Derived.LaidHandle
import Derived.LaidMore
import Derived.Lay
import Derived.MakeChecks
import Derived.Stop.Joined
import Derived.JoinedOf
import Derived.RowKit
import Derived.RowKitTokens
import Derived.ChangeSame
import Derived.ChangeVars
import Derived.Test.YtbciefeipiphiaaDoorWords
import Derived.WalkKit
import Derived.ProofKit
import Derived.OpenShut
import Derived.ShutString
import Derived.ChangeOld
import Derived.Below
import Derived.SizedLaws
import Derived.Lib.Hide
import Derived.Test.YtbciefeipiphiaaDoorSuperL
import Derived.Test.YtbciefeipiphiaaDoorSays
namespace Go.Proofs.YtbciefeipiphiaaDoor.superMost
open Go.ChangeShapes Go.WideShapes Go.ChangeAt Go.RowKit Go.IntWalk Go.Proofs.YtbciefeipiphiaaDoor.Wd
open Go.ChangeMaps (open_string shut_string)
set_option linter.unusedVariables false

theorem own : ownKnob Tryd.prog.godebug = none := by kernel_rfl
theorem laidOut : laidOutB Tryd.prog = true := by kernel_rfl
theorem et : Tryd.prog.globalNamed "errors.errorType" = some 0 := by kernel_rfl
theorem rt : (Tryd.prog.cutTypes.find? (·.1 == "internal/reflectlite.rtype")).map (·.2) = some 132 := by kernel_rfl
theorem oneRow : ((List.range 177).filter fun t => Tryd.prog.rowNamed t [101, 114, 114, 111, 114]) = [33] := by kernel_rfl
theorem size : Tryd.prog.types.size = 177 := by kernel_rfl
/-- What the condition gives a walk: the variable's one cell. -/
theorem handle_of_laid {w : World} (h : laidMetH Tryd.prog [("errors.errorType", Rows.laid_errors_errorType)] w) : w.cell? ⟨0, 0, none⟩ = some (.iface 132 (.agg #[.pointer (some ⟨1, 33, none⟩)])) := by
  have h' : laidMet Tryd.prog [] w ∧ handlesMet Tryd.prog [("errors.errorType", Rows.laid_errors_errorType)] w := h
  obtain ⟨name, u, ty, e1, e2, e3, e4, e5⟩ := h'.2 _ (List.mem_singleton.2 rfl)
  have en : name = [101, 114, 114, 111, 114] := (Option.some.inj e1).symm
  subst en
  obtain rfl := Option.some.inj (rt.symm.trans e2)
  have hm : ty ∈ (List.range 177).filter fun t => Tryd.prog.rowNamed t [101, 114, 114, 111, 114] := List.mem_filter.2 ⟨List.mem_range.2 (by rw [← size]; exact e3), e4⟩
  rw [oneRow] at hm
  obtain rfl := List.mem_singleton.1 hm
  have hh : typeHandle Tryd.prog 33 = .pointer (some ⟨1, 33, none⟩) := by kernel_rfl
  rw [hh] at e5
  simpa using World.var?_cell et e5 0
/-- A world that meets the condition. -/
noncomputable def laidWorld (os : Os) : World :=
  let w0 := World.holding Tryd.prog os ⟨#[], #[], []⟩
  { w0 with heap := w0.heap.modify 0 fun
      | .cells _ t frozen => .cells #[.iface 132 (.agg #[.pointer (some ⟨1, 33, none⟩)])] t frozen
      | o => o }
theorem laidWorld_met (os : Os) (args : Array Value) : laidMetH Tryd.prog [("errors.errorType", Rows.laid_errors_errorType)] ((laidWorld os).forCall (fun _ _ => 0) ⟨#[], args, []⟩).memory :=
  laidMetH_of_parts (laidMet_nil _ _) (by kernel_rfl)
open Go.Proofs.YtbciefeipiphiaaDoor.Er Go.Proofs.YtbciefeipiphiaaDoor.Wo Go.Proofs.YtbciefeipiphiaaDoor.Df Go.Proofs.YtbciefeipiphiaaDoor.Rc Go.Proofs.YtbciefeipiphiaaDoor.Sm Go.Proofs.YtbciefeipiphiaaDoor.Mp Go.Proofs.YtbciefeipiphiaaDoor.Sa Go.Proofs.YtbciefeipiphiaaDoor.Su
theorem says_gives {w : World} (hg : w.cell? ⟨0, 0, none⟩ = some (.iface 132 (.agg #[.pointer (some ⟨1, 33, none⟩)]))) (e : Nat) {E : Value} {K : Int} (hE : errV e = E) (hK : (e : Int) = K) (W : World) (hb : Below w.heap.size w W) :
    Calls Tryd.prog 10 #[E, .int .i64 K] W fun r w' => r = .returned (.bool true) ∧ Below W.heap.size W w' := by
  subst hE
  subst hK
  exact says e hg W hb
theorem most_err {P S : Aut} {free : Int} {r : Aut} {E : Nat} (h : SupI P S free r E) (hp : plantE P S free = 0) {l : List Pr} (hf : found (S2 P S) (start2 P S) = some l) : E = 0 ∨ (E = 5 ∧ r = zeroA ∧ ∀ w, Word P.L w → ¬ sup P S free w) := by
  rcases h with ⟨a1, _⟩ | ⟨_, a2, _⟩ | ⟨_, _, a3, a4, a5⟩ | ⟨_, _, a3, _⟩
  · exact absurd hp a1
  · rw [hf] at a2; cases a2
  · exact .inr ⟨a3, a4, a5⟩
  · exact .inl a3
theorem none_is {d : Aut} (g : Df.Good d) (h : ∀ w, Word d.L w → accA d w = false) : firstOut d = ([], 5) := firstOut_none (dchk_iff.2 g) (firstW_is_none g g.s_lt h)
theorem three_new {w : World} {v0 v1 v3 : Value} {d0 d1 d3 : Aut} (h0 : DfaAt w w.heap.size v0 d0) (h1 : DfaAt w w.heap.size v1 d1) (h3 : DfaAt w w.heap.size v3 d3) :
    ∃ L0 s0 A0 n0 c0 F0 m0 k0 L1 s1 A1 n1 c1 F1 m1 k1 L3 s3 A3 n3 c3 F3 m3 k3 u0, v0 = .agg #[.int .i64 L0, .int .i64 s0, .slice A0 n0 c0, .slice F0 m0 k0] ∧ v1 = .agg #[.int .i64 L1, .int .i64 s1, .slice A1 n1 c1, .slice F1 m1 k1] ∧ v3 = .agg #[.int .i64 L3, .int .i64 s3, .slice A3 n3 c3, .slice F3 m3 k3] ∧
      u0 = ((w.alloc (.cells #[.int .i64 L0, .int .i64 s0, .slice A0 n0 c0, .slice F0 m0 k0] 25)).alloc (.cells #[.int .i64 L1, .int .i64 s1, .slice A1 n1 c1, .slice F1 m1 k1] 25)).alloc (.cells #[.int .i64 L3, .int .i64 s3, .slice A3 n3 c3, .slice F3 m3 k3] 25) ∧
      Below w.heap.size w u0 ∧ Var u0 w.heap.size L0 s0 A0 n0 c0 F0 m0 k0 d0 ∧ Var u0 (w.heap.size + 1) L1 s1 A1 n1 c1 F1 m1 k1 d1 ∧ Var u0 (w.heap.size + 1 + 1) L3 s3 A3 n3 c3 F3 m3 k3 d3 := by
  obtain ⟨L0, s0, A0, n0, c0, F0, m0, k0, rfl⟩ := h0.form
  obtain ⟨L1, s1, A1, n1, c1, F1, m1, k1, rfl⟩ := h1.form
  obtain ⟨L3, s3, A3, n3, c3, F3, m3, k3, rfl⟩ := h3.form
  obtain ⟨u1, hu1, hb1, V0, V1⟩ := vars_two w h0 h1
  obtain ⟨u0, hu0, hb0, V3⟩ := var_new u1 (h3.on hb1)
  have hs : u1.heap.size = w.heap.size + 1 + 1 := by rw [hu1]; simp
  rw [hs] at V3
  exact ⟨L0, s0, A0, n0, c0, F0, m0, k0, L1, s1, A1, n1, c1, F1, m1, k1, L3, s3, A3, n3, c3, F3, m3, k3, u0, rfl, rfl, rfl, by rw [hu0, hu1], hb1.trans (hb0.mono hb1.size), V0.on hb0, V1.on hb0, V3⟩

set_option maxRecDepth 100000 in
set_option maxHeartbeats 16000000 in
theorem walk (v0 : Value) (d0 : Df.Aut) (v1 : Value) (d1 : Df.Aut) (a2 : Int) (v3 : Value) (d3 : Df.Aut) (w : World) (h0 : Df.DfaAt w w.heap.size v0 d0) (h1 : Df.DfaAt w w.heap.size v1 d1) (l2 : -9223372036854775808 ≤ a2) (h2 : a2 ≤ 9223372036854775807) (h3 : Df.DfaAt w w.heap.size v3 d3) (hg : w.cell? ⟨0, 0, none⟩ = some (.iface 132 (.agg #[.pointer (some ⟨1, 33, none⟩)]))) :
    Calls Tryd.prog 4 #[v0, v1, .int .i64 a2, v3] w fun e w' => e = .returned (.bool true) ∧ Below w.heap.size w w' := by
  obtain ⟨L0, s0, A0, n0, c0, F0, m0, k0, L1, s1, A1, n1, c1, F1, m1, k1, L3, s3, A3, n3, c3, F3, m3, k3, u0, rfl, rfl, rfl, hu0, hb0, VA0, VB0, VC0⟩ := three_new h0 h1 h3
  have VA := Lib.hid VA0
  have VB := Lib.hid VB0
  have VC := Lib.hid VC0
  have B := Lib.hid hb0
  have W0 := Lib.hid hu0
  have HG := Lib.hid hg
  clear VA0 VB0 VC0 hb0 hu0 h0 h1 h3 hg
  have HK := Lib.hid superFact_any
  rcases hko : keptO d0 d3 a2 with ⟨kb, kl, kn⟩
  rcases prod_two d0 d1 with ⟨k, hp⟩ | ⟨gg, l, hf⟩
  · obtain ⟨E2, hE2⟩ : ∃ E2, E2 = errV kn := ⟨_, rfl⟩
    have HB := Lib.hid (fun W v z (h : DfaAt W W.heap.size v d0) (h2 : DfaAt W W.heap.size z d1) => both_gives (E := errI ((k + 1 : Nat) : Int)) h h2 (hp _) rfl)
    have HP := Lib.hid (fun W v z (h : DfaAt W W.heap.size v d0) (h2 : DfaAt W W.heap.size z d3) => kept_gives (E := E2) h h2 hko hE2.symm)
    clear hp hko hE2 HG
    generalize ((k + 1 : Nat) : Int) = e at *
    generalize kl.length = n at *
    go_enter Tryd.func4, Tryd.ntmps4
    go_wp2_with fail
    rw [← W0.out]
    clear W0
    refine (HK.out _).mono ?_
    rintro e u1 ⟨rfl, hb⟩
    have VA := Lib.hid (VA.out.on hb)
    have VB := Lib.hid (VB.out.on hb)
    have VC := Lib.hid (VC.out.on hb)
    have B := Lib.hid (B.out.trans (hb.mono B.out.size))
    clear hb  HK
    obtain ⟨p0, p1, p2, p3, p4⟩ := VA.out.box
    obtain ⟨q0, q1, q2, q3, q4⟩ := VB.out.box
    go_wp2_with fail
    refine (HB.out _ _ _ VA.out.at_ VB.out.at_).mono ?_
    rintro e u2 ⟨L12, s12, A12, n12, c12, F12, m12, k12, rfl, hd, hb⟩
    have VA := Lib.hid (VA.out.on hb)
    have VB := Lib.hid (VB.out.on hb)
    have VC := Lib.hid (VC.out.on hb)
    have B := Lib.hid (B.out.trans (hb.mono B.out.size))
    clear hb p0 p1 p2 p3 p4 q0 q1 q2 q3 q4 HB
    obtain ⟨x2, hx2, hbn, Vn⟩ := var_new u2 hd.out
    have VO := Lib.hid Vn
    have VA := Lib.hid (VA.out.on hbn)
    have VB := Lib.hid (VB.out.on hbn)
    have VC := Lib.hid (VC.out.on hbn)
    have B := Lib.hid (B.out.trans (hbn.mono B.out.size))
    clear hbn Vn hd
    obtain ⟨p0, p1, p2, p3, p4⟩ := VA.out.box
    rw [hx2] at p1 p2 p3 p4
    obtain ⟨q0, q1, q2, q3, q4⟩ := VC.out.box
    rw [hx2] at q1 q2 q3 q4
    have HX := Lib.hid hx2
    clear hx2
    go_wp2_with fail
    rw [← HX.out]
    clear HX
    refine (HP.out _ _ _ VA.out.at_ VC.out.at_).mono ?_
    rintro e u3 ⟨AHI, cHI, rfl, hI, hb⟩
    have HI := Lib.hid hI.out.1
    have hlHI := hI.out.2
    have VA := Lib.hid (VA.out.on hb)
    have VB := Lib.hid (VB.out.on hb)
    have VC := Lib.hid (VC.out.on hb)
    have VO := Lib.hid (VO.out.on hb)
    have B := Lib.hid (B.out.trans (hb.mono B.out.size))
    clear hb hI p0 p1 p2 p3 p4 q0 q1 q2 q3 q4 HP
    clear HI
    go_wp2
    go_ret
    exact ⟨rfl, B.out⟩
  · have HB := Lib.hid (fun W v z (h : DfaAt W W.heap.size v d0) (h2 : DfaAt W W.heap.size z d1) => both_gives (E := .nilIface) h h2 (prod_ok gg hf _) rfl)
    by_cases hk : kn = 0
    · subst hk
      have HP := Lib.hid (fun W v z (h : DfaAt W W.heap.size v d0) (h2 : DfaAt W W.heap.size z d3) => kept_gives (E := .nilIface) h h2 hko rfl)
      rcases kb with _ | _
      · clear hf gg hko HG
        go_enter Tryd.func4, Tryd.ntmps4
        go_wp2_with fail
        rw [← W0.out]
        clear W0
        refine (HK.out _).mono ?_
        rintro e u1 ⟨rfl, hb⟩
        have VA := Lib.hid (VA.out.on hb)
        have VB := Lib.hid (VB.out.on hb)
        have VC := Lib.hid (VC.out.on hb)
        have B := Lib.hid (B.out.trans (hb.mono B.out.size))
        clear hb  HK
        obtain ⟨p0, p1, p2, p3, p4⟩ := VA.out.box
        obtain ⟨q0, q1, q2, q3, q4⟩ := VB.out.box
        go_wp2_with fail
        refine (HB.out _ _ _ VA.out.at_ VB.out.at_).mono ?_
        rintro e u2 ⟨L12, s12, A12, n12, c12, F12, m12, k12, rfl, hd, hb⟩
        have VA := Lib.hid (VA.out.on hb)
        have VB := Lib.hid (VB.out.on hb)
        have VC := Lib.hid (VC.out.on hb)
        have B := Lib.hid (B.out.trans (hb.mono B.out.size))
        clear hb p0 p1 p2 p3 p4 q0 q1 q2 q3 q4 HB
        obtain ⟨x2, hx2, hbn, Vn⟩ := var_new u2 hd.out
        have VO := Lib.hid Vn
        have VA := Lib.hid (VA.out.on hbn)
        have VB := Lib.hid (VB.out.on hbn)
        have VC := Lib.hid (VC.out.on hbn)
        have B := Lib.hid (B.out.trans (hbn.mono B.out.size))
        clear hbn Vn hd
        obtain ⟨p0, p1, p2, p3, p4⟩ := VA.out.box
        rw [hx2] at p1 p2 p3 p4
        obtain ⟨q0, q1, q2, q3, q4⟩ := VC.out.box
        rw [hx2] at q1 q2 q3 q4
        have HX := Lib.hid hx2
        clear hx2
        go_wp2_with fail
        rw [← HX.out]
        clear HX
        refine (HP.out _ _ _ VA.out.at_ VC.out.at_).mono ?_
        rintro e u3 ⟨AHI, cHI, rfl, hI, hb⟩
        have HI := Lib.hid hI.out.1
        have hlHI := hI.out.2
        have VA := Lib.hid (VA.out.on hb)
        have VB := Lib.hid (VB.out.on hb)
        have VC := Lib.hid (VC.out.on hb)
        have VO := Lib.hid (VO.out.on hb)
        have B := Lib.hid (B.out.trans (hb.mono B.out.size))
        clear hb hI p0 p1 p2 p3 p4 q0 q1 q2 q3 q4 HP
        clear HI
        go_wp2
        go_ret
        exact ⟨rfl, B.out⟩
      · have hp0 : plantE d0 d3 a2 = 0 := by
          rcases e : plantE d0 d3 a2 with _ | j
          · rfl
          · rw [keptO_bad (by rw [e]; omega)] at hko; cases hko
        have hctl : Ctl d0 a2 (accP d3) := by
          rcases e : keptW d0 d3 a2 with _ | u
          · exact keptW_none.1 e
          · rw [keptO_some hp0 e] at hko; cases hko
        obtain ⟨gm, _, _⟩ := plantE_ok hp0
        have hset := hp0
        unfold plantE at hset
        rw [if_neg (by have := chkD2_iff.2 gm; omega)] at hset
        have hps : plantE d0 d1 a2 = 0 := by
          unfold plantE
          rw [if_neg (by have := chkD2_iff.2 gg; omega)]
          exact hset
        have gO := prod_good gg hf (fun p => finA d0 p.1 && finA d1 p.2)
        have hacc := fun (u : List Int) (hu : Word d0.L u) => prod_acc gg hf (fun p q => p && q) hu
        have eO : (autOf d0.L (S2 d0 d1) l (fun p => finA d0 p.1 && finA d1 p.2)).L = d0.L := rfl
        generalize autOf d0.L (S2 d0 d1) l (fun p => finA d0 p.1 && finA d1 p.2) = O at *
        have eM : d3.L = d0.L := gm.eL.symm
        have gMO : Good2 d3 O := ⟨gm.gb, gO, eM.trans eO.symm⟩
        rcases prod_two d3 O with ⟨k2, hp2⟩ | ⟨_, l2, hf2⟩
        · have HBu := Lib.hid (fun W v z (h : DfaAt W W.heap.size v d3) (h2 : DfaAt W W.heap.size z O) => but_gives (E := errI ((k2 + 1 : Nat) : Int)) h h2 (hp2 _) rfl)
          clear hf gg hko HG hp0 hctl gm hset hps gO hacc eO eM gMO hp2
          generalize ((k2 + 1 : Nat) : Int) = e at *
          go_enter Tryd.func4, Tryd.ntmps4
          go_wp2_with fail
          rw [← W0.out]
          clear W0
          refine (HK.out _).mono ?_
          rintro e u1 ⟨rfl, hb⟩
          have VA := Lib.hid (VA.out.on hb)
          have VB := Lib.hid (VB.out.on hb)
          have VC := Lib.hid (VC.out.on hb)
          have B := Lib.hid (B.out.trans (hb.mono B.out.size))
          clear hb  HK
          obtain ⟨p0, p1, p2, p3, p4⟩ := VA.out.box
          obtain ⟨q0, q1, q2, q3, q4⟩ := VB.out.box
          go_wp2_with fail
          refine (HB.out _ _ _ VA.out.at_ VB.out.at_).mono ?_
          rintro e u2 ⟨L12, s12, A12, n12, c12, F12, m12, k12, rfl, hd, hb⟩
          have VA := Lib.hid (VA.out.on hb)
          have VB := Lib.hid (VB.out.on hb)
          have VC := Lib.hid (VC.out.on hb)
          have B := Lib.hid (B.out.trans (hb.mono B.out.size))
          clear hb p0 p1 p2 p3 p4 q0 q1 q2 q3 q4 HB
          obtain ⟨x2, hx2, hbn, Vn⟩ := var_new u2 hd.out
          have VO := Lib.hid Vn
          have VA := Lib.hid (VA.out.on hbn)
          have VB := Lib.hid (VB.out.on hbn)
          have VC := Lib.hid (VC.out.on hbn)
          have B := Lib.hid (B.out.trans (hbn.mono B.out.size))
          clear hbn Vn hd
          obtain ⟨p0, p1, p2, p3, p4⟩ := VA.out.box
          rw [hx2] at p1 p2 p3 p4
          obtain ⟨q0, q1, q2, q3, q4⟩ := VC.out.box
          rw [hx2] at q1 q2 q3 q4
          have HX := Lib.hid hx2
          clear hx2
          go_wp2_with fail
          rw [← HX.out]
          clear HX
          refine (HP.out _ _ _ VA.out.at_ VC.out.at_).mono ?_
          rintro e u3 ⟨AHI, cHI, rfl, hI, hb⟩
          have HI := Lib.hid hI.out.1
          have hlHI := hI.out.2
          have VA := Lib.hid (VA.out.on hb)
          have VB := Lib.hid (VB.out.on hb)
          have VC := Lib.hid (VC.out.on hb)
          have VO := Lib.hid (VO.out.on hb)
          have B := Lib.hid (B.out.trans (hb.mono B.out.size))
          clear hb hI p0 p1 p2 p3 p4 q0 q1 q2 q3 q4 HP
          clear HI
          obtain ⟨p0, p1, p2, p3, p4⟩ := VC.out.box
          obtain ⟨q0, q1, q2, q3, q4⟩ := VO.out.box
          go_wp2_with fail
          refine (HBu.out _ _ _ VC.out.at_ VO.out.at_).mono ?_
          rintro e u4 ⟨L14, s14, A14, n14, c14, F14, m14, k14, rfl, hd, hb⟩
          have VA := Lib.hid (VA.out.on hb)
          have VB := Lib.hid (VB.out.on hb)
          have VC := Lib.hid (VC.out.on hb)
          have VO := Lib.hid (VO.out.on hb)
          have B := Lib.hid (B.out.trans (hb.mono B.out.size))
          clear hb p0 p1 p2 p3 p4 q0 q1 q2 q3 q4 HBu
          obtain ⟨x4, hx4, hbn, Vn⟩ := var_new u4 hd.out
          have VU := Lib.hid Vn
          have VA := Lib.hid (VA.out.on hbn)
          have VB := Lib.hid (VB.out.on hbn)
          have VC := Lib.hid (VC.out.on hbn)
          have VO := Lib.hid (VO.out.on hbn)
          have B := Lib.hid (B.out.trans (hbn.mono B.out.size))
          clear hbn Vn hd
          rw [hx4] at B
          clear hx4
          go_wp2
          go_ret
          exact ⟨rfl, B.out⟩
        · have HBu := Lib.hid (fun W v z (h : DfaAt W W.heap.size v d3) (h2 : DfaAt W W.heap.size z O) => but_gives (E := .nilIface) h h2 (prod_ok gMO hf2 _) rfl)
          have gU := prod_good gMO hf2 (fun p => finA d3 p.1 && !finA O p.2)
          have haccU := fun (u : List Int) (hu : Word d3.L u) => prod_acc gMO hf2 (fun p q => p && !q) hu
          have eU : (autOf d3.L (S2 d3 O) l2 (fun p => finA d3 p.1 && !finA O p.2)).L = d3.L := rfl
          generalize autOf d3.L (S2 d3 O) l2 (fun p => finA d3 p.1 && !finA O p.2) = U at *
          rcases hfu : firstW U U.s.toNat with _ | u9
          · have HF := Lib.hid (fun W v (h : DfaAt W W.heap.size v U) => first_gives (E := errI 5) h (firstOut_none (dchk_iff.2 gU) hfu) rfl)
            have hin : ∀ u, Word d0.L u → accA d3 u = true → sup d0 d1 a2 u := fun u hu ha => kept_within hctl (fun w hw haw => by
              have h1 : accA U w = false := firstW_none gU gU.s_lt hfu (by rw [eU, eM]; exact hw)
              rw [haccU w (by rw [eM]; exact hw), haw, hacc w hw] at h1
              simpa using h1) hu ha
            obtain ⟨r, k5, hs⟩ := supI_ex d0 d1 a2
            rcases most_err hs hps hf with rfl | ⟨rfl, rfl, hno⟩
            · have ho : SupOk d0 d1 a2 r := by
                rcases supI_two hs with ⟨_, h⟩ | ⟨h, _⟩
                · exact h
                · exact absurd rfl h
              have HM := Lib.hid (fun W v z (h : DfaAt W W.heap.size v d0) (h2 : DfaAt W W.heap.size z d1) => smake_gives (E := .nilIface) h h2 hs rfl)
              have gMR : Good2 d3 r := ⟨gm.gb, ho.gr, eM.trans ho.eL.symm⟩
              rcases hf3 : found (S2 d3 r) (start2 d3 r) with _ | l3
              · have HBy := Lib.hid (fun W v z (h : DfaAt W W.heap.size v d3) (h2 : DfaAt W W.heap.size z r) => but_gives (E := errI 4) h h2 (prodOut_full (chkD2_iff.2 gMR) hf3) rfl)
                have HE := Lib.hid (fun W (hb : Below w.heap.size w W) => says_gives HG.out 4 (E := errI 4) (K := 4) rfl rfl W hb)
                clear hf gg hko hp0 hctl gm hset hps gO hacc eO eM gMO hf2 gU haccU eU hfu hin hs ho gMR hf3 HG
                go_enter Tryd.func4, Tryd.ntmps4
                go_wp2_with fail
                rw [← W0.out]
                clear W0
                refine (HK.out _).mono ?_
                rintro e u1 ⟨rfl, hb⟩
                have VA := Lib.hid (VA.out.on hb)
                have VB := Lib.hid (VB.out.on hb)
                have VC := Lib.hid (VC.out.on hb)
                have B := Lib.hid (B.out.trans (hb.mono B.out.size))
                clear hb  HK
                obtain ⟨p0, p1, p2, p3, p4⟩ := VA.out.box
                obtain ⟨q0, q1, q2, q3, q4⟩ := VB.out.box
                go_wp2_with fail
                refine (HB.out _ _ _ VA.out.at_ VB.out.at_).mono ?_
                rintro e u2 ⟨L12, s12, A12, n12, c12, F12, m12, k12, rfl, hd, hb⟩
                have VA := Lib.hid (VA.out.on hb)
                have VB := Lib.hid (VB.out.on hb)
                have VC := Lib.hid (VC.out.on hb)
                have B := Lib.hid (B.out.trans (hb.mono B.out.size))
                clear hb p0 p1 p2 p3 p4 q0 q1 q2 q3 q4 HB
                obtain ⟨x2, hx2, hbn, Vn⟩ := var_new u2 hd.out
                have VO := Lib.hid Vn
                have VA := Lib.hid (VA.out.on hbn)
                have VB := Lib.hid (VB.out.on hbn)
                have VC := Lib.hid (VC.out.on hbn)
                have B := Lib.hid (B.out.trans (hbn.mono B.out.size))
                clear hbn Vn hd
                obtain ⟨p0, p1, p2, p3, p4⟩ := VA.out.box
                rw [hx2] at p1 p2 p3 p4
                obtain ⟨q0, q1, q2, q3, q4⟩ := VC.out.box
                rw [hx2] at q1 q2 q3 q4
                have HX := Lib.hid hx2
                clear hx2
                go_wp2_with fail
                rw [← HX.out]
                clear HX
                refine (HP.out _ _ _ VA.out.at_ VC.out.at_).mono ?_
                rintro e u3 ⟨AHI, cHI, rfl, hI, hb⟩
                have HI := Lib.hid hI.out.1
                have hlHI := hI.out.2
                have VA := Lib.hid (VA.out.on hb)
                have VB := Lib.hid (VB.out.on hb)
                have VC := Lib.hid (VC.out.on hb)
                have VO := Lib.hid (VO.out.on hb)
                have B := Lib.hid (B.out.trans (hb.mono B.out.size))
                clear hb hI p0 p1 p2 p3 p4 q0 q1 q2 q3 q4 HP
                clear HI
                obtain ⟨p0, p1, p2, p3, p4⟩ := VC.out.box
                obtain ⟨q0, q1, q2, q3, q4⟩ := VO.out.box
                go_wp2_with fail
                refine (HBu.out _ _ _ VC.out.at_ VO.out.at_).mono ?_
                rintro e u4 ⟨L14, s14, A14, n14, c14, F14, m14, k14, rfl, hd, hb⟩
                have VA := Lib.hid (VA.out.on hb)
                have VB := Lib.hid (VB.out.on hb)
                have VC := Lib.hid (VC.out.on hb)
                have VO := Lib.hid (VO.out.on hb)
                have B := Lib.hid (B.out.trans (hb.mono B.out.size))
                clear hb p0 p1 p2 p3 p4 q0 q1 q2 q3 q4 HBu
                obtain ⟨x4, hx4, hbn, Vn⟩ := var_new u4 hd.out
                have VU := Lib.hid Vn
                have VA := Lib.hid (VA.out.on hbn)
                have VB := Lib.hid (VB.out.on hbn)
                have VC := Lib.hid (VC.out.on hbn)
                have VO := Lib.hid (VO.out.on hbn)
                have B := Lib.hid (B.out.trans (hbn.mono B.out.size))
                clear hbn Vn hd
                obtain ⟨p0, p1, p2, p3, p4⟩ := VU.out.box
                rw [hx4] at p1 p2 p3 p4
                have HX := Lib.hid hx4
                clear hx4
                go_wp2_with fail
                rw [← HX.out]
                clear HX
                refine (HF.out _ _ VU.out.at_).mono ?_
                rintro e u5 ⟨AHI, cHI, rfl, hI, hb⟩
                have HI := Lib.hid hI.out
                have VA := Lib.hid (VA.out.on hb)
                have VB := Lib.hid (VB.out.on hb)
                have VC := Lib.hid (VC.out.on hb)
                have VO := Lib.hid (VO.out.on hb)
                have VU := Lib.hid (VU.out.on hb)
                have B := Lib.hid (B.out.trans (hb.mono B.out.size))
                clear hb hI p0 p1 p2 p3 p4 HF
                clear HI
                obtain ⟨p0, p1, p2, p3, p4⟩ := VA.out.box
                obtain ⟨q0, q1, q2, q3, q4⟩ := VB.out.box
                go_wp2_with fail
                refine (HM.out _ _ _ VA.out.at_ VB.out.at_).mono ?_
                rintro e u6 ⟨L16, s16, A16, n16, c16, F16, m16, k16, rfl, hd, hb⟩
                have VA := Lib.hid (VA.out.on hb)
                have VB := Lib.hid (VB.out.on hb)
                have VC := Lib.hid (VC.out.on hb)
                have VO := Lib.hid (VO.out.on hb)
                have VU := Lib.hid (VU.out.on hb)
                have B := Lib.hid (B.out.trans (hb.mono B.out.size))
                clear hb p0 p1 p2 p3 p4 q0 q1 q2 q3 q4 HM
                obtain ⟨x6, hx6, hbn, Vn⟩ := var_new u6 hd.out
                have VR := Lib.hid Vn
                have VA := Lib.hid (VA.out.on hbn)
                have VB := Lib.hid (VB.out.on hbn)
                have VC := Lib.hid (VC.out.on hbn)
                have VO := Lib.hid (VO.out.on hbn)
                have VU := Lib.hid (VU.out.on hbn)
                have B := Lib.hid (B.out.trans (hbn.mono B.out.size))
                clear hbn Vn hd
                obtain ⟨p0, p1, p2, p3, p4⟩ := VC.out.box
                rw [hx6] at p1 p2 p3 p4
                obtain ⟨q0, q1, q2, q3, q4⟩ := VR.out.box
                rw [hx6] at q1 q2 q3 q4
                have HX := Lib.hid hx6
                clear hx6
                go_wp2_with fail
                rw [← HX.out]
                clear HX
                refine (HBy.out _ _ _ VC.out.at_ VR.out.at_).mono ?_
                rintro e u7 ⟨L17, s17, A17, n17, c17, F17, m17, k17, rfl, hd, hb⟩
                have VA := Lib.hid (VA.out.on hb)
                have VB := Lib.hid (VB.out.on hb)
                have VC := Lib.hid (VC.out.on hb)
                have VO := Lib.hid (VO.out.on hb)
                have VU := Lib.hid (VU.out.on hb)
                have VR := Lib.hid (VR.out.on hb)
                have B := Lib.hid (B.out.trans (hb.mono B.out.size))
                clear hb p0 p1 p2 p3 p4 q0 q1 q2 q3 q4 HBy
                obtain ⟨x7, hx7, hbn, Vn⟩ := var_new u7 hd.out
                have VY := Lib.hid Vn
                have VA := Lib.hid (VA.out.on hbn)
                have VB := Lib.hid (VB.out.on hbn)
                have VC := Lib.hid (VC.out.on hbn)
                have VO := Lib.hid (VO.out.on hbn)
                have VU := Lib.hid (VU.out.on hbn)
                have VR := Lib.hid (VR.out.on hbn)
                have B := Lib.hid (B.out.trans (hbn.mono B.out.size))
                clear hbn Vn hd
                have HX := Lib.hid hx7
                clear hx7
                go_wp2_with fail
                rw [← HX.out]
                clear HX
                refine (HE.out _ B.out).mono ?_
                rintro e u8 ⟨rfl, hb⟩
                have VA := Lib.hid (VA.out.on hb)
                have VB := Lib.hid (VB.out.on hb)
                have VC := Lib.hid (VC.out.on hb)
                have VO := Lib.hid (VO.out.on hb)
                have VU := Lib.hid (VU.out.on hb)
                have VR := Lib.hid (VR.out.on hb)
                have VY := Lib.hid (VY.out.on hb)
                have B := Lib.hid (B.out.trans (hb.mono B.out.size))
                clear hb  HE
                go_wp2
                go_ret
                exact ⟨rfl, B.out⟩
              · have HBy := Lib.hid (fun W v z (h : DfaAt W W.heap.size v d3) (h2 : DfaAt W W.heap.size z r) => but_gives (E := .nilIface) h h2 (prod_ok gMR hf3 _) rfl)
                have gY := prod_good gMR hf3 (fun p => finA d3 p.1 && !finA r p.2)
                have haccY := fun (u : List Int) (hu : Word d3.L u) => prod_acc gMR hf3 (fun p q => p && !q) hu
                have hY : firstOut (autOf d3.L (S2 d3 r) l3 (fun p => finA d3 p.1 && !finA r p.2)) = ([], 5) := none_is gY fun u hu => by
                  have hu : Word d3.L u := hu
                  have hu0 : Word d0.L u := by rw [← eM]; exact hu
                  rw [haccY u hu]
                  rcases e : accA d3 u with _ | _
                  · rfl
                  · rw [(ho.is u hu0).2 (hin u hu0 e)]; rfl
                generalize autOf d3.L (S2 d3 r) l3 (fun p => finA d3 p.1 && !finA r p.2) = Y at *
                have HF2 := Lib.hid (fun W v (h : DfaAt W W.heap.size v Y) => first_gives (E := errI 5) h hY rfl)
                have HE := Lib.hid (fun W (hb : Below w.heap.size w W) => says_gives HG.out 5 (E := errI 5) (K := 5) rfl rfl W hb)
                clear hf gg hko hp0 hctl gm hset hps gO hacc eO eM gMO hf2 gU haccU eU hfu hin hs ho gMR hf3 gY haccY hY HG
                go_enter Tryd.func4, Tryd.ntmps4
                go_wp2_with fail
                rw [← W0.out]
                clear W0
                refine (HK.out _).mono ?_
                rintro e u1 ⟨rfl, hb⟩
                have VA := Lib.hid (VA.out.on hb)
                have VB := Lib.hid (VB.out.on hb)
                have VC := Lib.hid (VC.out.on hb)
                have B := Lib.hid (B.out.trans (hb.mono B.out.size))
                clear hb  HK
                obtain ⟨p0, p1, p2, p3, p4⟩ := VA.out.box
                obtain ⟨q0, q1, q2, q3, q4⟩ := VB.out.box
                go_wp2_with fail
                refine (HB.out _ _ _ VA.out.at_ VB.out.at_).mono ?_
                rintro e u2 ⟨L12, s12, A12, n12, c12, F12, m12, k12, rfl, hd, hb⟩
                have VA := Lib.hid (VA.out.on hb)
                have VB := Lib.hid (VB.out.on hb)
                have VC := Lib.hid (VC.out.on hb)
                have B := Lib.hid (B.out.trans (hb.mono B.out.size))
                clear hb p0 p1 p2 p3 p4 q0 q1 q2 q3 q4 HB
                obtain ⟨x2, hx2, hbn, Vn⟩ := var_new u2 hd.out
                have VO := Lib.hid Vn
                have VA := Lib.hid (VA.out.on hbn)
                have VB := Lib.hid (VB.out.on hbn)
                have VC := Lib.hid (VC.out.on hbn)
                have B := Lib.hid (B.out.trans (hbn.mono B.out.size))
                clear hbn Vn hd
                obtain ⟨p0, p1, p2, p3, p4⟩ := VA.out.box
                rw [hx2] at p1 p2 p3 p4
                obtain ⟨q0, q1, q2, q3, q4⟩ := VC.out.box
                rw [hx2] at q1 q2 q3 q4
                have HX := Lib.hid hx2
                clear hx2
                go_wp2_with fail
                rw [← HX.out]
                clear HX
                refine (HP.out _ _ _ VA.out.at_ VC.out.at_).mono ?_
                rintro e u3 ⟨AHI, cHI, rfl, hI, hb⟩
                have HI := Lib.hid hI.out.1
                have hlHI := hI.out.2
                have VA := Lib.hid (VA.out.on hb)
                have VB := Lib.hid (VB.out.on hb)
                have VC := Lib.hid (VC.out.on hb)
                have VO := Lib.hid (VO.out.on hb)
                have B := Lib.hid (B.out.trans (hb.mono B.out.size))
                clear hb hI p0 p1 p2 p3 p4 q0 q1 q2 q3 q4 HP
                clear HI
                obtain ⟨p0, p1, p2, p3, p4⟩ := VC.out.box
                obtain ⟨q0, q1, q2, q3, q4⟩ := VO.out.box
                go_wp2_with fail
                refine (HBu.out _ _ _ VC.out.at_ VO.out.at_).mono ?_
                rintro e u4 ⟨L14, s14, A14, n14, c14, F14, m14, k14, rfl, hd, hb⟩
                have VA := Lib.hid (VA.out.on hb)
                have VB := Lib.hid (VB.out.on hb)
                have VC := Lib.hid (VC.out.on hb)
                have VO := Lib.hid (VO.out.on hb)
                have B := Lib.hid (B.out.trans (hb.mono B.out.size))
                clear hb p0 p1 p2 p3 p4 q0 q1 q2 q3 q4 HBu
                obtain ⟨x4, hx4, hbn, Vn⟩ := var_new u4 hd.out
                have VU := Lib.hid Vn
                have VA := Lib.hid (VA.out.on hbn)
                have VB := Lib.hid (VB.out.on hbn)
                have VC := Lib.hid (VC.out.on hbn)
                have VO := Lib.hid (VO.out.on hbn)
                have B := Lib.hid (B.out.trans (hbn.mono B.out.size))
                clear hbn Vn hd
                obtain ⟨p0, p1, p2, p3, p4⟩ := VU.out.box
                rw [hx4] at p1 p2 p3 p4
                have HX := Lib.hid hx4
                clear hx4
                go_wp2_with fail
                rw [← HX.out]
                clear HX
                refine (HF.out _ _ VU.out.at_).mono ?_
                rintro e u5 ⟨AHI, cHI, rfl, hI, hb⟩
                have HI := Lib.hid hI.out
                have VA := Lib.hid (VA.out.on hb)
                have VB := Lib.hid (VB.out.on hb)
                have VC := Lib.hid (VC.out.on hb)
                have VO := Lib.hid (VO.out.on hb)
                have VU := Lib.hid (VU.out.on hb)
                have B := Lib.hid (B.out.trans (hb.mono B.out.size))
                clear hb hI p0 p1 p2 p3 p4 HF
                clear HI
                obtain ⟨p0, p1, p2, p3, p4⟩ := VA.out.box
                obtain ⟨q0, q1, q2, q3, q4⟩ := VB.out.box
                go_wp2_with fail
                refine (HM.out _ _ _ VA.out.at_ VB.out.at_).mono ?_
                rintro e u6 ⟨L16, s16, A16, n16, c16, F16, m16, k16, rfl, hd, hb⟩
                have VA := Lib.hid (VA.out.on hb)
                have VB := Lib.hid (VB.out.on hb)
                have VC := Lib.hid (VC.out.on hb)
                have VO := Lib.hid (VO.out.on hb)
                have VU := Lib.hid (VU.out.on hb)
                have B := Lib.hid (B.out.trans (hb.mono B.out.size))
                clear hb p0 p1 p2 p3 p4 q0 q1 q2 q3 q4 HM
                obtain ⟨x6, hx6, hbn, Vn⟩ := var_new u6 hd.out
                have VR := Lib.hid Vn
                have VA := Lib.hid (VA.out.on hbn)
                have VB := Lib.hid (VB.out.on hbn)
                have VC := Lib.hid (VC.out.on hbn)
                have VO := Lib.hid (VO.out.on hbn)
                have VU := Lib.hid (VU.out.on hbn)
                have B := Lib.hid (B.out.trans (hbn.mono B.out.size))
                clear hbn Vn hd
                obtain ⟨p0, p1, p2, p3, p4⟩ := VC.out.box
                rw [hx6] at p1 p2 p3 p4
                obtain ⟨q0, q1, q2, q3, q4⟩ := VR.out.box
                rw [hx6] at q1 q2 q3 q4
                have HX := Lib.hid hx6
                clear hx6
                go_wp2_with fail
                rw [← HX.out]
                clear HX
                refine (HBy.out _ _ _ VC.out.at_ VR.out.at_).mono ?_
                rintro e u7 ⟨L17, s17, A17, n17, c17, F17, m17, k17, rfl, hd, hb⟩
                have VA := Lib.hid (VA.out.on hb)
                have VB := Lib.hid (VB.out.on hb)
                have VC := Lib.hid (VC.out.on hb)
                have VO := Lib.hid (VO.out.on hb)
                have VU := Lib.hid (VU.out.on hb)
                have VR := Lib.hid (VR.out.on hb)
                have B := Lib.hid (B.out.trans (hb.mono B.out.size))
                clear hb p0 p1 p2 p3 p4 q0 q1 q2 q3 q4 HBy
                obtain ⟨x7, hx7, hbn, Vn⟩ := var_new u7 hd.out
                have VY := Lib.hid Vn
                have VA := Lib.hid (VA.out.on hbn)
                have VB := Lib.hid (VB.out.on hbn)
                have VC := Lib.hid (VC.out.on hbn)
                have VO := Lib.hid (VO.out.on hbn)
                have VU := Lib.hid (VU.out.on hbn)
                have VR := Lib.hid (VR.out.on hbn)
                have B := Lib.hid (B.out.trans (hbn.mono B.out.size))
                clear hbn Vn hd
                obtain ⟨p0, p1, p2, p3, p4⟩ := VY.out.box
                rw [hx7] at p1 p2 p3 p4
                have HX := Lib.hid hx7
                clear hx7
                go_wp2_with fail
                rw [← HX.out]
                clear HX
                refine (HF2.out _ _ VY.out.at_).mono ?_
                rintro e u8 ⟨AHI, cHI, rfl, hI, hb⟩
                have HI := Lib.hid hI.out
                have VA := Lib.hid (VA.out.on hb)
                have VB := Lib.hid (VB.out.on hb)
                have VC := Lib.hid (VC.out.on hb)
                have VO := Lib.hid (VO.out.on hb)
                have VU := Lib.hid (VU.out.on hb)
                have VR := Lib.hid (VR.out.on hb)
                have VY := Lib.hid (VY.out.on hb)
                have B := Lib.hid (B.out.trans (hb.mono B.out.size))
                clear hb hI p0 p1 p2 p3 p4 HF2
                clear HI
                go_wp2_with fail
                refine (HE.out _ B.out).mono ?_
                rintro e u9 ⟨rfl, hb⟩
                have VA := Lib.hid (VA.out.on hb)
                have VB := Lib.hid (VB.out.on hb)
                have VC := Lib.hid (VC.out.on hb)
                have VO := Lib.hid (VO.out.on hb)
                have VU := Lib.hid (VU.out.on hb)
                have VR := Lib.hid (VR.out.on hb)
                have VY := Lib.hid (VY.out.on hb)
                have B := Lib.hid (B.out.trans (hb.mono B.out.size))
                clear hb  HE
                go_wp2
                go_ret
                exact ⟨rfl, B.out⟩
            · have HM := Lib.hid (fun W v z (h : DfaAt W W.heap.size v d0) (h2 : DfaAt W W.heap.size z d1) => smake_gives (E := errI 5) h h2 hs rfl)
              have hM : firstOut d3 = ([], 5) := none_is gm.gb fun u hu => by
                have hu0 : Word d0.L u := by rw [← eM]; exact hu
                rcases e : accA d3 u with _ | _
                · rfl
                · exact absurd (hin u hu0 e) (hno u hu0)
              have HF2 := Lib.hid (fun W v (h : DfaAt W W.heap.size v d3) => first_gives (E := errI 5) h hM rfl)
              have HE := Lib.hid (fun W (hb : Below w.heap.size w W) => says_gives HG.out 5 (E := errI 5) (K := 5) rfl rfl W hb)
              clear hf gg hko hp0 hctl gm hset hps gO hacc eO eM gMO hf2 gU haccU eU hfu hin hs hno hM HG
              go_enter Tryd.func4, Tryd.ntmps4
              go_wp2_with fail
              rw [← W0.out]
              clear W0
              refine (HK.out _).mono ?_
              rintro e u1 ⟨rfl, hb⟩
              have VA := Lib.hid (VA.out.on hb)
              have VB := Lib.hid (VB.out.on hb)
              have VC := Lib.hid (VC.out.on hb)
              have B := Lib.hid (B.out.trans (hb.mono B.out.size))
              clear hb  HK
              obtain ⟨p0, p1, p2, p3, p4⟩ := VA.out.box
              obtain ⟨q0, q1, q2, q3, q4⟩ := VB.out.box
              go_wp2_with fail
              refine (HB.out _ _ _ VA.out.at_ VB.out.at_).mono ?_
              rintro e u2 ⟨L12, s12, A12, n12, c12, F12, m12, k12, rfl, hd, hb⟩
              have VA := Lib.hid (VA.out.on hb)
              have VB := Lib.hid (VB.out.on hb)
              have VC := Lib.hid (VC.out.on hb)
              have B := Lib.hid (B.out.trans (hb.mono B.out.size))
              clear hb p0 p1 p2 p3 p4 q0 q1 q2 q3 q4 HB
              obtain ⟨x2, hx2, hbn, Vn⟩ := var_new u2 hd.out
              have VO := Lib.hid Vn
              have VA := Lib.hid (VA.out.on hbn)
              have VB := Lib.hid (VB.out.on hbn)
              have VC := Lib.hid (VC.out.on hbn)
              have B := Lib.hid (B.out.trans (hbn.mono B.out.size))
              clear hbn Vn hd
              obtain ⟨p0, p1, p2, p3, p4⟩ := VA.out.box
              rw [hx2] at p1 p2 p3 p4
              obtain ⟨q0, q1, q2, q3, q4⟩ := VC.out.box
              rw [hx2] at q1 q2 q3 q4
              have HX := Lib.hid hx2
              clear hx2
              go_wp2_with fail
              rw [← HX.out]
              clear HX
              refine (HP.out _ _ _ VA.out.at_ VC.out.at_).mono ?_
              rintro e u3 ⟨AHI, cHI, rfl, hI, hb⟩
              have HI := Lib.hid hI.out.1
              have hlHI := hI.out.2
              have VA := Lib.hid (VA.out.on hb)
              have VB := Lib.hid (VB.out.on hb)
              have VC := Lib.hid (VC.out.on hb)
              have VO := Lib.hid (VO.out.on hb)
              have B := Lib.hid (B.out.trans (hb.mono B.out.size))
              clear hb hI p0 p1 p2 p3 p4 q0 q1 q2 q3 q4 HP
              clear HI
              obtain ⟨p0, p1, p2, p3, p4⟩ := VC.out.box
              obtain ⟨q0, q1, q2, q3, q4⟩ := VO.out.box
              go_wp2_with fail
              refine (HBu.out _ _ _ VC.out.at_ VO.out.at_).mono ?_
              rintro e u4 ⟨L14, s14, A14, n14, c14, F14, m14, k14, rfl, hd, hb⟩
              have VA := Lib.hid (VA.out.on hb)
              have VB := Lib.hid (VB.out.on hb)
              have VC := Lib.hid (VC.out.on hb)
              have VO := Lib.hid (VO.out.on hb)
              have B := Lib.hid (B.out.trans (hb.mono B.out.size))
              clear hb p0 p1 p2 p3 p4 q0 q1 q2 q3 q4 HBu
              obtain ⟨x4, hx4, hbn, Vn⟩ := var_new u4 hd.out
              have VU := Lib.hid Vn
              have VA := Lib.hid (VA.out.on hbn)
              have VB := Lib.hid (VB.out.on hbn)
              have VC := Lib.hid (VC.out.on hbn)
              have VO := Lib.hid (VO.out.on hbn)
              have B := Lib.hid (B.out.trans (hbn.mono B.out.size))
              clear hbn Vn hd
              obtain ⟨p0, p1, p2, p3, p4⟩ := VU.out.box
              rw [hx4] at p1 p2 p3 p4
              have HX := Lib.hid hx4
              clear hx4
              go_wp2_with fail
              rw [← HX.out]
              clear HX
              refine (HF.out _ _ VU.out.at_).mono ?_
              rintro e u5 ⟨AHI, cHI, rfl, hI, hb⟩
              have HI := Lib.hid hI.out
              have VA := Lib.hid (VA.out.on hb)
              have VB := Lib.hid (VB.out.on hb)
              have VC := Lib.hid (VC.out.on hb)
              have VO := Lib.hid (VO.out.on hb)
              have VU := Lib.hid (VU.out.on hb)
              have B := Lib.hid (B.out.trans (hb.mono B.out.size))
              clear hb hI p0 p1 p2 p3 p4 HF
              clear HI
              obtain ⟨p0, p1, p2, p3, p4⟩ := VA.out.box
              obtain ⟨q0, q1, q2, q3, q4⟩ := VB.out.box
              go_wp2_with fail
              refine (HM.out _ _ _ VA.out.at_ VB.out.at_).mono ?_
              rintro e u6 ⟨L16, s16, A16, n16, c16, F16, m16, k16, rfl, hd, hb⟩
              have VA := Lib.hid (VA.out.on hb)
              have VB := Lib.hid (VB.out.on hb)
              have VC := Lib.hid (VC.out.on hb)
              have VO := Lib.hid (VO.out.on hb)
              have VU := Lib.hid (VU.out.on hb)
              have B := Lib.hid (B.out.trans (hb.mono B.out.size))
              clear hb p0 p1 p2 p3 p4 q0 q1 q2 q3 q4 HM
              obtain ⟨x6, hx6, hbn, Vn⟩ := var_new u6 hd.out
              have VR := Lib.hid Vn
              have VA := Lib.hid (VA.out.on hbn)
              have VB := Lib.hid (VB.out.on hbn)
              have VC := Lib.hid (VC.out.on hbn)
              have VO := Lib.hid (VO.out.on hbn)
              have VU := Lib.hid (VU.out.on hbn)
              have B := Lib.hid (B.out.trans (hbn.mono B.out.size))
              clear hbn Vn hd
              obtain ⟨p0, p1, p2, p3, p4⟩ := VC.out.box
              rw [hx6] at p1 p2 p3 p4
              have HX := Lib.hid hx6
              clear hx6
              go_wp2_with fail
              rw [← HX.out]
              clear HX
              refine (HF2.out _ _ VC.out.at_).mono ?_
              rintro e u7 ⟨AHI, cHI, rfl, hI, hb⟩
              have HI := Lib.hid hI.out
              have VA := Lib.hid (VA.out.on hb)
              have VB := Lib.hid (VB.out.on hb)
              have VC := Lib.hid (VC.out.on hb)
              have VO := Lib.hid (VO.out.on hb)
              have VU := Lib.hid (VU.out.on hb)
              have VR := Lib.hid (VR.out.on hb)
              have B := Lib.hid (B.out.trans (hb.mono B.out.size))
              clear hb hI p0 p1 p2 p3 p4 HF2
              clear HI
              go_wp2_with fail
              refine (HE.out _ B.out).mono ?_
              rintro e u8 ⟨rfl, hb⟩
              have VA := Lib.hid (VA.out.on hb)
              have VB := Lib.hid (VB.out.on hb)
              have VC := Lib.hid (VC.out.on hb)
              have VO := Lib.hid (VO.out.on hb)
              have VU := Lib.hid (VU.out.on hb)
              have VR := Lib.hid (VR.out.on hb)
              have B := Lib.hid (B.out.trans (hb.mono B.out.size))
              clear hb  
              go_wp2_with fail
              refine (HE.out _ B.out).mono ?_
              rintro e u9 ⟨rfl, hb⟩
              have VA := Lib.hid (VA.out.on hb)
              have VB := Lib.hid (VB.out.on hb)
              have VC := Lib.hid (VC.out.on hb)
              have VO := Lib.hid (VO.out.on hb)
              have VU := Lib.hid (VU.out.on hb)
              have VR := Lib.hid (VR.out.on hb)
              have B := Lib.hid (B.out.trans (hb.mono B.out.size))
              clear hb  HE
              go_wp2
              go_ret
              exact ⟨rfl, B.out⟩
          · have HF := Lib.hid (fun W v (h : DfaAt W W.heap.size v U) => first_gives (E := .nilIface) h (firstOut_some (dchk_iff.2 gU) hfu) rfl)
            clear hf gg hko hp0 hctl gm hset hps gO hacc eO eM gMO hf2 gU haccU eU hfu HG
            go_enter Tryd.func4, Tryd.ntmps4
            go_wp2_with fail
            rw [← W0.out]
            clear W0
            refine (HK.out _).mono ?_
            rintro e u1 ⟨rfl, hb⟩
            have VA := Lib.hid (VA.out.on hb)
            have VB := Lib.hid (VB.out.on hb)
            have VC := Lib.hid (VC.out.on hb)
            have B := Lib.hid (B.out.trans (hb.mono B.out.size))
            clear hb  HK
            obtain ⟨p0, p1, p2, p3, p4⟩ := VA.out.box
            obtain ⟨q0, q1, q2, q3, q4⟩ := VB.out.box
            go_wp2_with fail
            refine (HB.out _ _ _ VA.out.at_ VB.out.at_).mono ?_
            rintro e u2 ⟨L12, s12, A12, n12, c12, F12, m12, k12, rfl, hd, hb⟩
            have VA := Lib.hid (VA.out.on hb)
            have VB := Lib.hid (VB.out.on hb)
            have VC := Lib.hid (VC.out.on hb)
            have B := Lib.hid (B.out.trans (hb.mono B.out.size))
            clear hb p0 p1 p2 p3 p4 q0 q1 q2 q3 q4 HB
            obtain ⟨x2, hx2, hbn, Vn⟩ := var_new u2 hd.out
            have VO := Lib.hid Vn
            have VA := Lib.hid (VA.out.on hbn)
            have VB := Lib.hid (VB.out.on hbn)
            have VC := Lib.hid (VC.out.on hbn)
            have B := Lib.hid (B.out.trans (hbn.mono B.out.size))
            clear hbn Vn hd
            obtain ⟨p0, p1, p2, p3, p4⟩ := VA.out.box
            rw [hx2] at p1 p2 p3 p4
            obtain ⟨q0, q1, q2, q3, q4⟩ := VC.out.box
            rw [hx2] at q1 q2 q3 q4
            have HX := Lib.hid hx2
            clear hx2
            go_wp2_with fail
            rw [← HX.out]
            clear HX
            refine (HP.out _ _ _ VA.out.at_ VC.out.at_).mono ?_
            rintro e u3 ⟨AHI, cHI, rfl, hI, hb⟩
            have HI := Lib.hid hI.out.1
            have hlHI := hI.out.2
            have VA := Lib.hid (VA.out.on hb)
            have VB := Lib.hid (VB.out.on hb)
            have VC := Lib.hid (VC.out.on hb)
            have VO := Lib.hid (VO.out.on hb)
            have B := Lib.hid (B.out.trans (hb.mono B.out.size))
            clear hb hI p0 p1 p2 p3 p4 q0 q1 q2 q3 q4 HP
            clear HI
            obtain ⟨p0, p1, p2, p3, p4⟩ := VC.out.box
            obtain ⟨q0, q1, q2, q3, q4⟩ := VO.out.box
            go_wp2_with fail
            refine (HBu.out _ _ _ VC.out.at_ VO.out.at_).mono ?_
            rintro e u4 ⟨L14, s14, A14, n14, c14, F14, m14, k14, rfl, hd, hb⟩
            have VA := Lib.hid (VA.out.on hb)
            have VB := Lib.hid (VB.out.on hb)
            have VC := Lib.hid (VC.out.on hb)
            have VO := Lib.hid (VO.out.on hb)
            have B := Lib.hid (B.out.trans (hb.mono B.out.size))
            clear hb p0 p1 p2 p3 p4 q0 q1 q2 q3 q4 HBu
            obtain ⟨x4, hx4, hbn, Vn⟩ := var_new u4 hd.out
            have VU := Lib.hid Vn
            have VA := Lib.hid (VA.out.on hbn)
            have VB := Lib.hid (VB.out.on hbn)
            have VC := Lib.hid (VC.out.on hbn)
            have VO := Lib.hid (VO.out.on hbn)
            have B := Lib.hid (B.out.trans (hbn.mono B.out.size))
            clear hbn Vn hd
            obtain ⟨p0, p1, p2, p3, p4⟩ := VU.out.box
            rw [hx4] at p1 p2 p3 p4
            have HX := Lib.hid hx4
            clear hx4
            go_wp2_with fail
            rw [← HX.out]
            clear HX
            refine (HF.out _ _ VU.out.at_).mono ?_
            rintro e u5 ⟨AHI, cHI, rfl, hI, hb⟩
            have HI := Lib.hid hI.out
            have VA := Lib.hid (VA.out.on hb)
            have VB := Lib.hid (VB.out.on hb)
            have VC := Lib.hid (VC.out.on hb)
            have VO := Lib.hid (VO.out.on hb)
            have VU := Lib.hid (VU.out.on hb)
            have B := Lib.hid (B.out.trans (hb.mono B.out.size))
            clear hb hI p0 p1 p2 p3 p4 HF
            clear HI
            go_wp2
            go_ret
            exact ⟨rfl, B.out⟩
    · obtain ⟨E, hE⟩ := errV_bad hk
      have HP := Lib.hid (fun W v z (h : DfaAt W W.heap.size v d0) (h2 : DfaAt W W.heap.size z d3) => kept_gives (E := errI E) h h2 hko hE)
      clear hf gg hko hk hE HG
      go_enter Tryd.func4, Tryd.ntmps4
      go_wp2_with fail
      rw [← W0.out]
      clear W0
      refine (HK.out _).mono ?_
      rintro e u1 ⟨rfl, hb⟩
      have VA := Lib.hid (VA.out.on hb)
      have VB := Lib.hid (VB.out.on hb)
      have VC := Lib.hid (VC.out.on hb)
      have B := Lib.hid (B.out.trans (hb.mono B.out.size))
      clear hb  HK
      obtain ⟨p0, p1, p2, p3, p4⟩ := VA.out.box
      obtain ⟨q0, q1, q2, q3, q4⟩ := VB.out.box
      go_wp2_with fail
      refine (HB.out _ _ _ VA.out.at_ VB.out.at_).mono ?_
      rintro e u2 ⟨L12, s12, A12, n12, c12, F12, m12, k12, rfl, hd, hb⟩
      have VA := Lib.hid (VA.out.on hb)
      have VB := Lib.hid (VB.out.on hb)
      have VC := Lib.hid (VC.out.on hb)
      have B := Lib.hid (B.out.trans (hb.mono B.out.size))
      clear hb p0 p1 p2 p3 p4 q0 q1 q2 q3 q4 HB
      obtain ⟨x2, hx2, hbn, Vn⟩ := var_new u2 hd.out
      have VO := Lib.hid Vn
      have VA := Lib.hid (VA.out.on hbn)
      have VB := Lib.hid (VB.out.on hbn)
      have VC := Lib.hid (VC.out.on hbn)
      have B := Lib.hid (B.out.trans (hbn.mono B.out.size))
      clear hbn Vn hd
      obtain ⟨p0, p1, p2, p3, p4⟩ := VA.out.box
      rw [hx2] at p1 p2 p3 p4
      obtain ⟨q0, q1, q2, q3, q4⟩ := VC.out.box
      rw [hx2] at q1 q2 q3 q4
      have HX := Lib.hid hx2
      clear hx2
      go_wp2_with fail
      rw [← HX.out]
      clear HX
      refine (HP.out _ _ _ VA.out.at_ VC.out.at_).mono ?_
      rintro e u3 ⟨AHI, cHI, rfl, hI, hb⟩
      have HI := Lib.hid hI.out.1
      have hlHI := hI.out.2
      have VA := Lib.hid (VA.out.on hb)
      have VB := Lib.hid (VB.out.on hb)
      have VC := Lib.hid (VC.out.on hb)
      have VO := Lib.hid (VO.out.on hb)
      have B := Lib.hid (B.out.trans (hb.mono B.out.size))
      clear hb hI p0 p1 p2 p3 p4 q0 q1 q2 q3 q4 HP
      clear HI
      go_wp2
      go_ret
      exact ⟨rfl, B.out⟩


set_option maxRecDepth 100000 in
theorem lifted (os : Os) (started : os.Started) (H : Type) (enc : TypeId × Value → H) :
    ReturnsInHanded {} Tryd.checked os 4 .any (fun w args => (Rows.superMostSpec.pre enc Tryd.prog Tryd.f4 Rows.superMostRow.domain false w args ∧ laidMetH Tryd.prog [("errors.errorType", Rows.laid_errors_errorType)] w) ∧ sizedMet enc Tryd.prog Tryd.f4 (OpenSpec.ofChange Rows.superMostSpec) false w args) (Rows.superMostSpec.post enc Tryd.prog Tryd.f4 false true false false) := by
  refine returnsInHanded_of_change_and (C := Tryd.checked) (X := fun w _ => laidMetH Tryd.prog [("errors.errorType", Rows.laid_errors_errorType)] w) (fun _ _ _ hh h => h.of_heap hh) own started (by kernel_rfl) Tryd.func4
    (ChangeSpec.witness_at (enc := enc) (C := Tryd.checked) (os := os) (X := fun w _ => laidMetH Tryd.prog [("errors.errorType", Rows.laid_errors_errorType)] w) false (laidWorld os) #[.agg #[.int .i64 0, .int .i64 0, .slice none 0 0, .slice none 0 0], .agg #[.int .i64 0, .int .i64 0, .slice none 0 0, .slice none 0 0], .int .i64 0, .agg #[.int .i64 0, .int .i64 0, .slice none 0 0, .slice none 0 0]] 8 rfl (by kernel_rfl) (by kernel_rfl) (by kernel_rfl) (by kernel_rfl) (by kernel_rfl) (laidWorld_met os _)) ?_
  intro W base args ds gs before hval0 hW hcnd hsz0 hL _
  have hval : ∀ (j : Nat) t v, Tryd.f4.params[j]? = some t → args[j]? = some v → Value.okWide Tryd.prog W .any base t v := hval0
  have hsz : (DataW.weightsEach Tryd.prog (Tryd.f4.params.toList ++ Rows.superMostSpec.plain.varTypes Tryd.prog) (ds ++ gs)).all (· ≤ reachBytes) = true := hsz0
  have hW' := hW
  obtain ⟨p, q, hA0, hV0, rfl, hfz, hnd⟩ := hW
  have hV : DataW.TrodVars enc Tryd.prog W (fun _ => true) [] gs q := hV0
  have hA : DataW.TrodAll enc Tryd.prog W 0 (fun _ => true) true Tryd.f4.params.toList args.toList ds p := hA0
  rw [Tryd.params4] at hA hval hsz
  obtain ⟨v0, vs0, d0, ds0, p0, q0, hargs, rfl, rfl, h0, rr0⟩ := trodAll_cons hA
  obtain ⟨v1, vs1, d1, ds1, p1, q1, rfl, rfl, rfl, h1, rr1⟩ := trodAll_cons rr0
  obtain ⟨v2, vs2, d2, ds2, p2, q2, rfl, rfl, rfl, h2, rr2⟩ := trodAll_cons rr1
  obtain ⟨v3, vs3, d3, ds3, p3, q3, rfl, rfl, rfl, h3, rr3⟩ := trodAll_cons rr2
  obtain ⟨rfl, rfl, rfl⟩ := trodAll_nil rr3
  obtain rfl : args = #[v0, v1, v2, v3] := by cases args; simp_all
  obtain ⟨rfl, rfl⟩ := trodVars_none hV
  have k0 := h0
  have lt0 : ∀ x ∈ p0, x.block < W.heap.size := by obtain ⟨m, hm⟩ := k0; exact DataW.trod_lt m _ _ _ hm
  have k1 := h1
  have lt1 : ∀ x ∈ p1, x.block < W.heap.size := by obtain ⟨m, hm⟩ := k1; exact DataW.trod_lt m _ _ _ hm
  have k2 := h2
  have lt2 : ∀ x ∈ p2, x.block < W.heap.size := by obtain ⟨m, hm⟩ := k2; exact DataW.trod_lt m _ _ _ hm
  have k3 := h3
  have lt3 : ∀ x ∈ p3, x.block < W.heap.size := by obtain ⟨m, hm⟩ := k3; exact DataW.trod_lt m _ _ _ hm
  obtain ⟨D0, x0⟩ : ∃ d : Df.Aut, Df.DfaAt W W.heap.size v0 d := Df.dfa_open (hval 0 25 v0 rfl rfl) h0
  obtain ⟨D1, x1⟩ : ∃ d : Df.Aut, Df.DfaAt W W.heap.size v1 d := Df.dfa_open (hval 1 25 v1 rfl rfl) h1
  obtain ⟨a2, rfl, rfl, rfl, w2⟩ := open_int Tryd.underlying3 (hval 2 3 v2 rfl rfl) h2
  obtain ⟨l2, hh2⟩ := bounds_i64 w2
  obtain ⟨D3, x3⟩ : ∃ d : Df.Aut, Df.DfaAt W W.heap.size v3 d := Df.dfa_open (hval 3 25 v3 rfl rfl) h3
  clear hA0 hval0
  refine (walk v0 D0 v1 D1 a2 v3 D3 W x0 x1 l2 hh2 x3 (handle_of_laid hL)).mono fun e W' ⟨he, bel⟩ => ?_
  subst he
  exact ⟨_, rfl, _, _, _, [], _, [], hW', trodAll_mk1 (shut_bool Tryd.underlying4 _), (trodAll_cons_mk (Below.trod laidOut (by kernel_rfl) (of_decide_eq_true (by kernel_rfl)) k0 bel lt0) (trodAll_cons_mk (Below.trod laidOut (by kernel_rfl) (of_decide_eq_true (by kernel_rfl)) k1 bel lt1) (trodAll_cons_mk (Below.trod laidOut (by kernel_rfl) (of_decide_eq_true (by kernel_rfl)) k2 bel lt2) (trodAll_cons_mk (Below.trod laidOut (by kernel_rfl) (of_decide_eq_true (by kernel_rfl)) k3 bel lt3) trodAll_mk0)))), rfl, bel.frame _, fun h => by cases h⟩

theorem over : Rows.superMostRow.holds Tryd.pinned (OpenSpec.ofChange Rows.superMostSpec) :=
  OpenClaim.holds_of_wide 4 Tryd.f4 rfl rfl rfl rfl rfl rfl rfl ⟨rfl, rfl, rfl, rfl, rfl⟩ rfl rfl rfl rfl rfl (by kernel_rfl) Tryd.func4 (by kernel_rfl)
    (of_decide_eq_true (by kernel_rfl)) (by unfold Func.isWrapper; rw [if_neg (of_decide_eq_false (by kernel_rfl))]; exact ⟨rfl, rfl⟩)
    (fun os started H enc _ => lifted os started H enc)
theorem proved : Rows.SuperMostCardSaid :=
  Claim7.holds_tied_plain_at .later [] [.handle] true (true, "c3c2691986dcf8376a3b39a7a8830a4e36d6487361fa87e728924180ccfc0bb1") true
    over (fun _ h => by cases h) (by kernel_rfl) (fun _ h => by cases h) superMost_row_tie rfl ⟨rfl, rfl⟩ (by kernel_rfl) rfl
    (fun f fn hf hfn => by
      obtain rfl : f = 4 := Option.some.inj ((show Tryd.prog.funcNamed "stileward/stilewardlaw5.SuperMost" = some 4 by kernel_rfl).symm.trans hf) |>.symm
      obtain rfl : fn = Tryd.f4 := (Option.some.inj (Tryd.func4.symm.trans hfn)).symm
      exact ⟨by kernel_rfl, fun j t ht => by
        rw [Tryd.params4] at ht
        rcases j with _ | _ | _ | _ | j
        · obtain rfl : 25 = t := by simpa using ht
          exact (show Tryd.prog.wantsStandIn 25 = false by kernel_rfl)
        · obtain rfl : 25 = t := by simpa using ht
          exact (show Tryd.prog.wantsStandIn 25 = false by kernel_rfl)
        · obtain rfl : 3 = t := by simpa using ht
          exact (show Tryd.prog.wantsStandIn 3 = false by kernel_rfl)
        · obtain rfl : 25 = t := by simpa using ht
          exact (show Tryd.prog.wantsStandIn 25 = false by kernel_rfl)
        · simp at ht⟩)
    (by kernel_rfl)
#print axioms proved
end Go.Proofs.YtbciefeipiphiaaDoor.superMost
