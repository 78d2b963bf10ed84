/-
  The statement VerdictWatchCardSaid of this seat, proved: for every input the law returns true and its arguments read behind the call as before. Conditions: none but the row's own (each argument within the reach; the listed variable as the program lays it, tied by the given tie).
-/
import Derived.Test.YtblkaegnnokedaaDoorRows
import Derived.Test.YtblkaegnnokedaaDoorCards
import Derived.Test.YtblkaegnnokedaaDoorTie
import Derived.SevenTiedAt
import Derived.LaidLaws
import Derived.LaidHandle
import Derived.LaidMore
import Derived.Lay
import Derived.MakeChecks
import Derived.Stop.Joined
import Derived.JoinedOf
import Derived.RowKit
import Derived.RowKitTokens
import Derived.ChangeSame
import Derived.ChangeVars
import Derived.Test.YtblkaegnnokedaaDoorWords
import Derived.WalkKit
import Derived.ProofKit
import Derived.OpenShut
import Derived.ShutString
import Derived.ChangeOld
import Derived.Below
import Derived.SizedLaws
import Derived.Lib.Hide
import Derived.Test.YtblkaegnnokedaaDoorVerS
import Derived.Test.YtblkaegnnokedaaDoorFew
import Derived.Test.YtblkaegnnokedaaDoorDfaV
import Derived.Test.YtblkaegnnokedaaDoorDfaK
import Derived.Test.YtblkaegnnokedaaDoorSays
namespace Go.Proofs.YtblkaegnnokedaaDoor.verdictWatch
open Go.ChangeShapes Go.WideShapes Go.ChangeAt Go.RowKit Go.IntWalk Go.Proofs.YtblkaegnnokedaaDoor.Wd
open Go.ChangeMaps (open_string shut_string)
set_option linter.unusedVariables false

theorem own : ownKnob Tryd.prog.godebug = none := by kernel_rfl
theorem laidOut : laidOutB Tryd.prog = true := by kernel_rfl
theorem et : Tryd.prog.globalNamed "errors.errorType" = some 0 := by kernel_rfl
theorem rt : (Tryd.prog.cutTypes.find? (·.1 == "internal/reflectlite.rtype")).map (·.2) = some 106 := by kernel_rfl
theorem oneRow : ((List.range 157).filter fun t => Tryd.prog.rowNamed t [101, 114, 114, 111, 114]) = [30] := by kernel_rfl
theorem size : Tryd.prog.types.size = 157 := by kernel_rfl
/-- What the condition gives a walk: the variable's one cell. -/
theorem handle_of_laid {w : World} (h : laidMetH Tryd.prog [("errors.errorType", Rows.laid_errors_errorType)] w) : w.cell? ⟨0, 0, none⟩ = some (.iface 106 (.agg #[.pointer (some ⟨1, 30, none⟩)])) := by
  have h' : laidMet Tryd.prog [] w ∧ handlesMet Tryd.prog [("errors.errorType", Rows.laid_errors_errorType)] w := h
  obtain ⟨name, u, ty, e1, e2, e3, e4, e5⟩ := h'.2 _ (List.mem_singleton.2 rfl)
  have en : name = [101, 114, 114, 111, 114] := (Option.some.inj e1).symm
  subst en
  obtain rfl := Option.some.inj (rt.symm.trans e2)
  have hm : ty ∈ (List.range 157).filter fun t => Tryd.prog.rowNamed t [101, 114, 114, 111, 114] := List.mem_filter.2 ⟨List.mem_range.2 (by rw [← size]; exact e3), e4⟩
  rw [oneRow] at hm
  obtain rfl := List.mem_singleton.1 hm
  have hh : typeHandle Tryd.prog 30 = .pointer (some ⟨1, 30, none⟩) := by kernel_rfl
  rw [hh] at e5
  simpa using World.var?_cell et e5 0
/-- A world that meets the condition. -/
noncomputable def laidWorld (os : Os) : World :=
  let w0 := World.holding Tryd.prog os ⟨#[], #[], []⟩
  { w0 with heap := w0.heap.modify 0 fun
      | .cells _ t frozen => .cells #[.iface 106 (.agg #[.pointer (some ⟨1, 30, none⟩)])] t frozen
      | o => o }
theorem laidWorld_met (os : Os) (args : Array Value) : laidMetH Tryd.prog [("errors.errorType", Rows.laid_errors_errorType)] ((laidWorld os).forCall (fun _ _ => 0) ⟨#[], args, []⟩).memory :=
  laidMetH_of_parts (laidMet_nil _ _) (by kernel_rfl)
open Go.Proofs.YtblkaegnnokedaaDoor.Wo Go.Proofs.YtblkaegnnokedaaDoor.Er Go.Proofs.YtblkaegnnokedaaDoor.Df Go.Proofs.YtblkaegnnokedaaDoor.Rc Go.Proofs.YtblkaegnnokedaaDoor.Sm Go.Proofs.YtblkaegnnokedaaDoor.Mp Go.Proofs.YtblkaegnnokedaaDoor.Sa Go.Proofs.YtblkaegnnokedaaDoor.Ve
theorem says_gives {w : World} (hg : w.cell? ⟨0, 0, none⟩ = some (.iface 106 (.agg #[.pointer (some ⟨1, 30, none⟩)]))) (e : Nat) {E : Value} {K : Int} (hE : errV e = E) (hK : (e : Int) = K) (W : World) (hb : Below w.heap.size w W) :
    Calls Tryd.prog 10 #[E, .int .i64 K] W fun r w' => r = .returned (.bool true) ∧ Below W.heap.size W w' := by
  subst hE
  subst hK
  exact says e hg W hb
theorem nil_five (W : World) : Calls Tryd.prog 10 #[.nilIface, .int .i64 5] W fun r w' => r = .returned (.bool false) ∧ Below W.heap.size W w' :=
  (error_nil 5 W).mono fun r w' ⟨h1, h2⟩ => ⟨h1.out, by rw [← h2]; exact Below.refl _ _⟩
theorem told_not {w : World} (hg : w.cell? ⟨0, 0, none⟩ = some (.iface 106 (.agg #[.pointer (some ⟨1, 30, none⟩)]))) {k : Nat} (hk : k ≠ 5) {E : Value} (hE : errV k = E) (W : World) (hb : Below w.heap.size w W) :
    Calls Tryd.prog 10 #[E, .int .i64 5] W fun r w' => r = .returned (.bool false) ∧ Below W.heap.size W w' := by
  subst hE
  rcases k with _ | k
  · exact nil_five W
  · exact (error_told _ _ W (keep_handle hg hb)).mono fun _ _ ⟨h, e⟩ => ⟨by rw [h.out, int_ne (by omega)], e⟩
theorem acc_not5 {d : Aut} {z : List Int} (g : Df.Good d) : accErr d z ≠ 5 := by
  unfold accErr
  rw [if_neg (by have := dchk_iff.2 g; omega)]
  rcases chk_cases d.L z with h | h | h <;> omega
set_option maxRecDepth 100000 in
theorem few_watch : watchOut fewA = (true, 0) := by decide +kernel
theorem factw_gives (W : World) (v : Value) (h : DfaAt W W.heap.size v fewA) : Calls Tryd.prog 9 #[v] W fun e w' => e = .returned (.tuple #[.bool true, .nilIface]) ∧ Below W.heap.size W w' :=
  watch_gives h few_watch rfl

set_option maxRecDepth 100000 in
set_option maxHeartbeats 4000000 in
theorem walk (v0 : Value) (d0 : Df.Aut) (A1 : Option Addr) (c1 : Nat) (z1 : List Int) (w : World) (h0 : Df.DfaAt w w.heap.size v0 d0) (v1 : IntsAt w w.heap.size A1 z1) (r1 : z1.length ≤ 17592186043904) (m1 : z1.length ≤ c1) (hg : w.cell? ⟨0, 0, none⟩ = some (.iface 106 (.agg #[.pointer (some ⟨1, 30, none⟩)]))) :
    Calls Tryd.prog 6 #[v0, .slice A1 z1.length c1] w fun e w' => e = .returned (.bool true) ∧ Below w.heap.size w w' := by
  have hr : z1.length ≤ 17592186044416 := by omega
  obtain ⟨L0, s0, A0, n0, c0, F0, m0, k0, rfl⟩ := h0.form
  have hN0 := h0.eqs.2.2.1
  obtain ⟨u0, hu0, hb0, VA0⟩ := var_new w h0
  have VA := Lib.hid VA0
  have B := Lib.hid hb0
  have W0 := Lib.hid hu0
  have HN0 := Lib.hid hN0
  have Z := Lib.hid (v1.on hb0)
  clear VA0 hb0 hu0 h0 hN0 v1
  clear m1 r1 HN0
  have HFew := Lib.hid few_any
  have HFact := Lib.hid factw_gives
  by_cases g1 : dchk d0 = 0
  · have Ga := dchk_iff.1 g1
    have HW := Lib.hid (fun W v (h : DfaAt W W.heap.size v d0) => watch_gives (E := .nilIface) h (watchOut_ok Ga) rfl)
    have hwi := watch_iff Ga
    obtain ⟨b, hb⟩ : ∃ b, watchB d0 = b := ⟨_, rfl⟩
    rw [hb] at HW hwi
    by_cases ga : accErr d0 z1 = 0
    · obtain ⟨_, fa⟩ := accErr_good ga
      rcases hs : soon d0 (runA d0 d0.s.toNat z1) with _ | u
      · obtain rfl : b = false := by
          rcases b with _ | _
          · rfl
          · have := hwi.1 rfl z1 (fine_word fa)
            rw [hs] at this; cases this
        have HS := Lib.hid (fun W v (h : DfaAt W W.heap.size v d0) (hZ : IntsAt W W.heap.size A1 z1) => soon_gives (cz := c1) (E := errI 5) h hZ hr (l := []) (soonOut_none ga hs) rfl)
        clear g1 Ga hwi hb ga fa hs hr hg
        go_enter Tryd.func6, Tryd.ntmps6
        go_wp2_with fail
        rw [← W0.out]
        clear W0
        refine (HFew.out _).mono ?_
        rintro e u1 he
        obtain ⟨xf, rfl, hof⟩ := he.out
        have hb := hof.below
        have hat := hof.at_
        obtain ⟨Lf, sf, Af, nf, cf, Ff, mf, kf, rfl⟩ := hat.form
        have Z := Lib.hid (Z.out.on hb)
        have VA := Lib.hid (VA.out.on hb)
        have B := Lib.hid (B.out.trans (hb.mono B.out.size))
        have HAt := Lib.hid hat
        clear he hof hb hat HFew
        go_wp2_with fail
        refine (HFact.out _ _ HAt.out).mono ?_
        rintro e u2 ⟨rfl, hb⟩
        have Z := Lib.hid (Z.out.on hb)
        have VA := Lib.hid (VA.out.on hb)
        have B := Lib.hid (B.out.trans (hb.mono B.out.size))
        clear hb  HFact HAt
        obtain ⟨p0, p1, p2, p3, p4⟩ := VA.out.box
        go_wp2_with fail
        refine (HW.out _ _ VA.out.at_).mono ?_
        rintro e u3 ⟨rfl, hb⟩
        have Z := Lib.hid (Z.out.on hb)
        have VA := Lib.hid (VA.out.on hb)
        have B := Lib.hid (B.out.trans (hb.mono B.out.size))
        clear hb p0 p1 p2 p3 p4 HW
        obtain ⟨p0, p1, p2, p3, p4⟩ := VA.out.box
        go_wp2_with fail
        refine (HS.out _ _ VA.out.at_ Z.out).mono ?_
        rintro e u4 ⟨AHI, cHI, rfl, hI, hb⟩
        have HI := Lib.hid hI.out
        have Z := Lib.hid (Z.out.on hb)
        have VA := Lib.hid (VA.out.on hb)
        have B := Lib.hid (B.out.trans (hb.mono B.out.size))
        clear hb hI p0 p1 p2 p3 p4 HS
        clear HI
        go_wp2
        go_ret
        exact ⟨rfl, B.out⟩
      · have HS := Lib.hid (fun W v (h : DfaAt W W.heap.size v d0) (hZ : IntsAt W W.heap.size A1 z1) => soon_gives (cz := c1) (E := .nilIface) h hZ hr (l := u) (soonOut_some ga hs) rfl)
        clear g1 Ga hwi hb ga fa hs hr hg
        rcases b with _ | _
        all_goals as_aux_lemma =>
          go_enter Tryd.func6, Tryd.ntmps6
          go_wp2_with fail
          rw [← W0.out]
          clear W0
          refine (HFew.out _).mono ?_
          rintro e u1 he
          obtain ⟨xf, rfl, hof⟩ := he.out
          have hb := hof.below
          have hat := hof.at_
          obtain ⟨Lf, sf, Af, nf, cf, Ff, mf, kf, rfl⟩ := hat.form
          have Z := Lib.hid (Z.out.on hb)
          have VA := Lib.hid (VA.out.on hb)
          have B := Lib.hid (B.out.trans (hb.mono B.out.size))
          have HAt := Lib.hid hat
          clear he hof hb hat HFew
          go_wp2_with fail
          refine (HFact.out _ _ HAt.out).mono ?_
          rintro e u2 ⟨rfl, hb⟩
          have Z := Lib.hid (Z.out.on hb)
          have VA := Lib.hid (VA.out.on hb)
          have B := Lib.hid (B.out.trans (hb.mono B.out.size))
          clear hb  HFact HAt
          obtain ⟨p0, p1, p2, p3, p4⟩ := VA.out.box
          go_wp2_with fail
          refine (HW.out _ _ VA.out.at_).mono ?_
          rintro e u3 ⟨rfl, hb⟩
          have Z := Lib.hid (Z.out.on hb)
          have VA := Lib.hid (VA.out.on hb)
          have B := Lib.hid (B.out.trans (hb.mono B.out.size))
          clear hb p0 p1 p2 p3 p4 HW
          obtain ⟨p0, p1, p2, p3, p4⟩ := VA.out.box
          go_wp2_with fail
          refine (HS.out _ _ VA.out.at_ Z.out).mono ?_
          rintro e u4 ⟨AHI, cHI, rfl, hI, hb⟩
          have HI := Lib.hid hI.out
          have Z := Lib.hid (Z.out.on hb)
          have VA := Lib.hid (VA.out.on hb)
          have B := Lib.hid (B.out.trans (hb.mono B.out.size))
          clear hb hI p0 p1 p2 p3 p4 HS
          clear HI
          go_wp2
          go_ret
          exact ⟨rfl, B.out⟩
    · obtain ⟨E, hE⟩ := errV_bad ga
      have HS := Lib.hid (fun W v (h : DfaAt W W.heap.size v d0) (hZ : IntsAt W W.heap.size A1 z1) => soon_gives (cz := c1) h hZ hr (l := []) (soonOut_bad ga) hE)
      have HE := Lib.hid (fun W (hb : Below w.heap.size w W) => told_not hg (acc_not5 (z := z1) Ga) hE W hb)
      clear g1 Ga hwi hb ga hr hg hE
      rcases b with _ | _
      · as_aux_lemma =>
          go_enter Tryd.func6, Tryd.ntmps6
          go_wp2_with fail
          rw [← W0.out]
          clear W0
          refine (HFew.out _).mono ?_
          rintro e u1 he
          obtain ⟨xf, rfl, hof⟩ := he.out
          have hb := hof.below
          have hat := hof.at_
          obtain ⟨Lf, sf, Af, nf, cf, Ff, mf, kf, rfl⟩ := hat.form
          have Z := Lib.hid (Z.out.on hb)
          have VA := Lib.hid (VA.out.on hb)
          have B := Lib.hid (B.out.trans (hb.mono B.out.size))
          have HAt := Lib.hid hat
          clear he hof hb hat HFew
          go_wp2_with fail
          refine (HFact.out _ _ HAt.out).mono ?_
          rintro e u2 ⟨rfl, hb⟩
          have Z := Lib.hid (Z.out.on hb)
          have VA := Lib.hid (VA.out.on hb)
          have B := Lib.hid (B.out.trans (hb.mono B.out.size))
          clear hb  HFact HAt
          obtain ⟨p0, p1, p2, p3, p4⟩ := VA.out.box
          go_wp2_with fail
          refine (HW.out _ _ VA.out.at_).mono ?_
          rintro e u3 ⟨rfl, hb⟩
          have Z := Lib.hid (Z.out.on hb)
          have VA := Lib.hid (VA.out.on hb)
          have B := Lib.hid (B.out.trans (hb.mono B.out.size))
          clear hb p0 p1 p2 p3 p4 HW
          obtain ⟨p0, p1, p2, p3, p4⟩ := VA.out.box
          go_wp2_with fail
          refine (HS.out _ _ VA.out.at_ Z.out).mono ?_
          rintro e u4 ⟨AHI, cHI, rfl, hI, hb⟩
          have HI := Lib.hid hI.out
          have Z := Lib.hid (Z.out.on hb)
          have VA := Lib.hid (VA.out.on hb)
          have B := Lib.hid (B.out.trans (hb.mono B.out.size))
          clear hb hI p0 p1 p2 p3 p4 HS
          clear HI
          go_wp2
          go_ret
          exact ⟨rfl, B.out⟩
      · as_aux_lemma =>
          go_enter Tryd.func6, Tryd.ntmps6
          go_wp2_with fail
          rw [← W0.out]
          clear W0
          refine (HFew.out _).mono ?_
          rintro e u1 he
          obtain ⟨xf, rfl, hof⟩ := he.out
          have hb := hof.below
          have hat := hof.at_
          obtain ⟨Lf, sf, Af, nf, cf, Ff, mf, kf, rfl⟩ := hat.form
          have Z := Lib.hid (Z.out.on hb)
          have VA := Lib.hid (VA.out.on hb)
          have B := Lib.hid (B.out.trans (hb.mono B.out.size))
          have HAt := Lib.hid hat
          clear he hof hb hat HFew
          go_wp2_with fail
          refine (HFact.out _ _ HAt.out).mono ?_
          rintro e u2 ⟨rfl, hb⟩
          have Z := Lib.hid (Z.out.on hb)
          have VA := Lib.hid (VA.out.on hb)
          have B := Lib.hid (B.out.trans (hb.mono B.out.size))
          clear hb  HFact HAt
          obtain ⟨p0, p1, p2, p3, p4⟩ := VA.out.box
          go_wp2_with fail
          refine (HW.out _ _ VA.out.at_).mono ?_
          rintro e u3 ⟨rfl, hb⟩
          have Z := Lib.hid (Z.out.on hb)
          have VA := Lib.hid (VA.out.on hb)
          have B := Lib.hid (B.out.trans (hb.mono B.out.size))
          clear hb p0 p1 p2 p3 p4 HW
          obtain ⟨p0, p1, p2, p3, p4⟩ := VA.out.box
          go_wp2_with fail
          refine (HS.out _ _ VA.out.at_ Z.out).mono ?_
          rintro e u4 ⟨AHI, cHI, rfl, hI, hb⟩
          have HI := Lib.hid hI.out
          have Z := Lib.hid (Z.out.on hb)
          have VA := Lib.hid (VA.out.on hb)
          have B := Lib.hid (B.out.trans (hb.mono B.out.size))
          clear hb hI p0 p1 p2 p3 p4 HS
          clear HI
          go_wp2_with fail
          refine (HE.out _ B.out).mono ?_
          rintro e u5 ⟨rfl, hb⟩
          have Z := Lib.hid (Z.out.on hb)
          have VA := Lib.hid (VA.out.on hb)
          have B := Lib.hid (B.out.trans (hb.mono B.out.size))
          clear hb  
          go_wp2
          go_ret
          exact ⟨rfl, B.out⟩
  · have ga : accErr d0 z1 ≠ 0 := by unfold accErr; rw [if_pos g1]; exact g1
    obtain ⟨E, hE⟩ := errV_bad g1
    obtain ⟨E2, hE2⟩ := errV_bad ga
    have HW := Lib.hid (fun W v (h : DfaAt W W.heap.size v d0) => watch_gives h (watchOut_bad g1) hE)
    have HS := Lib.hid (fun W v (h : DfaAt W W.heap.size v d0) (hZ : IntsAt W W.heap.size A1 z1) => soon_gives (cz := c1) h hZ hr (l := []) (soonOut_bad ga) hE2)
    clear g1 ga hE hE2 hr hg
    go_enter Tryd.func6, Tryd.ntmps6
    go_wp2_with fail
    rw [← W0.out]
    clear W0
    refine (HFew.out _).mono ?_
    rintro e u1 he
    obtain ⟨xf, rfl, hof⟩ := he.out
    have hb := hof.below
    have hat := hof.at_
    obtain ⟨Lf, sf, Af, nf, cf, Ff, mf, kf, rfl⟩ := hat.form
    have Z := Lib.hid (Z.out.on hb)
    have VA := Lib.hid (VA.out.on hb)
    have B := Lib.hid (B.out.trans (hb.mono B.out.size))
    have HAt := Lib.hid hat
    clear he hof hb hat HFew
    go_wp2_with fail
    refine (HFact.out _ _ HAt.out).mono ?_
    rintro e u2 ⟨rfl, hb⟩
    have Z := Lib.hid (Z.out.on hb)
    have VA := Lib.hid (VA.out.on hb)
    have B := Lib.hid (B.out.trans (hb.mono B.out.size))
    clear hb  HFact HAt
    obtain ⟨p0, p1, p2, p3, p4⟩ := VA.out.box
    go_wp2_with fail
    refine (HW.out _ _ VA.out.at_).mono ?_
    rintro e u3 ⟨rfl, hb⟩
    have Z := Lib.hid (Z.out.on hb)
    have VA := Lib.hid (VA.out.on hb)
    have B := Lib.hid (B.out.trans (hb.mono B.out.size))
    clear hb p0 p1 p2 p3 p4 HW
    obtain ⟨p0, p1, p2, p3, p4⟩ := VA.out.box
    go_wp2_with fail
    refine (HS.out _ _ VA.out.at_ Z.out).mono ?_
    rintro e u4 ⟨AHI, cHI, rfl, hI, hb⟩
    have HI := Lib.hid hI.out
    have Z := Lib.hid (Z.out.on hb)
    have VA := Lib.hid (VA.out.on hb)
    have B := Lib.hid (B.out.trans (hb.mono B.out.size))
    clear hb hI p0 p1 p2 p3 p4 HS
    clear HI
    go_wp2
    go_ret
    exact ⟨rfl, B.out⟩


set_option maxRecDepth 100000 in
theorem lifted (os : Os) (started : os.Started) (H : Type) (enc : TypeId × Value → H) :
    ReturnsInHanded {} Tryd.checked os 6 .any (fun w args => (Rows.verdictWatchSpec.pre enc Tryd.prog Tryd.f6 Rows.verdictWatchRow.domain false w args ∧ laidMetH Tryd.prog [("errors.errorType", Rows.laid_errors_errorType)] w) ∧ sizedMet enc Tryd.prog Tryd.f6 (OpenSpec.ofChange Rows.verdictWatchSpec) false w args) (Rows.verdictWatchSpec.post enc Tryd.prog Tryd.f6 false true false false) := by
  refine returnsInHanded_of_change_and (C := Tryd.checked) (X := fun w _ => laidMetH Tryd.prog [("errors.errorType", Rows.laid_errors_errorType)] w) (fun _ _ _ hh h => h.of_heap hh) own started (by kernel_rfl) Tryd.func6
    (ChangeSpec.witness_at (enc := enc) (C := Tryd.checked) (os := os) (X := fun w _ => laidMetH Tryd.prog [("errors.errorType", Rows.laid_errors_errorType)] w) false (laidWorld os) #[.agg #[.int .i64 0, .int .i64 0, .slice none 0 0, .slice none 0 0], .slice none 0 0] 8 rfl (by kernel_rfl) (by kernel_rfl) (by kernel_rfl) (by kernel_rfl) (by kernel_rfl) (laidWorld_met os _)) ?_
  intro W base args ds gs before hval0 hW hcnd hsz0 hL _
  have hval : ∀ (j : Nat) t v, Tryd.f6.params[j]? = some t → args[j]? = some v → Value.okWide Tryd.prog W .any base t v := hval0
  have hsz : (DataW.weightsEach Tryd.prog (Tryd.f6.params.toList ++ Rows.verdictWatchSpec.plain.varTypes Tryd.prog) (ds ++ gs)).all (· ≤ reachBytes) = true := hsz0
  have hW' := hW
  obtain ⟨p, q, hA0, hV0, rfl, hfz, hnd⟩ := hW
  have hV : DataW.TrodVars enc Tryd.prog W (fun _ => true) [] gs q := hV0
  have hA : DataW.TrodAll enc Tryd.prog W 0 (fun _ => true) true Tryd.f6.params.toList args.toList ds p := hA0
  rw [Tryd.params6] at hA hval hsz
  obtain ⟨v0, vs0, d0, ds0, p0, q0, hargs, rfl, rfl, h0, rr0⟩ := trodAll_cons hA
  obtain ⟨v1, vs1, d1, ds1, p1, q1, rfl, rfl, rfl, h1, rr1⟩ := trodAll_cons rr0
  obtain ⟨rfl, rfl, rfl⟩ := trodAll_nil rr1
  obtain rfl : args = #[v0, v1] := by cases args; simp_all
  obtain ⟨rfl, rfl⟩ := trodVars_none hV
  have k0 := h0
  have lt0 : ∀ x ∈ p0, x.block < W.heap.size := by obtain ⟨m, hm⟩ := k0; exact DataW.trod_lt m _ _ _ hm
  have k1 := h1
  have lt1 : ∀ x ∈ p1, x.block < W.heap.size := by obtain ⟨m, hm⟩ := k1; exact DataW.trod_lt m _ _ _ hm
  obtain ⟨D0, x0⟩ : ∃ d : Df.Aut, Df.DfaAt W W.heap.size v0 d := Df.dfa_open (hval 0 25 v0 rfl rfl) h0
  obtain ⟨A1, len1, c1, rfl⟩ := okWide_slice Tryd.underlying26 (hval 1 26 v1 rfl rfl)
  obtain ⟨z1, rfl, x1, r1, m1⟩ : ∃ zs : List Int, len1 = zs.length ∧ IntsAt W W.heap.size A1 zs ∧ zs.length ≤ 17592186043904 ∧ zs.length ≤ c1 := by
    obtain ⟨fuel, hf⟩ := h1
    rcases open_ints Tryd.underlying26 Tryd.underlying3 (by kernel_rfl) hf with ⟨hcs, _⟩ | ⟨x, l, c, zs, hcs, _, hl, hm, hz, hx, hcell, hwz⟩
    · simp [Value.cells] at hcs
      obtain ⟨rfl, rfl, rfl⟩ := hcs
      exact ⟨[], rfl, IntsAt.nil _ _ _, by simp, by simp⟩
    · simp [Value.cells] at hcs
      obtain ⟨rfl, rfl, rfl⟩ := hcs
      have hd := congrArg Prod.fst hx
      simp only at hd
      have := sized_slice hsz (j := 1) (t := 26) (e := 3) rfl (by rw [hd]; rfl) Tryd.underlying26
      rw [(show Tryd.prog.bytesOf 3 = 8 by kernel_rfl)] at this
      simp only [reachBytes, lits, List.length_map, List.length_take, List.length_drop] at this
      have hz' : zs.length = c1 := by simpa using hz
      exact ⟨zs.take len1, by rw [List.length_take]; omega, intsAt_of_open hcell hwz len1, by rw [List.length_take]; omega, by rw [List.length_take]; omega⟩
  clear hA0 hval0
  refine (walk v0 D0 A1 c1 z1 W x0 x1 r1 m1 (handle_of_laid hL)).mono fun e W' ⟨he, bel⟩ => ?_
  subst he
  exact ⟨_, rfl, _, _, _, [], _, [], hW', trodAll_mk1 (shut_bool Tryd.underlying4 _), (trodAll_cons_mk (Below.trod laidOut (by kernel_rfl) (of_decide_eq_true (by kernel_rfl)) k0 bel lt0) (trodAll_cons_mk (Below.trod laidOut (by kernel_rfl) (of_decide_eq_true (by kernel_rfl)) k1 bel lt1) trodAll_mk0)), rfl, bel.frame _, fun h => by cases h⟩

theorem over : Rows.verdictWatchRow.holds Tryd.pinned (OpenSpec.ofChange Rows.verdictWatchSpec) :=
  OpenClaim.holds_of_wide 6 Tryd.f6 rfl rfl rfl rfl rfl rfl rfl ⟨rfl, rfl, rfl, rfl, rfl⟩ rfl rfl rfl rfl rfl (by kernel_rfl) Tryd.func6 (by kernel_rfl)
    (of_decide_eq_true (by kernel_rfl)) (by unfold Func.isWrapper; rw [if_neg (of_decide_eq_false (by kernel_rfl))]; exact ⟨rfl, rfl⟩)
    (fun os started H enc _ => lifted os started H enc)
theorem proved : Rows.VerdictWatchCardSaid :=
  Claim7.holds_tied_plain_at .later [] [.handle] true (true, "e34c0bb72ea66d068c9c5f9a0bdeb40975989f46962b80c4834b7e61b2ae7e94") true
    over (fun _ h => by cases h) (by kernel_rfl) (fun _ h => by cases h) verdictWatch_row_tie rfl ⟨rfl, rfl⟩ (by kernel_rfl) rfl
    (fun f fn hf hfn => by
      obtain rfl : f = 6 := Option.some.inj ((show Tryd.prog.funcNamed "stileward/stilewardlaw4.VerdictWatch" = some 6 by kernel_rfl).symm.trans hf) |>.symm
      obtain rfl : fn = Tryd.f6 := (Option.some.inj (Tryd.func6.symm.trans hfn)).symm
      exact ⟨by kernel_rfl, fun j t ht => by
        rw [Tryd.params6] at ht
        rcases j with _ | _ | j
        · obtain rfl : 25 = t := by simpa using ht
          exact (show Tryd.prog.wantsStandIn 25 = false by kernel_rfl)
        · obtain rfl : 26 = t := by simpa using ht
          exact (show Tryd.prog.wantsStandIn 26 = false by kernel_rfl)
        · simp at ht⟩)
    (by kernel_rfl)
#print axioms proved
end Go.Proofs.YtblkaegnnokedaaDoor.verdictWatch
