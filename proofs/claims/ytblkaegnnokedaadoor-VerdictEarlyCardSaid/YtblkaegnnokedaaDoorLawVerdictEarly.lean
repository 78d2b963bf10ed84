/-
  The statement VerdictEarlyCardSaid of this seat, proved: for every input the law returns true and its arguments read behind the call as before. Conditions: none but the row's own (each argument within the reach; the listed variable as the program lays it, tied by the given tie).
-/
import Derived.Test.YtblkaegnnokedaaDoorRows
import Derived.Test.YtblkaegnnokedaaDoorCards
import Derived.Test.YtblkaegnnokedaaDoorTie
import Derived.SevenTiedAt
import Derived.LaidLaws
import Derived.LaidHandle
import Derived.LaidMore
import Derived.Lay
import Derived.MakeChecks
import Derived.Stop.Joined
import Derived.JoinedOf
import Derived.RowKit
import Derived.RowKitTokens
import Derived.ChangeSame
import Derived.ChangeVars
import Derived.Test.YtblkaegnnokedaaDoorWords
import Derived.WalkKit
import Derived.ProofKit
import Derived.OpenShut
import Derived.ShutString
import Derived.ChangeOld
import Derived.Below
import Derived.SizedLaws
import Derived.Lib.Hide
import Derived.Test.YtblkaegnnokedaaDoorVerS
import Derived.Test.YtblkaegnnokedaaDoorFew
import Derived.Test.YtblkaegnnokedaaDoorDfaV
import Derived.Test.YtblkaegnnokedaaDoorDfaK
import Derived.Test.YtblkaegnnokedaaDoorSays
namespace Go.Proofs.YtblkaegnnokedaaDoor.verdictEarly
open Go.ChangeShapes Go.WideShapes Go.ChangeAt Go.RowKit Go.IntWalk Go.Proofs.YtblkaegnnokedaaDoor.Wd
open Go.ChangeMaps (open_string shut_string)
set_option linter.unusedVariables false

theorem own : ownKnob Tryd.prog.godebug = none := by kernel_rfl
theorem laidOut : laidOutB Tryd.prog = true := by kernel_rfl
theorem et : Tryd.prog.globalNamed "errors.errorType" = some 0 := by kernel_rfl
theorem rt : (Tryd.prog.cutTypes.find? (·.1 == "internal/reflectlite.rtype")).map (·.2) = some 106 := by kernel_rfl
theorem oneRow : ((List.range 157).filter fun t => Tryd.prog.rowNamed t [101, 114, 114, 111, 114]) = [30] := by kernel_rfl
theorem size : Tryd.prog.types.size = 157 := by kernel_rfl
/-- What the condition gives a walk: the variable's one cell. -/
theorem handle_of_laid {w : World} (h : laidMetH Tryd.prog [("errors.errorType", Rows.laid_errors_errorType)] w) : w.cell? ⟨0, 0, none⟩ = some (.iface 106 (.agg #[.pointer (some ⟨1, 30, none⟩)])) := by
  have h' : laidMet Tryd.prog [] w ∧ handlesMet Tryd.prog [("errors.errorType", Rows.laid_errors_errorType)] w := h
  obtain ⟨name, u, ty, e1, e2, e3, e4, e5⟩ := h'.2 _ (List.mem_singleton.2 rfl)
  have en : name = [101, 114, 114, 111, 114] := (Option.some.inj e1).symm
  subst en
  obtain rfl := Option.some.inj (rt.symm.trans e2)
  have hm : ty ∈ (List.range 157).filter fun t => Tryd.prog.rowNamed t [101, 114, 114, 111, 114] := List.mem_filter.2 ⟨List.mem_range.2 (by rw [← size]; exact e3), e4⟩
  rw [oneRow] at hm
  obtain rfl := List.mem_singleton.1 hm
  have hh : typeHandle Tryd.prog 30 = .pointer (some ⟨1, 30, none⟩) := by kernel_rfl
  rw [hh] at e5
  simpa using World.var?_cell et e5 0
/-- A world that meets the condition. -/
noncomputable def laidWorld (os : Os) : World :=
  let w0 := World.holding Tryd.prog os ⟨#[], #[], []⟩
  { w0 with heap := w0.heap.modify 0 fun
      | .cells _ t frozen => .cells #[.iface 106 (.agg #[.pointer (some ⟨1, 30, none⟩)])] t frozen
      | o => o }
theorem laidWorld_met (os : Os) (args : Array Value) : laidMetH Tryd.prog [("errors.errorType", Rows.laid_errors_errorType)] ((laidWorld os).forCall (fun _ _ => 0) ⟨#[], args, []⟩).memory :=
  laidMetH_of_parts (laidMet_nil _ _) (by kernel_rfl)
open Go.Proofs.YtblkaegnnokedaaDoor.Wo Go.Proofs.YtblkaegnnokedaaDoor.Er Go.Proofs.YtblkaegnnokedaaDoor.Df Go.Proofs.YtblkaegnnokedaaDoor.Rc Go.Proofs.YtblkaegnnokedaaDoor.Sm Go.Proofs.YtblkaegnnokedaaDoor.Mp Go.Proofs.YtblkaegnnokedaaDoor.Sa Go.Proofs.YtblkaegnnokedaaDoor.Ve
theorem says_gives {w : World} (hg : w.cell? ⟨0, 0, none⟩ = some (.iface 106 (.agg #[.pointer (some ⟨1, 30, none⟩)]))) (e : Nat) {E : Value} {K : Int} (hE : errV e = E) (hK : (e : Int) = K) (W : World) (hb : Below w.heap.size w W) :
    Calls Tryd.prog 10 #[E, .int .i64 K] W fun r w' => r = .returned (.bool true) ∧ Below W.heap.size W w' := by
  subst hE
  subst hK
  exact says e hg W hb
theorem nil_five (W : World) : Calls Tryd.prog 10 #[.nilIface, .int .i64 5] W fun r w' => r = .returned (.bool false) ∧ Below W.heap.size W w' :=
  (error_nil 5 W).mono fun r w' ⟨h1, h2⟩ => ⟨h1.out, by rw [← h2]; exact Below.refl _ _⟩
theorem told_not {w : World} (hg : w.cell? ⟨0, 0, none⟩ = some (.iface 106 (.agg #[.pointer (some ⟨1, 30, none⟩)]))) {k : Nat} (hk : k ≠ 5) {E : Value} (hE : errV k = E) (W : World) (hb : Below w.heap.size w W) :
    Calls Tryd.prog 10 #[E, .int .i64 5] W fun r w' => r = .returned (.bool false) ∧ Below W.heap.size W w' := by
  subst hE
  rcases k with _ | k
  · exact nil_five W
  · exact (error_told _ _ W (keep_handle hg hb)).mono fun _ _ ⟨h, e⟩ => ⟨by rw [h.out, int_ne (by omega)], e⟩
theorem acc_not5 {d : Aut} {z : List Int} (g : Df.Good d) : accErr d z ≠ 5 := by
  unfold accErr
  rw [if_neg (by have := dchk_iff.2 g; omega)]
  rcases chk_cases d.L z with h | h | h <;> omega
set_option maxRecDepth 100000 in
theorem few_of : ofOut fewA [1] = (2, 0) := by decide +kernel
theorem fact_gives (W : World) (v : Value) (h : DfaAt W W.heap.size v fewA) : Calls Tryd.prog 16 #[v, .slice (some ⟨W.heap.size, 0, none⟩) 1 1] (W.alloc (.cells #[.int .i64 1] 3)) fun e w' => e = .returned (.tuple #[.int .i64 2, .nilIface]) ∧ Below W.heap.size W w' :=
  (of_gives (cz := 1) (h.on (below_alloc _ _)) (lit_one W 1 ⟨by decide, by decide⟩) (by simp) few_of rfl).mono fun e w' ⟨h1, h2⟩ => ⟨h1, (below_alloc _ _).trans (h2.mono (below_alloc W (.cells #[.int .i64 1] 3)).size)⟩

set_option maxRecDepth 100000 in
set_option maxHeartbeats 4000000 in
theorem walk (v0 : Value) (d0 : Df.Aut) (A1 : Option Addr) (c1 : Nat) (z1 : List Int) (w : World) (h0 : Df.DfaAt w w.heap.size v0 d0) (v1 : IntsAt w w.heap.size A1 z1) (r1 : z1.length ≤ 17592186043904) (m1 : z1.length ≤ c1) (hg : w.cell? ⟨0, 0, none⟩ = some (.iface 106 (.agg #[.pointer (some ⟨1, 30, none⟩)]))) :
    Calls Tryd.prog 4 #[v0, .slice A1 z1.length c1] w fun e w' => e = .returned (.bool true) ∧ Below w.heap.size w w' := by
  have hr : z1.length ≤ 17592186044416 := by omega
  obtain ⟨L0, s0, A0, n0, c0, F0, m0, k0, rfl⟩ := h0.form
  have hN0 := h0.eqs.2.2.1
  obtain ⟨u0, hu0, hb0, VA0⟩ := var_new w h0
  have VA := Lib.hid VA0
  have B := Lib.hid hb0
  have W0 := Lib.hid hu0
  have HN0 := Lib.hid hN0
  have Z := Lib.hid (v1.on hb0)
  clear VA0 hb0 hu0 h0 hN0 v1
  clear m1 r1 HN0
  have HFew := Lib.hid few_any
  have HFact := Lib.hid fact_gives
  by_cases ga : accErr d0 z1 = 0
  · obtain ⟨Ga, fa⟩ := accErr_good ga
    have fw := fine_word fa
    have gn := notA_good Ga
    have hl := Ga.run_lt fw Ga.s_lt
    have hy4 : runA d0 d0.s.toNat z1 ≤ 40 := by have := Ga.n40; omega
    have hs0 : d0.s = s0 := VA.out.at_.eqs.2.1
    have hre := runErr_start d0 z1
    rw [ga] at hre
    have hro : runOut d0 d0.s z1 = ((runA d0 d0.s.toNat z1 : Nat) : Int) := by unfold runOut; rw [if_pos hre]
    have hsm := Ga.small_s
    obtain ⟨yr, hyr⟩ : ∃ yr, runA d0 d0.s.toNat z1 = yr := ⟨_, rfl⟩
    rw [hyr] at hro
    rw [hs0] at hre hro hsm
    rw [← hyr] at hro
    clear hyr
    have HR := Lib.hid (fun W v (h : DfaAt W W.heap.size v d0) (hZ : IntsAt W W.heap.size A1 z1) => run_gives (cz := c1) (E := .nilIface) h hsm hZ hr hro (by rw [hre]; rfl))
    have h0 := early_zero Ga hl
    have h3 := early_three Ga hl
    have HX := Lib.hid (fun W v (h : DfaAt W W.heap.size v d0) (hZ : IntsAt W W.heap.size A1 z1) => of_gives (cz := c1) (E := .nilIface) h hZ hr (ofOut_ok ga) rfl)
    have HN := Lib.hid (fun W v (h : DfaAt W W.heap.size v d0) => not_gives (E := .nilIface) h (notOut_ok Ga) rfl)
    have HNL : Hid ((notA d0).L = d0.L) := rfl
    have HE5 := Lib.hid (fun W (hb : Below w.heap.size w W) => says_gives hg 5 (E := errI 5) (K := 5) rfl rfl W hb)
    have HE0 := Lib.hid (fun W (_ : Below w.heap.size w W) => nil_five W)
    rcases nHF : firstW (fromA d0 (runA d0 d0.s.toNat z1)) (runA d0 d0.s.toNat z1) with _ | uHF
    · have hv : verd d0 (runA d0 d0.s.toNat z1) = 0 := by
        have : firstW (startA d0 (runA d0 d0.s.toNat z1)) (runA d0 d0.s.toNat z1) = none := nHF
        rw [this] at h0; simpa using h0
      have hv3 : (0 == 3) = (firstW (fromA (notA d0) (runA d0 d0.s.toNat z1)) (runA d0 d0.s.toNat z1)).isNone := by rw [← hv]; exact h3
      rcases nHG : firstW (fromA (notA d0) (runA d0 d0.s.toNat z1)) (runA d0 d0.s.toNat z1) with _ | uHG
      · rw [nHG] at hv3; simp at hv3
      · have sHG := nHG
        have smallHG : ∀ x ∈ uHG, Small x := word_small gn.l6 (firstW_some (fromA_good gn hl) (by exact hl) nHG).1
        have HF := Lib.hid (fun W v (h : DfaAt W W.heap.size v (fromA d0 (runA d0 d0.s.toNat z1))) => givesI_of (E := errI 5) (first_any v _ W h) (by rw [firstOut_none (dchk_iff.2 (fromA_good Ga hl)) (by exact nHF)]; rfl) (l := []) (by rw [firstOut_none (dchk_iff.2 (fromA_good Ga hl)) (by exact nHF)]) (fun x hx => by simp at hx))
        have HG := Lib.hid (fun W v (h : DfaAt W W.heap.size v (fromA (notA d0) (runA d0 d0.s.toNat z1))) => givesI_of (E := .nilIface) (first_any v _ W h) (by rw [firstOut_some (dchk_iff.2 (fromA_good gn hl)) (by exact sHG)]; rfl) (l := uHG) (by rw [firstOut_some (dchk_iff.2 (fromA_good gn hl)) (by exact sHG)]) smallHG)
        rw [hv] at HX
        clear nHF nHG sHG smallHG hv hv3
        clear ga Ga fa fw gn hl hs0 hre hro hsm h0 h3 hg hr
        generalize runA d0 d0.s.toNat z1 = y at *
        generalize notA d0 = N at *
        go_enter Tryd.func4, Tryd.ntmps4
        go_wp2_with fail
        rw [← W0.out]
        clear W0
        refine (HFew.out _).mono ?_
        rintro e u1 he
        obtain ⟨xf, rfl, hof⟩ := he.out
        have hb := hof.below
        have hat := hof.at_
        obtain ⟨Lf, sf, Af, nf, cf, Ff, mf, kf, rfl⟩ := hat.form
        have Z := Lib.hid (Z.out.on hb)
        have VA := Lib.hid (VA.out.on hb)
        have B := Lib.hid (B.out.trans (hb.mono B.out.size))
        have HAt := Lib.hid hat
        clear he hof hb hat HFew
        go_wp2_with fail
        refine (HFact.out _ _ HAt.out).mono ?_
        rintro e u2 ⟨rfl, hb⟩
        have Z := Lib.hid (Z.out.on hb)
        have VA := Lib.hid (VA.out.on hb)
        have B := Lib.hid (B.out.trans (hb.mono B.out.size))
        clear hb  HFact HAt
        obtain ⟨p0, p1, p2, p3, p4⟩ := VA.out.box
        go_wp2_with fail
        refine (HX.out _ _ VA.out.at_ Z.out).mono ?_
        rintro e u3 ⟨rfl, hb⟩
        have Z := Lib.hid (Z.out.on hb)
        have VA := Lib.hid (VA.out.on hb)
        have B := Lib.hid (B.out.trans (hb.mono B.out.size))
        clear hb p0 p1 p2 p3 p4 HX
        obtain ⟨p0, p1, p2, p3, p4⟩ := VA.out.box
        go_wp2_with fail
        refine (HR.out _ _ VA.out.at_ Z.out).mono ?_
        rintro e u4 ⟨rfl, hb⟩
        have Z := Lib.hid (Z.out.on hb)
        have VA := Lib.hid (VA.out.on hb)
        have B := Lib.hid (B.out.trans (hb.mono B.out.size))
        clear hb p0 p1 p2 p3 p4 HR
        obtain ⟨p0, p1, p2, p3, p4⟩ := VA.out.box
        go_wp2_with fail
        refine (HN.out _ _ VA.out.at_).mono ?_
        rintro e u5 ⟨L15, s15, A15, n15, c15, F15, m15, k15, rfl, hd, hb⟩
        have Z := Lib.hid (Z.out.on hb)
        have VA := Lib.hid (VA.out.on hb)
        have B := Lib.hid (B.out.trans (hb.mono B.out.size))
        clear hb p0 p1 p2 p3 p4 HN
        obtain ⟨x5, hx5, hbn, Vn⟩ := var_new u5 hd.out
        have VN := Lib.hid Vn
        have Z := Lib.hid (Z.out.on hbn)
        have VA := Lib.hid (VA.out.on hbn)
        have B := Lib.hid (B.out.trans (hbn.mono B.out.size))
        clear hbn Vn hd
        have hLe : L15 = L0 := VN.out.at_.eqs.1.symm.trans (HNL.out.trans VA.out.at_.eqs.1)
        subst hLe
        obtain ⟨p0, p1, p2, p3, p4⟩ := VA.out.box
        rw [hx5] at p1 p2 p3 p4
        obtain ⟨q0, q1, q2, q3, q4⟩ := VN.out.box
        rw [hx5] at q1 q2 q3 q4
        have HX := Lib.hid hx5
        clear hx5
        go_wp2_with fail
        rw [← HX.out]
        clear HX
        refine (HF.out _ _ (fromA_at VA.out.at_ hy4)).mono ?_
        rintro e u6 ⟨AHI, cHI, rfl, hI, hb⟩
        have HI := Lib.hid hI.out
        have Z := Lib.hid (Z.out.on hb)
        have VA := Lib.hid (VA.out.on hb)
        have VN := Lib.hid (VN.out.on hb)
        have B := Lib.hid (B.out.trans (hb.mono B.out.size))
        clear hb hI p0 p1 p2 p3 p4 q0 q1 q2 q3 q4 HF
        clear HI
        obtain ⟨p0, p1, p2, p3, p4⟩ := VA.out.box
        obtain ⟨q0, q1, q2, q3, q4⟩ := VN.out.box
        go_wp2_with fail
        refine (HG.out _ _ (fromA_at VN.out.at_ hy4)).mono ?_
        rintro e u7 ⟨AHI, cHI, rfl, hI, hb⟩
        have HI := Lib.hid hI.out
        have Z := Lib.hid (Z.out.on hb)
        have VA := Lib.hid (VA.out.on hb)
        have VN := Lib.hid (VN.out.on hb)
        have B := Lib.hid (B.out.trans (hb.mono B.out.size))
        clear hb hI p0 p1 p2 p3 p4 q0 q1 q2 q3 q4 HG
        clear HI
        go_wp2_with fail
        refine (HE5.out _ B.out).mono ?_
        rintro e u8 ⟨rfl, hb⟩
        have Z := Lib.hid (Z.out.on hb)
        have VA := Lib.hid (VA.out.on hb)
        have VN := Lib.hid (VN.out.on hb)
        have B := Lib.hid (B.out.trans (hb.mono B.out.size))
        clear hb  
        go_wp2_with fail
        refine (HE0.out _ B.out).mono ?_
        rintro e u9 ⟨rfl, hb⟩
        have Z := Lib.hid (Z.out.on hb)
        have VA := Lib.hid (VA.out.on hb)
        have VN := Lib.hid (VN.out.on hb)
        have B := Lib.hid (B.out.trans (hb.mono B.out.size))
        clear hb  HE0 HE5
        go_wp2
        go_ret
        exact ⟨rfl, B.out⟩
    · have sHF := nHF
      have smallHF : ∀ x ∈ uHF, Small x := word_small Ga.l6 (firstW_some (fromA_good Ga hl) (by exact hl) nHF).1
      have hv : ¬ verd d0 (runA d0 d0.s.toNat z1) = 0 := by
        have : firstW (startA d0 (runA d0 d0.s.toNat z1)) (runA d0 d0.s.toNat z1) = some uHF := nHF
        rw [this] at h0; simpa using h0
      have HF := Lib.hid (fun W v (h : DfaAt W W.heap.size v (fromA d0 (runA d0 d0.s.toNat z1))) => givesI_of (E := .nilIface) (first_any v _ W h) (by rw [firstOut_some (dchk_iff.2 (fromA_good Ga hl)) (by exact sHF)]; rfl) (l := uHF) (by rw [firstOut_some (dchk_iff.2 (fromA_good Ga hl)) (by exact sHF)]) smallHF)
      rcases nHG : firstW (fromA (notA d0) (runA d0 d0.s.toNat z1)) (runA d0 d0.s.toNat z1) with _ | uHG
      · have hv3 : verd d0 (runA d0 d0.s.toNat z1) = 3 := by
          have : firstW (startA (notA d0) (runA d0 d0.s.toNat z1)) (runA d0 d0.s.toNat z1) = none := nHG
          rw [this] at h3; simpa using h3
        have HG := Lib.hid (fun W v (h : DfaAt W W.heap.size v (fromA (notA d0) (runA d0 d0.s.toNat z1))) => givesI_of (E := errI 5) (first_any v _ W h) (by rw [firstOut_none (dchk_iff.2 (fromA_good gn hl)) (by exact nHG)]; rfl) (l := []) (by rw [firstOut_none (dchk_iff.2 (fromA_good gn hl)) (by exact nHG)]) (fun x hx => by simp at hx))
        rw [hv3] at HX
        clear nHF nHG sHF smallHF hv hv3
        clear ga Ga fa fw gn hl hs0 hre hro hsm h0 h3 hg hr
        generalize runA d0 d0.s.toNat z1 = y at *
        generalize notA d0 = N at *
        go_enter Tryd.func4, Tryd.ntmps4
        go_wp2_with fail
        rw [← W0.out]
        clear W0
        refine (HFew.out _).mono ?_
        rintro e u1 he
        obtain ⟨xf, rfl, hof⟩ := he.out
        have hb := hof.below
        have hat := hof.at_
        obtain ⟨Lf, sf, Af, nf, cf, Ff, mf, kf, rfl⟩ := hat.form
        have Z := Lib.hid (Z.out.on hb)
        have VA := Lib.hid (VA.out.on hb)
        have B := Lib.hid (B.out.trans (hb.mono B.out.size))
        have HAt := Lib.hid hat
        clear he hof hb hat HFew
        go_wp2_with fail
        refine (HFact.out _ _ HAt.out).mono ?_
        rintro e u2 ⟨rfl, hb⟩
        have Z := Lib.hid (Z.out.on hb)
        have VA := Lib.hid (VA.out.on hb)
        have B := Lib.hid (B.out.trans (hb.mono B.out.size))
        clear hb  HFact HAt
        obtain ⟨p0, p1, p2, p3, p4⟩ := VA.out.box
        go_wp2_with fail
        refine (HX.out _ _ VA.out.at_ Z.out).mono ?_
        rintro e u3 ⟨rfl, hb⟩
        have Z := Lib.hid (Z.out.on hb)
        have VA := Lib.hid (VA.out.on hb)
        have B := Lib.hid (B.out.trans (hb.mono B.out.size))
        clear hb p0 p1 p2 p3 p4 HX
        obtain ⟨p0, p1, p2, p3, p4⟩ := VA.out.box
        go_wp2_with fail
        refine (HR.out _ _ VA.out.at_ Z.out).mono ?_
        rintro e u4 ⟨rfl, hb⟩
        have Z := Lib.hid (Z.out.on hb)
        have VA := Lib.hid (VA.out.on hb)
        have B := Lib.hid (B.out.trans (hb.mono B.out.size))
        clear hb p0 p1 p2 p3 p4 HR
        obtain ⟨p0, p1, p2, p3, p4⟩ := VA.out.box
        go_wp2_with fail
        refine (HN.out _ _ VA.out.at_).mono ?_
        rintro e u5 ⟨L15, s15, A15, n15, c15, F15, m15, k15, rfl, hd, hb⟩
        have Z := Lib.hid (Z.out.on hb)
        have VA := Lib.hid (VA.out.on hb)
        have B := Lib.hid (B.out.trans (hb.mono B.out.size))
        clear hb p0 p1 p2 p3 p4 HN
        obtain ⟨x5, hx5, hbn, Vn⟩ := var_new u5 hd.out
        have VN := Lib.hid Vn
        have Z := Lib.hid (Z.out.on hbn)
        have VA := Lib.hid (VA.out.on hbn)
        have B := Lib.hid (B.out.trans (hbn.mono B.out.size))
        clear hbn Vn hd
        have hLe : L15 = L0 := VN.out.at_.eqs.1.symm.trans (HNL.out.trans VA.out.at_.eqs.1)
        subst hLe
        obtain ⟨p0, p1, p2, p3, p4⟩ := VA.out.box
        rw [hx5] at p1 p2 p3 p4
        obtain ⟨q0, q1, q2, q3, q4⟩ := VN.out.box
        rw [hx5] at q1 q2 q3 q4
        have HX := Lib.hid hx5
        clear hx5
        go_wp2_with fail
        rw [← HX.out]
        clear HX
        refine (HF.out _ _ (fromA_at VA.out.at_ hy4)).mono ?_
        rintro e u6 ⟨AHI, cHI, rfl, hI, hb⟩
        have HI := Lib.hid hI.out
        have Z := Lib.hid (Z.out.on hb)
        have VA := Lib.hid (VA.out.on hb)
        have VN := Lib.hid (VN.out.on hb)
        have B := Lib.hid (B.out.trans (hb.mono B.out.size))
        clear hb hI p0 p1 p2 p3 p4 q0 q1 q2 q3 q4 HF
        clear HI
        obtain ⟨p0, p1, p2, p3, p4⟩ := VA.out.box
        obtain ⟨q0, q1, q2, q3, q4⟩ := VN.out.box
        go_wp2_with fail
        refine (HG.out _ _ (fromA_at VN.out.at_ hy4)).mono ?_
        rintro e u7 ⟨AHI, cHI, rfl, hI, hb⟩
        have HI := Lib.hid hI.out
        have Z := Lib.hid (Z.out.on hb)
        have VA := Lib.hid (VA.out.on hb)
        have VN := Lib.hid (VN.out.on hb)
        have B := Lib.hid (B.out.trans (hb.mono B.out.size))
        clear hb hI p0 p1 p2 p3 p4 q0 q1 q2 q3 q4 HG
        clear HI
        go_wp2_with fail
        refine (HE0.out _ B.out).mono ?_
        rintro e u8 ⟨rfl, hb⟩
        have Z := Lib.hid (Z.out.on hb)
        have VA := Lib.hid (VA.out.on hb)
        have VN := Lib.hid (VN.out.on hb)
        have B := Lib.hid (B.out.trans (hb.mono B.out.size))
        clear hb  
        go_wp2_with fail
        refine (HE5.out _ B.out).mono ?_
        rintro e u9 ⟨rfl, hb⟩
        have Z := Lib.hid (Z.out.on hb)
        have VA := Lib.hid (VA.out.on hb)
        have VN := Lib.hid (VN.out.on hb)
        have B := Lib.hid (B.out.trans (hb.mono B.out.size))
        clear hb  HE0 HE5
        go_wp2
        go_ret
        exact ⟨rfl, B.out⟩
      · have hv3 : ¬ verd d0 (runA d0 d0.s.toNat z1) = 3 := by
          have : firstW (startA (notA d0) (runA d0 d0.s.toNat z1)) (runA d0 d0.s.toNat z1) = some uHG := nHG
          rw [this] at h3; simpa using h3
        have sHG := nHG
        have smallHG : ∀ x ∈ uHG, Small x := word_small gn.l6 (firstW_some (fromA_good gn hl) (by exact hl) nHG).1
        have HG := Lib.hid (fun W v (h : DfaAt W W.heap.size v (fromA (notA d0) (runA d0 d0.s.toNat z1))) => givesI_of (E := .nilIface) (first_any v _ W h) (by rw [firstOut_some (dchk_iff.2 (fromA_good gn hl)) (by exact sHG)]; rfl) (l := uHG) (by rw [firstOut_some (dchk_iff.2 (fromA_good gn hl)) (by exact sHG)]) smallHG)
        obtain ⟨x, hx⟩ : ∃ x : Int, ((verd d0 (runA d0 d0.s.toNat z1) : Nat) : Int) = x := ⟨_, rfl⟩
        rw [hx] at HX
        have x0 : (x == 0) = false := int_ne (by omega)
        have x3 : (x == 3) = false := int_ne (by omega)
        clear nHF nHG sHF smallHF sHG smallHG hv hv3 hx
        clear ga Ga fa fw gn hl hs0 hre hro hsm h0 h3 hg hr
        generalize runA d0 d0.s.toNat z1 = y at *
        generalize notA d0 = N at *
        go_enter Tryd.func4, Tryd.ntmps4
        go_wp2_with fail
        rw [← W0.out]
        clear W0
        refine (HFew.out _).mono ?_
        rintro e u1 he
        obtain ⟨xf, rfl, hof⟩ := he.out
        have hb := hof.below
        have hat := hof.at_
        obtain ⟨Lf, sf, Af, nf, cf, Ff, mf, kf, rfl⟩ := hat.form
        have Z := Lib.hid (Z.out.on hb)
        have VA := Lib.hid (VA.out.on hb)
        have B := Lib.hid (B.out.trans (hb.mono B.out.size))
        have HAt := Lib.hid hat
        clear he hof hb hat HFew
        go_wp2_with fail
        refine (HFact.out _ _ HAt.out).mono ?_
        rintro e u2 ⟨rfl, hb⟩
        have Z := Lib.hid (Z.out.on hb)
        have VA := Lib.hid (VA.out.on hb)
        have B := Lib.hid (B.out.trans (hb.mono B.out.size))
        clear hb  HFact HAt
        obtain ⟨p0, p1, p2, p3, p4⟩ := VA.out.box
        go_wp2_with fail
        refine (HX.out _ _ VA.out.at_ Z.out).mono ?_
        rintro e u3 ⟨rfl, hb⟩
        have Z := Lib.hid (Z.out.on hb)
        have VA := Lib.hid (VA.out.on hb)
        have B := Lib.hid (B.out.trans (hb.mono B.out.size))
        clear hb p0 p1 p2 p3 p4 HX
        obtain ⟨p0, p1, p2, p3, p4⟩ := VA.out.box
        go_wp2_with fail
        refine (HR.out _ _ VA.out.at_ Z.out).mono ?_
        rintro e u4 ⟨rfl, hb⟩
        have Z := Lib.hid (Z.out.on hb)
        have VA := Lib.hid (VA.out.on hb)
        have B := Lib.hid (B.out.trans (hb.mono B.out.size))
        clear hb p0 p1 p2 p3 p4 HR
        obtain ⟨p0, p1, p2, p3, p4⟩ := VA.out.box
        go_wp2_with fail
        refine (HN.out _ _ VA.out.at_).mono ?_
        rintro e u5 ⟨L15, s15, A15, n15, c15, F15, m15, k15, rfl, hd, hb⟩
        have Z := Lib.hid (Z.out.on hb)
        have VA := Lib.hid (VA.out.on hb)
        have B := Lib.hid (B.out.trans (hb.mono B.out.size))
        clear hb p0 p1 p2 p3 p4 HN
        obtain ⟨x5, hx5, hbn, Vn⟩ := var_new u5 hd.out
        have VN := Lib.hid Vn
        have Z := Lib.hid (Z.out.on hbn)
        have VA := Lib.hid (VA.out.on hbn)
        have B := Lib.hid (B.out.trans (hbn.mono B.out.size))
        clear hbn Vn hd
        have hLe : L15 = L0 := VN.out.at_.eqs.1.symm.trans (HNL.out.trans VA.out.at_.eqs.1)
        subst hLe
        obtain ⟨p0, p1, p2, p3, p4⟩ := VA.out.box
        rw [hx5] at p1 p2 p3 p4
        obtain ⟨q0, q1, q2, q3, q4⟩ := VN.out.box
        rw [hx5] at q1 q2 q3 q4
        have HX := Lib.hid hx5
        clear hx5
        go_wp2_with fail
        rw [← HX.out]
        clear HX
        refine (HF.out _ _ (fromA_at VA.out.at_ hy4)).mono ?_
        rintro e u6 ⟨AHI, cHI, rfl, hI, hb⟩
        have HI := Lib.hid hI.out
        have Z := Lib.hid (Z.out.on hb)
        have VA := Lib.hid (VA.out.on hb)
        have VN := Lib.hid (VN.out.on hb)
        have B := Lib.hid (B.out.trans (hb.mono B.out.size))
        clear hb hI p0 p1 p2 p3 p4 q0 q1 q2 q3 q4 HF
        clear HI
        obtain ⟨p0, p1, p2, p3, p4⟩ := VA.out.box
        obtain ⟨q0, q1, q2, q3, q4⟩ := VN.out.box
        go_wp2_with fail
        refine (HG.out _ _ (fromA_at VN.out.at_ hy4)).mono ?_
        rintro e u7 ⟨AHI, cHI, rfl, hI, hb⟩
        have HI := Lib.hid hI.out
        have Z := Lib.hid (Z.out.on hb)
        have VA := Lib.hid (VA.out.on hb)
        have VN := Lib.hid (VN.out.on hb)
        have B := Lib.hid (B.out.trans (hb.mono B.out.size))
        clear hb hI p0 p1 p2 p3 p4 q0 q1 q2 q3 q4 HG
        clear HI
        go_wp2_with fail
        refine (HE0.out _ B.out).mono ?_
        rintro e u8 ⟨rfl, hb⟩
        have Z := Lib.hid (Z.out.on hb)
        have VA := Lib.hid (VA.out.on hb)
        have VN := Lib.hid (VN.out.on hb)
        have B := Lib.hid (B.out.trans (hb.mono B.out.size))
        clear hb  
        go_wp2_with fail
        refine (HE0.out _ B.out).mono ?_
        rintro e u9 ⟨rfl, hb⟩
        have Z := Lib.hid (Z.out.on hb)
        have VA := Lib.hid (VA.out.on hb)
        have VN := Lib.hid (VN.out.on hb)
        have B := Lib.hid (B.out.trans (hb.mono B.out.size))
        clear hb  HE0 HE5
        go_wp2
        go_ret
        exact ⟨rfl, B.out⟩
  · obtain ⟨E, hE⟩ := errV_bad ga
    have HX := Lib.hid (fun W v (h : DfaAt W W.heap.size v d0) (hZ : IntsAt W W.heap.size A1 z1) => of_gives (cz := c1) h hZ hr (ofOut_bad ga) hE)
    clear ga hE hr hg
    go_enter Tryd.func4, Tryd.ntmps4
    go_wp2_with fail
    rw [← W0.out]
    clear W0
    refine (HFew.out _).mono ?_
    rintro e u1 he
    obtain ⟨xf, rfl, hof⟩ := he.out
    have hb := hof.below
    have hat := hof.at_
    obtain ⟨Lf, sf, Af, nf, cf, Ff, mf, kf, rfl⟩ := hat.form
    have Z := Lib.hid (Z.out.on hb)
    have VA := Lib.hid (VA.out.on hb)
    have B := Lib.hid (B.out.trans (hb.mono B.out.size))
    have HAt := Lib.hid hat
    clear he hof hb hat HFew
    go_wp2_with fail
    refine (HFact.out _ _ HAt.out).mono ?_
    rintro e u2 ⟨rfl, hb⟩
    have Z := Lib.hid (Z.out.on hb)
    have VA := Lib.hid (VA.out.on hb)
    have B := Lib.hid (B.out.trans (hb.mono B.out.size))
    clear hb  HFact HAt
    obtain ⟨p0, p1, p2, p3, p4⟩ := VA.out.box
    go_wp2_with fail
    refine (HX.out _ _ VA.out.at_ Z.out).mono ?_
    rintro e u3 ⟨rfl, hb⟩
    have Z := Lib.hid (Z.out.on hb)
    have VA := Lib.hid (VA.out.on hb)
    have B := Lib.hid (B.out.trans (hb.mono B.out.size))
    clear hb p0 p1 p2 p3 p4 HX
    go_wp2
    go_ret
    exact ⟨rfl, B.out⟩


set_option maxRecDepth 100000 in
theorem lifted (os : Os) (started : os.Started) (H : Type) (enc : TypeId × Value → H) :
    ReturnsInHanded {} Tryd.checked os 4 .any (fun w args => (Rows.verdictEarlySpec.pre enc Tryd.prog Tryd.f4 Rows.verdictEarlyRow.domain false w args ∧ laidMetH Tryd.prog [("errors.errorType", Rows.laid_errors_errorType)] w) ∧ sizedMet enc Tryd.prog Tryd.f4 (OpenSpec.ofChange Rows.verdictEarlySpec) false w args) (Rows.verdictEarlySpec.post enc Tryd.prog Tryd.f4 false true false false) := by
  refine returnsInHanded_of_change_and (C := Tryd.checked) (X := fun w _ => laidMetH Tryd.prog [("errors.errorType", Rows.laid_errors_errorType)] w) (fun _ _ _ hh h => h.of_heap hh) own started (by kernel_rfl) Tryd.func4
    (ChangeSpec.witness_at (enc := enc) (C := Tryd.checked) (os := os) (X := fun w _ => laidMetH Tryd.prog [("errors.errorType", Rows.laid_errors_errorType)] w) false (laidWorld os) #[.agg #[.int .i64 0, .int .i64 0, .slice none 0 0, .slice none 0 0], .slice none 0 0] 8 rfl (by kernel_rfl) (by kernel_rfl) (by kernel_rfl) (by kernel_rfl) (by kernel_rfl) (laidWorld_met os _)) ?_
  intro W base args ds gs before hval0 hW hcnd hsz0 hL _
  have hval : ∀ (j : Nat) t v, Tryd.f4.params[j]? = some t → args[j]? = some v → Value.okWide Tryd.prog W .any base t v := hval0
  have hsz : (DataW.weightsEach Tryd.prog (Tryd.f4.params.toList ++ Rows.verdictEarlySpec.plain.varTypes Tryd.prog) (ds ++ gs)).all (· ≤ reachBytes) = true := hsz0
  have hW' := hW
  obtain ⟨p, q, hA0, hV0, rfl, hfz, hnd⟩ := hW
  have hV : DataW.TrodVars enc Tryd.prog W (fun _ => true) [] gs q := hV0
  have hA : DataW.TrodAll enc Tryd.prog W 0 (fun _ => true) true Tryd.f4.params.toList args.toList ds p := hA0
  rw [Tryd.params4] at hA hval hsz
  obtain ⟨v0, vs0, d0, ds0, p0, q0, hargs, rfl, rfl, h0, rr0⟩ := trodAll_cons hA
  obtain ⟨v1, vs1, d1, ds1, p1, q1, rfl, rfl, rfl, h1, rr1⟩ := trodAll_cons rr0
  obtain ⟨rfl, rfl, rfl⟩ := trodAll_nil rr1
  obtain rfl : args = #[v0, v1] := by cases args; simp_all
  obtain ⟨rfl, rfl⟩ := trodVars_none hV
  have k0 := h0
  have lt0 : ∀ x ∈ p0, x.block < W.heap.size := by obtain ⟨m, hm⟩ := k0; exact DataW.trod_lt m _ _ _ hm
  have k1 := h1
  have lt1 : ∀ x ∈ p1, x.block < W.heap.size := by obtain ⟨m, hm⟩ := k1; exact DataW.trod_lt m _ _ _ hm
  obtain ⟨D0, x0⟩ : ∃ d : Df.Aut, Df.DfaAt W W.heap.size v0 d := Df.dfa_open (hval 0 25 v0 rfl rfl) h0
  obtain ⟨A1, len1, c1, rfl⟩ := okWide_slice Tryd.underlying26 (hval 1 26 v1 rfl rfl)
  obtain ⟨z1, rfl, x1, r1, m1⟩ : ∃ zs : List Int, len1 = zs.length ∧ IntsAt W W.heap.size A1 zs ∧ zs.length ≤ 17592186043904 ∧ zs.length ≤ c1 := by
    obtain ⟨fuel, hf⟩ := h1
    rcases open_ints Tryd.underlying26 Tryd.underlying3 (by kernel_rfl) hf with ⟨hcs, _⟩ | ⟨x, l, c, zs, hcs, _, hl, hm, hz, hx, hcell, hwz⟩
    · simp [Value.cells] at hcs
      obtain ⟨rfl, rfl, rfl⟩ := hcs
      exact ⟨[], rfl, IntsAt.nil _ _ _, by simp, by simp⟩
    · simp [Value.cells] at hcs
      obtain ⟨rfl, rfl, rfl⟩ := hcs
      have hd := congrArg Prod.fst hx
      simp only at hd
      have := sized_slice hsz (j := 1) (t := 26) (e := 3) rfl (by rw [hd]; rfl) Tryd.underlying26
      rw [(show Tryd.prog.bytesOf 3 = 8 by kernel_rfl)] at this
      simp only [reachBytes, lits, List.length_map, List.length_take, List.length_drop] at this
      have hz' : zs.length = c1 := by simpa using hz
      exact ⟨zs.take len1, by rw [List.length_take]; omega, intsAt_of_open hcell hwz len1, by rw [List.length_take]; omega, by rw [List.length_take]; omega⟩
  clear hA0 hval0
  refine (walk v0 D0 A1 c1 z1 W x0 x1 r1 m1 (handle_of_laid hL)).mono fun e W' ⟨he, bel⟩ => ?_
  subst he
  exact ⟨_, rfl, _, _, _, [], _, [], hW', trodAll_mk1 (shut_bool Tryd.underlying4 _), (trodAll_cons_mk (Below.trod laidOut (by kernel_rfl) (of_decide_eq_true (by kernel_rfl)) k0 bel lt0) (trodAll_cons_mk (Below.trod laidOut (by kernel_rfl) (of_decide_eq_true (by kernel_rfl)) k1 bel lt1) trodAll_mk0)), rfl, bel.frame _, fun h => by cases h⟩

theorem over : Rows.verdictEarlyRow.holds Tryd.pinned (OpenSpec.ofChange Rows.verdictEarlySpec) :=
  OpenClaim.holds_of_wide 4 Tryd.f4 rfl rfl rfl rfl rfl rfl rfl ⟨rfl, rfl, rfl, rfl, rfl⟩ rfl rfl rfl rfl rfl (by kernel_rfl) Tryd.func4 (by kernel_rfl)
    (of_decide_eq_true (by kernel_rfl)) (by unfold Func.isWrapper; rw [if_neg (of_decide_eq_false (by kernel_rfl))]; exact ⟨rfl, rfl⟩)
    (fun os started H enc _ => lifted os started H enc)
theorem proved : Rows.VerdictEarlyCardSaid :=
  Claim7.holds_tied_plain_at .later [] [.handle] true (true, "e34c0bb72ea66d068c9c5f9a0bdeb40975989f46962b80c4834b7e61b2ae7e94") true
    over (fun _ h => by cases h) (by kernel_rfl) (fun _ h => by cases h) verdictEarly_row_tie rfl ⟨rfl, rfl⟩ (by kernel_rfl) rfl
    (fun f fn hf hfn => by
      obtain rfl : f = 4 := Option.some.inj ((show Tryd.prog.funcNamed "stileward/stilewardlaw4.VerdictEarly" = some 4 by kernel_rfl).symm.trans hf) |>.symm
      obtain rfl : fn = Tryd.f4 := (Option.some.inj (Tryd.func4.symm.trans hfn)).symm
      exact ⟨by kernel_rfl, fun j t ht => by
        rw [Tryd.params4] at ht
        rcases j with _ | _ | j
        · obtain rfl : 25 = t := by simpa using ht
          exact (show Tryd.prog.wantsStandIn 25 = false by kernel_rfl)
        · obtain rfl : 26 = t := by simpa using ht
          exact (show Tryd.prog.wantsStandIn 26 = false by kernel_rfl)
        · simp at ht⟩)
    (by kernel_rfl)
#print axioms proved
end Go.Proofs.YtblkaegnnokedaaDoor.verdictEarly
