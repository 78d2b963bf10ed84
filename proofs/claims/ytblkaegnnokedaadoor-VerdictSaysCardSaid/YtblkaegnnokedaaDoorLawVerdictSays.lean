/-
  The statement VerdictSaysCardSaid of this seat, proved: for every input the law returns true and its arguments read behind the call as before. Conditions: none but the row's own (each argument within the reach; the listed variable as the program lays it, tied by the given tie).
-/
import Derived.Test.YtblkaegnnokedaaDoorRows
import Derived.Test.YtblkaegnnokedaaDoorCards
import Derived.Test.YtblkaegnnokedaaDoorTie
import Derived.SevenTiedAt
import Derived.LaidLaws
import Derived.LaidHandle
import Derived.LaidMore
import Derived.Lay
import Derived.MakeChecks
import Derived.Stop.Joined
import Derived.JoinedOf
import Derived.RowKit
import Derived.RowKitTokens
import Derived.ChangeSame
import Derived.ChangeVars
import Derived.Test.YtblkaegnnokedaaDoorWords
import Derived.WalkKit
import Derived.ProofKit
import Derived.OpenShut
import Derived.ShutString
import Derived.ChangeOld
import Derived.Below
import Derived.SizedLaws
import Derived.Lib.Hide
import Derived.Test.YtblkaegnnokedaaDoorVerS
import Derived.Test.YtblkaegnnokedaaDoorRefVer
import Derived.Test.YtblkaegnnokedaaDoorRefFirst
import Derived.Test.YtblkaegnnokedaaDoorRefDfa
import Derived.Test.YtblkaegnnokedaaDoorRefWord
import Derived.Test.YtblkaegnnokedaaDoorSays
import Derived.Test.YtblkaegnnokedaaDoorWordL
import Derived.Test.YtblkaegnnokedaaDoorDfaV
namespace Go.Proofs.YtblkaegnnokedaaDoor.verdictSays
open Go.ChangeShapes Go.WideShapes Go.ChangeAt Go.RowKit Go.IntWalk Go.Proofs.YtblkaegnnokedaaDoor.Wd
open Go.ChangeMaps (open_string shut_string)
set_option linter.unusedVariables false

theorem own : ownKnob Tryd.prog.godebug = none := by kernel_rfl
theorem laidOut : laidOutB Tryd.prog = true := by kernel_rfl
theorem et : Tryd.prog.globalNamed "errors.errorType" = some 0 := by kernel_rfl
theorem rt : (Tryd.prog.cutTypes.find? (·.1 == "internal/reflectlite.rtype")).map (·.2) = some 106 := by kernel_rfl
theorem oneRow : ((List.range 157).filter fun t => Tryd.prog.rowNamed t [101, 114, 114, 111, 114]) = [30] := by kernel_rfl
theorem size : Tryd.prog.types.size = 157 := by kernel_rfl
/-- What the condition gives a walk: the variable's one cell. -/
theorem handle_of_laid {w : World} (h : laidMetH Tryd.prog [("errors.errorType", Rows.laid_errors_errorType)] w) : w.cell? ⟨0, 0, none⟩ = some (.iface 106 (.agg #[.pointer (some ⟨1, 30, none⟩)])) := by
  have h' : laidMet Tryd.prog [] w ∧ handlesMet Tryd.prog [("errors.errorType", Rows.laid_errors_errorType)] w := h
  obtain ⟨name, u, ty, e1, e2, e3, e4, e5⟩ := h'.2 _ (List.mem_singleton.2 rfl)
  have en : name = [101, 114, 114, 111, 114] := (Option.some.inj e1).symm
  subst en
  obtain rfl := Option.some.inj (rt.symm.trans e2)
  have hm : ty ∈ (List.range 157).filter fun t => Tryd.prog.rowNamed t [101, 114, 114, 111, 114] := List.mem_filter.2 ⟨List.mem_range.2 (by rw [← size]; exact e3), e4⟩
  rw [oneRow] at hm
  obtain rfl := List.mem_singleton.1 hm
  have hh : typeHandle Tryd.prog 30 = .pointer (some ⟨1, 30, none⟩) := by kernel_rfl
  rw [hh] at e5
  simpa using World.var?_cell et e5 0
/-- A world that meets the condition. -/
noncomputable def laidWorld (os : Os) : World :=
  let w0 := World.holding Tryd.prog os ⟨#[], #[], []⟩
  { w0 with heap := w0.heap.modify 0 fun
      | .cells _ t frozen => .cells #[.iface 106 (.agg #[.pointer (some ⟨1, 30, none⟩)])] t frozen
      | o => o }
theorem laidWorld_met (os : Os) (args : Array Value) : laidMetH Tryd.prog [("errors.errorType", Rows.laid_errors_errorType)] ((laidWorld os).forCall (fun _ _ => 0) ⟨#[], args, []⟩).memory :=
  laidMetH_of_parts (laidMet_nil _ _) (by kernel_rfl)
open Go.Proofs.YtblkaegnnokedaaDoor.Wo Go.Proofs.YtblkaegnnokedaaDoor.Er Go.Proofs.YtblkaegnnokedaaDoor.Df Go.Proofs.YtblkaegnnokedaaDoor.Rc Go.Proofs.YtblkaegnnokedaaDoor.Sm Go.Proofs.YtblkaegnnokedaaDoor.Mp Go.Proofs.YtblkaegnnokedaaDoor.Sa Go.Proofs.YtblkaegnnokedaaDoor.Ve
theorem says_gives {w : World} (hg : w.cell? ⟨0, 0, none⟩ = some (.iface 106 (.agg #[.pointer (some ⟨1, 30, none⟩)]))) (e : Nat) {E : Value} {K : Int} (hE : errV e = E) (hK : (e : Int) = K) (W : World) (hb : Below w.heap.size w W) :
    Calls Tryd.prog 10 #[E, .int .i64 K] W fun r w' => r = .returned (.bool true) ∧ Below W.heap.size W w' := by
  subst hE
  subst hK
  exact says e hg W hb
theorem nil_five (W : World) : Calls Tryd.prog 10 #[.nilIface, .int .i64 5] W fun r w' => r = .returned (.bool false) ∧ Below W.heap.size W w' :=
  (error_nil 5 W).mono fun r w' ⟨h1, h2⟩ => ⟨h1.out, by rw [← h2]; exact Below.refl _ _⟩
theorem told_not {w : World} (hg : w.cell? ⟨0, 0, none⟩ = some (.iface 106 (.agg #[.pointer (some ⟨1, 30, none⟩)]))) {k : Nat} (hk : k ≠ 5) {E : Value} (hE : errV k = E) (W : World) (hb : Below w.heap.size w W) :
    Calls Tryd.prog 10 #[E, .int .i64 5] W fun r w' => r = .returned (.bool false) ∧ Below W.heap.size W w' := by
  subst hE
  rcases k with _ | k
  · exact nil_five W
  · exact (error_told _ _ W (keep_handle hg hb)).mono fun _ _ ⟨h, e⟩ => ⟨by rw [h.out, int_ne (by omega)], e⟩
theorem acc_not5 {d : Aut} {z : List Int} (g : Df.Good d) : accErr d z ≠ 5 := by
  unfold accErr
  rw [if_neg (by have := dchk_iff.2 g; omega)]
  rcases chk_cases d.L z with h | h | h <;> omega
theorem rfirst_some {v : Value} {d : Aut} {s : Nat} {w : World} (h : DfaAt w w.heap.size v d) (hg : Df.Good d) (hs : s < d.next.length) {u : List Int} (hf : firstW d s = some u) (hsm : ∀ x ∈ u, Small x) :
    Calls Tryd.prog 14 #[v, .int .i64 s] w fun e w' => ∃ A c, e = .returned (.tuple #[.slice A u.length c, .bool true]) ∧ Hid (IntsAt w' w'.heap.size A u) ∧ Below w.heap.size w w' := by
  refine (rfirst_any v d s w h hg hs).mono fun e w' he => ?_
  rcases he.out with ⟨u', wv, h1, h2, h3⟩ | ⟨h1, _⟩
  · obtain rfl := Option.some.inj (hf.symm.trans h1)
    obtain ⟨A, c, rfl, _, _, hA⟩ := own_ints_at h3 (List.mem_append_right _ List.mem_cons_self) hsm
    exact ⟨A, c, h2, hA, h3.below⟩
  · rw [hf] at h1; cases h1
theorem rfirst_none {v : Value} {d : Aut} {s : Nat} {w : World} (h : DfaAt w w.heap.size v d) (hg : Df.Good d) (hs : s < d.next.length) (hf : firstW d s = none) :
    Calls Tryd.prog 14 #[v, .int .i64 s] w fun e w' => e = .returned (.tuple #[.slice none 0 0, .bool false]) ∧ Below w.heap.size w w' := by
  refine (rfirst_any v d s w h hg hs).mono fun e w' he => ?_
  rcases he.out with ⟨u', wv, h1, h2, h3⟩ | ⟨_, h2, h3⟩
  · rw [hf] at h1; cases h1
  · exact ⟨h2, h3⟩
theorem ints_none (W : World) (A : Option Addr) (c : Nat) : Calls Tryd.prog 18 #[.slice A 0 c, .slice none 0 0] W fun e w' => e = .returned (.bool true) ∧ Below W.heap.size W w' :=
  (ints_yes (n := 0) (v := []) (z := []) rfl (IntsAt.nil _ _ _) (IntsAt.nil _ _ _) (by simp)).mono fun e w' ⟨h1, m, h2⟩ => ⟨h1, by rw [h2]; exact below_drewN (Below.refl _ _) m⟩
theorem ints_two {W : World} {A B : Option Addr} {c d : Nat} {l : List Int} (hA : IntsAt W W.heap.size A l) (hB : IntsAt W W.heap.size B l) (hl : l.length ≤ 1000) : Calls Tryd.prog 18 #[.slice A l.length c, .slice B l.length d] W fun e w' => e = .returned (.bool true) ∧ Below W.heap.size W w' :=
  (ints_yes (n := 0) (v := l) (z := l) rfl hA hB (by omega)).mono fun e w' ⟨h1, m, h2⟩ => ⟨h1, by rw [h2]; exact below_drewN (Below.refl _ _) m⟩
theorem rdfa_is {W : World} {v : Value} {d : Aut} (h : DfaAt W W.heap.size v d) {K : Int} (hK : ((dchk d : Nat) : Int) = K) : Calls Tryd.prog 7 #[v] W fun e w' => e = .returned (.int .i64 K) ∧ Below W.heap.size W w' :=
  (rdfa_any v d W h).mono fun e w' ⟨h1, h2⟩ => ⟨by rw [h1.out, hK], h2⟩
theorem rword_is {W : World} {L : Int} {A : Option Addr} {c : Nat} {z : List Int} (hL : Small L) (hA : IntsAt W W.heap.size A z) (hz : z.length ≤ 17592186044416) {K : Int} (hK : ((chk L z : Nat) : Int) = K) :
    Calls Tryd.prog 11 #[.int .i64 L, .slice A z.length c] W fun e w' => e = .returned (.int .i64 K) ∧ Below W.heap.size W w' :=
  (refWord_any L A c z W hL hA hz).mono fun e w' ⟨h1, h2⟩ => ⟨by rw [h1.out, hK], by rw [← h2]; exact Below.refl _ _⟩
theorem rwatch_is {W : World} {v : Value} {d : Aut} (h : DfaAt W W.heap.size v d) (hg : Df.Good d) {b : Bool} (hb : watchB d = b) : Calls Tryd.prog 8 #[v] W fun e w' => e = .returned (.bool b) ∧ Below W.heap.size W w' :=
  (rwatch_any v d W h hg).mono fun e w' ⟨h1, h2⟩ => ⟨by rw [h1.out, hb], h2⟩
theorem rverdict_is {W : World} {v : Value} {d : Aut} {s : Nat} (h : DfaAt W W.heap.size v d) (hg : Df.Good d) (hs : s < d.next.length) {x : Int} (hx : ((verd d s : Nat) : Int) = x) : Calls Tryd.prog 13 #[v, .int .i64 (s : Int)] W fun e w' => e = .returned (.int .i64 x) ∧ Below W.heap.size W w' :=
  (rverdict_any v d s W h hg hs).mono fun e w' ⟨h1, h2⟩ => ⟨by rw [h1.out, hx], h2⟩

set_option maxRecDepth 100000 in
set_option maxHeartbeats 4000000 in
theorem walk (v0 : Value) (d0 : Df.Aut) (A1 : Option Addr) (c1 : Nat) (z1 : List Int) (w : World) (h0 : Df.DfaAt w w.heap.size v0 d0) (v1 : IntsAt w w.heap.size A1 z1) (r1 : z1.length ≤ 17592186043904) (m1 : z1.length ≤ c1) (hg : w.cell? ⟨0, 0, none⟩ = some (.iface 106 (.agg #[.pointer (some ⟨1, 30, none⟩)]))) :
    Calls Tryd.prog 3 #[v0, .slice A1 z1.length c1] w fun e w' => e = .returned (.bool true) ∧ Below w.heap.size w w' := by
  have hr : z1.length ≤ 17592186044416 := by omega
  obtain ⟨L0, s0, A0, n0, c0, F0, m0, k0, rfl⟩ := h0.form
  have hN0 := h0.eqs.2.2.1
  obtain ⟨u0, hu0, hb0, VA0⟩ := var_new w h0
  have VA := Lib.hid VA0
  have B := Lib.hid hb0
  have W0 := Lib.hid hu0
  have HN0 := Lib.hid hN0
  have Z := Lib.hid (v1.on hb0)
  clear VA0 hb0 hu0 h0 hN0 v1
  clear m1 r1 HN0
  have hL0 := VA.out.at_.eqs.1
  have hs0 := VA.out.at_.eqs.2.1
  have HI0 := Lib.hid (fun W A c => ints_none W A c)
  by_cases g1 : dchk d0 = 0
  · have Ga := dchk_iff.1 g1
    obtain ⟨p, hp⟩ := Int.eq_ofNat_of_zero_le (show 0 ≤ s0 by have := Ga.st.1; omega)
    subst hp
    have hps : d0.s.toNat = p := by omega
    have hpl : p < d0.next.length := by have := Ga.s_lt; omega
    have hsL : Small L0 := by rw [← hL0]; exact Ga.small_L
    obtain ⟨b, hb⟩ : ∃ b, watchB d0 = b := ⟨_, rfl⟩
    have HD := Lib.hid (fun W v (h : DfaAt W W.heap.size v d0) => rdfa_is h (K := 0) (by rw [g1]; rfl))
    have HSW := Lib.hid (fun W v (h : DfaAt W W.heap.size v d0) => rwatch_is h Ga hb)
    have HPW := Lib.hid (fun W v (h : DfaAt W W.heap.size v d0) => watch_gives (E := .nilIface) h ((watchOut_ok Ga).trans (by rw [hb])) rfl)
    have HE0 := Lib.hid (fun W (hb : Below w.heap.size w W) => says_gives hg 0 (E := .nilIface) (K := 0) rfl rfl W hb)
    by_cases ga : accErr d0 z1 = 0
    · obtain ⟨_, fa⟩ := accErr_good ga
      have fw := fine_word fa
      have hl := Ga.run_lt fw hpl
      have hck : chk d0.L z1 = 0 := chk_iff.2 fa
      rw [hL0] at hck
      have HWd := Lib.hid (fun W (hZ : IntsAt W W.heap.size A1 z1) => rword_is (c := c1) hsL hZ hr (K := 0) (by rw [hck]; rfl))
      have HRn := Lib.hid (fun W v (h : DfaAt W W.heap.size v d0) (hZ : IntsAt W W.heap.size A1 z1) => rrun_any v d0 p A1 c1 z1 W h Ga hpl fw hZ hr)
      obtain ⟨x, hx⟩ : ∃ x : Int, ((verd d0 (runA d0 p z1) : Nat) : Int) = x := ⟨_, rfl⟩
      have HVe := Lib.hid (fun W v (h : DfaAt W W.heap.size v d0) => rverdict_is h Ga hl hx)
      have HSt := Lib.hid (fun W v (h : DfaAt W W.heap.size v d0) => rsettling_any v d0 W h Ga)
      have HOf := Lib.hid (fun W v (h : DfaAt W W.heap.size v d0) (hZ : IntsAt W W.heap.size A1 z1) => of_gives (cz := c1) (E := .nilIface) h hZ hr (x := x) ((ofOut_ok ga).trans (by rw [hps, hx])) rfl)
      have HE := HE0
      have hxx : (x == x) = true := beq_self_eq_true _
      rcases hs : soon d0 (runA d0 p z1) with _ | u
      · have HSo := Lib.hid (fun W v (h : DfaAt W W.heap.size v d0) (hZ : IntsAt W W.heap.size A1 z1) => soon_gives (cz := c1) (E := errI 5) h hZ hr (l := []) (soonOut_none ga (by rw [hps]; exact hs)) rfl)
        have HFi := Lib.hid (fun W v (h : DfaAt W W.heap.size v (settA d0)) => rfirst_none h (sett_good Ga) (by exact hl) hs)
        have HE2 := Lib.hid (fun W (hb : Below w.heap.size w W) => says_gives hg 5 (E := errI 5) (K := 5) rfl rfl W hb)
        clear g1 Ga hps hpl hsL hb ga fa fw hl hck hx hs hg hr hL0 hs0
        generalize runA d0 p z1 = y at *
        generalize settA d0 = S at *
        rcases b with _ | _
        all_goals as_aux_lemma =>
          go_enter Tryd.func3, Tryd.ntmps3
          obtain ⟨p0, p1, p2, p3, p4⟩ := VA.out.box
          go_wp2_with fail
          rw [← W0.out]
          clear W0
          refine (HD.out _ _ VA.out.at_).mono ?_
          rintro e u1 ⟨rfl, hb⟩
          have Z := Lib.hid (Z.out.on hb)
          have VA := Lib.hid (VA.out.on hb)
          have B := Lib.hid (B.out.trans (hb.mono B.out.size))
          clear hb p0 p1 p2 p3 p4 HD
          obtain ⟨p0, p1, p2, p3, p4⟩ := VA.out.box
          go_wp2_with fail
          refine (HSW.out _ _ VA.out.at_).mono ?_
          rintro e u2 ⟨rfl, hb⟩
          have Z := Lib.hid (Z.out.on hb)
          have VA := Lib.hid (VA.out.on hb)
          have B := Lib.hid (B.out.trans (hb.mono B.out.size))
          clear hb p0 p1 p2 p3 p4 HSW
          obtain ⟨p0, p1, p2, p3, p4⟩ := VA.out.box
          go_wp2_with fail
          refine (HPW.out _ _ VA.out.at_).mono ?_
          rintro e u3 ⟨rfl, hb⟩
          have Z := Lib.hid (Z.out.on hb)
          have VA := Lib.hid (VA.out.on hb)
          have B := Lib.hid (B.out.trans (hb.mono B.out.size))
          clear hb p0 p1 p2 p3 p4 HPW
          go_wp2_with fail
          refine (HE0.out _ B.out).mono ?_
          rintro e u4 ⟨rfl, hb⟩
          have Z := Lib.hid (Z.out.on hb)
          have VA := Lib.hid (VA.out.on hb)
          have B := Lib.hid (B.out.trans (hb.mono B.out.size))
          clear hb  
          obtain ⟨p0, p1, p2, p3, p4⟩ := VA.out.box
          go_wp2_with fail
          refine (HWd.out _ Z.out).mono ?_
          rintro e u5 ⟨rfl, hb⟩
          have Z := Lib.hid (Z.out.on hb)
          have VA := Lib.hid (VA.out.on hb)
          have B := Lib.hid (B.out.trans (hb.mono B.out.size))
          clear hb p0 p1 p2 p3 p4 HWd
          obtain ⟨p0, p1, p2, p3, p4⟩ := VA.out.box
          go_wp2_with fail
          refine (HRn.out _ _ VA.out.at_ Z.out).mono ?_
          rintro e u6 ⟨rfl, hb⟩
          have Z := Lib.hid (Z.out.on hb)
          have VA := Lib.hid (VA.out.on hb)
          have B := Lib.hid (B.out.trans (hb.mono B.out.size))
          clear hb p0 p1 p2 p3 p4 HRn
          obtain ⟨p0, p1, p2, p3, p4⟩ := VA.out.box
          go_wp2_with fail
          refine (HVe.out _ _ VA.out.at_).mono ?_
          rintro e u7 ⟨rfl, hb⟩
          have Z := Lib.hid (Z.out.on hb)
          have VA := Lib.hid (VA.out.on hb)
          have B := Lib.hid (B.out.trans (hb.mono B.out.size))
          clear hb p0 p1 p2 p3 p4 HVe
          obtain ⟨p0, p1, p2, p3, p4⟩ := VA.out.box
          go_wp2_with fail
          refine (HSt.out _ _ VA.out.at_).mono ?_
          rintro e u8 ⟨he, hb⟩
          obtain ⟨x9, rfl, hat⟩ := he.out
          obtain ⟨L9, s9, A9, n9, c9, F9, m9, k9, rfl⟩ := hat.form
          have Z := Lib.hid (Z.out.on hb)
          have VA := Lib.hid (VA.out.on hb)
          have B := Lib.hid (B.out.trans (hb.mono B.out.size))
          have HAt := Lib.hid hat
          clear he hat hb HSt p0 p1 p2 p3 p4
          go_wp2_with fail
          refine (HFi.out _ _ HAt.out).mono ?_
          rintro e u9 ⟨rfl, hb⟩
          have Z := Lib.hid (Z.out.on hb)
          have VA := Lib.hid (VA.out.on hb)
          have B := Lib.hid (B.out.trans (hb.mono B.out.size))
          clear hb  HFi HAt
          obtain ⟨p0, p1, p2, p3, p4⟩ := VA.out.box
          go_wp2_with fail
          refine (HOf.out _ _ VA.out.at_ Z.out).mono ?_
          rintro e u10 ⟨rfl, hb⟩
          have Z := Lib.hid (Z.out.on hb)
          have VA := Lib.hid (VA.out.on hb)
          have B := Lib.hid (B.out.trans (hb.mono B.out.size))
          clear hb p0 p1 p2 p3 p4 HOf
          go_wp2_with fail
          refine (HE.out _ B.out).mono ?_
          rintro e u11 ⟨rfl, hb⟩
          have Z := Lib.hid (Z.out.on hb)
          have VA := Lib.hid (VA.out.on hb)
          have B := Lib.hid (B.out.trans (hb.mono B.out.size))
          clear hb  
          obtain ⟨p0, p1, p2, p3, p4⟩ := VA.out.box
          go_wp2_with fail
          refine (HSo.out _ _ VA.out.at_ Z.out).mono ?_
          rintro e u12 ⟨AHI, cHI, rfl, hI, hb⟩
          have HI := Lib.hid hI.out
          have Z := Lib.hid (Z.out.on hb)
          have VA := Lib.hid (VA.out.on hb)
          have B := Lib.hid (B.out.trans (hb.mono B.out.size))
          clear hb hI p0 p1 p2 p3 p4 HSo
          clear HI
          go_wp2_with fail
          refine (HE2.out _ B.out).mono ?_
          rintro e u13 ⟨rfl, hb⟩
          have Z := Lib.hid (Z.out.on hb)
          have VA := Lib.hid (VA.out.on hb)
          have B := Lib.hid (B.out.trans (hb.mono B.out.size))
          clear hb  
          go_wp2_with fail
          refine (HI0.out _ _ _).mono ?_
          rintro e u14 ⟨rfl, hb⟩
          have Z := Lib.hid (Z.out.on hb)
          have VA := Lib.hid (VA.out.on hb)
          have B := Lib.hid (B.out.trans (hb.mono B.out.size))
          clear hb  
          go_wp2
          go_ret
          exact ⟨rfl, B.out⟩
      · obtain ⟨hu1, _, hu2, _⟩ := soon_some Ga hl hs
        have hsm := word_small Ga.l6 hu1
        have hul : u.length ≤ 1000 := by have := Ga.n40; omega
        have HI2 := Lib.hid (fun W A B c d (hA : IntsAt W W.heap.size A u) (hB : IntsAt W W.heap.size B u) => ints_two (c := c) (d := d) hA hB hul)
        have HSo := Lib.hid (fun W v (h : DfaAt W W.heap.size v d0) (hZ : IntsAt W W.heap.size A1 z1) => soon_gives (cz := c1) (E := .nilIface) h hZ hr (l := u) (soonOut_some ga (by rw [hps]; exact hs)) rfl)
        have HFi := Lib.hid (fun W v (h : DfaAt W W.heap.size v (settA d0)) => rfirst_some h (sett_good Ga) (by exact hl) hs hsm)
        have HE2 := HE0
        clear g1 Ga hps hpl hsL hb ga fa fw hl hck hx hs hg hr hL0 hs0 hu1 hu2 hsm
        generalize runA d0 p z1 = y at *
        generalize settA d0 = S at *
        rcases b with _ | _
        all_goals as_aux_lemma =>
          go_enter Tryd.func3, Tryd.ntmps3
          obtain ⟨p0, p1, p2, p3, p4⟩ := VA.out.box
          go_wp2_with fail
          rw [← W0.out]
          clear W0
          refine (HD.out _ _ VA.out.at_).mono ?_
          rintro e u1 ⟨rfl, hb⟩
          have Z := Lib.hid (Z.out.on hb)
          have VA := Lib.hid (VA.out.on hb)
          have B := Lib.hid (B.out.trans (hb.mono B.out.size))
          clear hb p0 p1 p2 p3 p4 HD
          obtain ⟨p0, p1, p2, p3, p4⟩ := VA.out.box
          go_wp2_with fail
          refine (HSW.out _ _ VA.out.at_).mono ?_
          rintro e u2 ⟨rfl, hb⟩
          have Z := Lib.hid (Z.out.on hb)
          have VA := Lib.hid (VA.out.on hb)
          have B := Lib.hid (B.out.trans (hb.mono B.out.size))
          clear hb p0 p1 p2 p3 p4 HSW
          obtain ⟨p0, p1, p2, p3, p4⟩ := VA.out.box
          go_wp2_with fail
          refine (HPW.out _ _ VA.out.at_).mono ?_
          rintro e u3 ⟨rfl, hb⟩
          have Z := Lib.hid (Z.out.on hb)
          have VA := Lib.hid (VA.out.on hb)
          have B := Lib.hid (B.out.trans (hb.mono B.out.size))
          clear hb p0 p1 p2 p3 p4 HPW
          go_wp2_with fail
          refine (HE0.out _ B.out).mono ?_
          rintro e u4 ⟨rfl, hb⟩
          have Z := Lib.hid (Z.out.on hb)
          have VA := Lib.hid (VA.out.on hb)
          have B := Lib.hid (B.out.trans (hb.mono B.out.size))
          clear hb  
          obtain ⟨p0, p1, p2, p3, p4⟩ := VA.out.box
          go_wp2_with fail
          refine (HWd.out _ Z.out).mono ?_
          rintro e u5 ⟨rfl, hb⟩
          have Z := Lib.hid (Z.out.on hb)
          have VA := Lib.hid (VA.out.on hb)
          have B := Lib.hid (B.out.trans (hb.mono B.out.size))
          clear hb p0 p1 p2 p3 p4 HWd
          obtain ⟨p0, p1, p2, p3, p4⟩ := VA.out.box
          go_wp2_with fail
          refine (HRn.out _ _ VA.out.at_ Z.out).mono ?_
          rintro e u6 ⟨rfl, hb⟩
          have Z := Lib.hid (Z.out.on hb)
          have VA := Lib.hid (VA.out.on hb)
          have B := Lib.hid (B.out.trans (hb.mono B.out.size))
          clear hb p0 p1 p2 p3 p4 HRn
          obtain ⟨p0, p1, p2, p3, p4⟩ := VA.out.box
          go_wp2_with fail
          refine (HVe.out _ _ VA.out.at_).mono ?_
          rintro e u7 ⟨rfl, hb⟩
          have Z := Lib.hid (Z.out.on hb)
          have VA := Lib.hid (VA.out.on hb)
          have B := Lib.hid (B.out.trans (hb.mono B.out.size))
          clear hb p0 p1 p2 p3 p4 HVe
          obtain ⟨p0, p1, p2, p3, p4⟩ := VA.out.box
          go_wp2_with fail
          refine (HSt.out _ _ VA.out.at_).mono ?_
          rintro e u8 ⟨he, hb⟩
          obtain ⟨x9, rfl, hat⟩ := he.out
          obtain ⟨L9, s9, A9, n9, c9, F9, m9, k9, rfl⟩ := hat.form
          have Z := Lib.hid (Z.out.on hb)
          have VA := Lib.hid (VA.out.on hb)
          have B := Lib.hid (B.out.trans (hb.mono B.out.size))
          have HAt := Lib.hid hat
          clear he hat hb HSt p0 p1 p2 p3 p4
          go_wp2_with fail
          refine (HFi.out _ _ HAt.out).mono ?_
          rintro e u9 ⟨AHU, cHU, rfl, hI, hb⟩
          have HU := Lib.hid hI.out
          have Z := Lib.hid (Z.out.on hb)
          have VA := Lib.hid (VA.out.on hb)
          have B := Lib.hid (B.out.trans (hb.mono B.out.size))
          clear hb hI  HFi HAt
          obtain ⟨p0, p1, p2, p3, p4⟩ := VA.out.box
          go_wp2_with fail
          refine (HOf.out _ _ VA.out.at_ Z.out).mono ?_
          rintro e u10 ⟨rfl, hb⟩
          have Z := Lib.hid (Z.out.on hb)
          have HU := Lib.hid (HU.out.on hb)
          have VA := Lib.hid (VA.out.on hb)
          have B := Lib.hid (B.out.trans (hb.mono B.out.size))
          clear hb p0 p1 p2 p3 p4 HOf
          go_wp2_with fail
          refine (HE.out _ B.out).mono ?_
          rintro e u11 ⟨rfl, hb⟩
          have Z := Lib.hid (Z.out.on hb)
          have HU := Lib.hid (HU.out.on hb)
          have VA := Lib.hid (VA.out.on hb)
          have B := Lib.hid (B.out.trans (hb.mono B.out.size))
          clear hb  
          obtain ⟨p0, p1, p2, p3, p4⟩ := VA.out.box
          go_wp2_with fail
          refine (HSo.out _ _ VA.out.at_ Z.out).mono ?_
          rintro e u12 ⟨AHI, cHI, rfl, hI, hb⟩
          have HI := Lib.hid hI.out
          have Z := Lib.hid (Z.out.on hb)
          have HU := Lib.hid (HU.out.on hb)
          have VA := Lib.hid (VA.out.on hb)
          have B := Lib.hid (B.out.trans (hb.mono B.out.size))
          clear hb hI p0 p1 p2 p3 p4 HSo
          go_wp2_with fail
          refine (HE2.out _ B.out).mono ?_
          rintro e u13 ⟨rfl, hb⟩
          have Z := Lib.hid (Z.out.on hb)
          have HU := Lib.hid (HU.out.on hb)
          have HI := Lib.hid (HI.out.on hb)
          have VA := Lib.hid (VA.out.on hb)
          have B := Lib.hid (B.out.trans (hb.mono B.out.size))
          clear hb  
          go_wp2_with fail
          refine (HI2.out _ _ _ _ _ HI.out HU.out).mono ?_
          rintro e u14 ⟨rfl, hb⟩
          have Z := Lib.hid (Z.out.on hb)
          have HU := Lib.hid (HU.out.on hb)
          have HI := Lib.hid (HI.out.on hb)
          have VA := Lib.hid (VA.out.on hb)
          have B := Lib.hid (B.out.trans (hb.mono B.out.size))
          clear hb  
          go_wp2
          go_ret
          exact ⟨rfl, B.out⟩
    · obtain ⟨E, hE⟩ := errV_bad ga
      have hEK : ((accErr d0 z1 : Nat) : Int) = E := by
        rcases h : accErr d0 z1 with _ | n
        · exact absurd h ga
        · rw [h] at hE; simpa [errV] using hE
      have hck : ((chk L0 z1 : Nat) : Int) = E := by rw [← hEK, ← hL0]; unfold accErr; rw [if_neg (by omega)]
      have HWd := Lib.hid (fun W (hZ : IntsAt W W.heap.size A1 z1) => rword_is (c := c1) hsL hZ hr hck)
      have HE := Lib.hid (fun W (hb : Below w.heap.size w W) => says_gives hg (accErr d0 z1) (E := errI E) (K := E) hE hEK W hb)
      have HE2 := HE
      have hne := int_ne (show E ≠ 0 by omega)
      have HOf := Lib.hid (fun W v (h : DfaAt W W.heap.size v d0) (hZ : IntsAt W W.heap.size A1 z1) => of_gives (cz := c1) h hZ hr (x := 0) (ofOut_bad ga) hE)
      have HSo := Lib.hid (fun W v (h : DfaAt W W.heap.size v d0) (hZ : IntsAt W W.heap.size A1 z1) => soon_gives (cz := c1) h hZ hr (l := []) (soonOut_bad ga) hE)
      clear g1 Ga hps hpl hsL hb ga hck hg hr hL0 hs0 hE hEK
      rcases b with _ | _
      all_goals as_aux_lemma =>
        go_enter Tryd.func3, Tryd.ntmps3
        obtain ⟨p0, p1, p2, p3, p4⟩ := VA.out.box
        go_wp2_with fail
        rw [← W0.out]
        clear W0
        refine (HD.out _ _ VA.out.at_).mono ?_
        rintro e u1 ⟨rfl, hb⟩
        have Z := Lib.hid (Z.out.on hb)
        have VA := Lib.hid (VA.out.on hb)
        have B := Lib.hid (B.out.trans (hb.mono B.out.size))
        clear hb p0 p1 p2 p3 p4 HD
        obtain ⟨p0, p1, p2, p3, p4⟩ := VA.out.box
        go_wp2_with fail
        refine (HSW.out _ _ VA.out.at_).mono ?_
        rintro e u2 ⟨rfl, hb⟩
        have Z := Lib.hid (Z.out.on hb)
        have VA := Lib.hid (VA.out.on hb)
        have B := Lib.hid (B.out.trans (hb.mono B.out.size))
        clear hb p0 p1 p2 p3 p4 HSW
        obtain ⟨p0, p1, p2, p3, p4⟩ := VA.out.box
        go_wp2_with fail
        refine (HPW.out _ _ VA.out.at_).mono ?_
        rintro e u3 ⟨rfl, hb⟩
        have Z := Lib.hid (Z.out.on hb)
        have VA := Lib.hid (VA.out.on hb)
        have B := Lib.hid (B.out.trans (hb.mono B.out.size))
        clear hb p0 p1 p2 p3 p4 HPW
        go_wp2_with fail
        refine (HE0.out _ B.out).mono ?_
        rintro e u4 ⟨rfl, hb⟩
        have Z := Lib.hid (Z.out.on hb)
        have VA := Lib.hid (VA.out.on hb)
        have B := Lib.hid (B.out.trans (hb.mono B.out.size))
        clear hb  
        obtain ⟨p0, p1, p2, p3, p4⟩ := VA.out.box
        go_wp2_with fail
        refine (HWd.out _ Z.out).mono ?_
        rintro e u5 ⟨rfl, hb⟩
        have Z := Lib.hid (Z.out.on hb)
        have VA := Lib.hid (VA.out.on hb)
        have B := Lib.hid (B.out.trans (hb.mono B.out.size))
        clear hb p0 p1 p2 p3 p4 HWd
        obtain ⟨p0, p1, p2, p3, p4⟩ := VA.out.box
        go_wp2_with fail
        refine (HOf.out _ _ VA.out.at_ Z.out).mono ?_
        rintro e u6 ⟨rfl, hb⟩
        have Z := Lib.hid (Z.out.on hb)
        have VA := Lib.hid (VA.out.on hb)
        have B := Lib.hid (B.out.trans (hb.mono B.out.size))
        clear hb p0 p1 p2 p3 p4 HOf
        go_wp2_with fail
        refine (HE.out _ B.out).mono ?_
        rintro e u7 ⟨rfl, hb⟩
        have Z := Lib.hid (Z.out.on hb)
        have VA := Lib.hid (VA.out.on hb)
        have B := Lib.hid (B.out.trans (hb.mono B.out.size))
        clear hb  
        obtain ⟨p0, p1, p2, p3, p4⟩ := VA.out.box
        go_wp2_with fail
        refine (HSo.out _ _ VA.out.at_ Z.out).mono ?_
        rintro e u8 ⟨AHI, cHI, rfl, hI, hb⟩
        have HI := Lib.hid hI.out
        have Z := Lib.hid (Z.out.on hb)
        have VA := Lib.hid (VA.out.on hb)
        have B := Lib.hid (B.out.trans (hb.mono B.out.size))
        clear hb hI p0 p1 p2 p3 p4 HSo
        clear HI
        go_wp2_with fail
        refine (HE2.out _ B.out).mono ?_
        rintro e u9 ⟨rfl, hb⟩
        have Z := Lib.hid (Z.out.on hb)
        have VA := Lib.hid (VA.out.on hb)
        have B := Lib.hid (B.out.trans (hb.mono B.out.size))
        clear hb  
        go_wp2_with fail
        refine (HI0.out _ _ _).mono ?_
        rintro e u10 ⟨rfl, hb⟩
        have Z := Lib.hid (Z.out.on hb)
        have VA := Lib.hid (VA.out.on hb)
        have B := Lib.hid (B.out.trans (hb.mono B.out.size))
        clear hb  
        go_wp2
        go_ret
        exact ⟨rfl, B.out⟩
  · have ga : accErr d0 z1 = dchk d0 := by unfold accErr; rw [if_pos g1]
    obtain ⟨E, hE⟩ := errV_bad g1
    have hEK : ((dchk d0 : Nat) : Int) = E := by
      rcases h : dchk d0 with _ | n
      · exact absurd h g1
      · rw [h] at hE; simpa [errV] using hE
    have HD := Lib.hid (fun W v (h : DfaAt W W.heap.size v d0) => rdfa_is h hEK)
    have HPW := Lib.hid (fun W v (h : DfaAt W W.heap.size v d0) => watch_gives h (watchOut_bad g1) hE)
    have HE0 := Lib.hid (fun W (hb : Below w.heap.size w W) => says_gives hg (dchk d0) (E := errI E) (K := E) hE hEK W hb)
    have HE := HE0
    have HE2 := HE0
    have hne := int_ne (show E ≠ 0 by omega)
    have HOf := Lib.hid (fun W v (h : DfaAt W W.heap.size v d0) (hZ : IntsAt W W.heap.size A1 z1) => of_gives (cz := c1) (E := errI E) h hZ hr (x := 0) (ofOut_bad (by rw [ga]; exact g1)) (by rw [ga]; exact hE))
    have HSo := Lib.hid (fun W v (h : DfaAt W W.heap.size v d0) (hZ : IntsAt W W.heap.size A1 z1) => soon_gives (cz := c1) (E := errI E) h hZ hr (l := []) (soonOut_bad (by rw [ga]; exact g1)) (by rw [ga]; exact hE))
    clear g1 ga hg hr hL0 hs0 hE hEK
    go_enter Tryd.func3, Tryd.ntmps3
    obtain ⟨p0, p1, p2, p3, p4⟩ := VA.out.box
    go_wp2_with fail
    rw [← W0.out]
    clear W0
    refine (HD.out _ _ VA.out.at_).mono ?_
    rintro e u1 ⟨rfl, hb⟩
    have Z := Lib.hid (Z.out.on hb)
    have VA := Lib.hid (VA.out.on hb)
    have B := Lib.hid (B.out.trans (hb.mono B.out.size))
    clear hb p0 p1 p2 p3 p4 HD
    obtain ⟨p0, p1, p2, p3, p4⟩ := VA.out.box
    go_wp2_with fail
    refine (HPW.out _ _ VA.out.at_).mono ?_
    rintro e u2 ⟨rfl, hb⟩
    have Z := Lib.hid (Z.out.on hb)
    have VA := Lib.hid (VA.out.on hb)
    have B := Lib.hid (B.out.trans (hb.mono B.out.size))
    clear hb p0 p1 p2 p3 p4 HPW
    go_wp2_with fail
    refine (HE0.out _ B.out).mono ?_
    rintro e u3 ⟨rfl, hb⟩
    have Z := Lib.hid (Z.out.on hb)
    have VA := Lib.hid (VA.out.on hb)
    have B := Lib.hid (B.out.trans (hb.mono B.out.size))
    clear hb  
    obtain ⟨p0, p1, p2, p3, p4⟩ := VA.out.box
    go_wp2_with fail
    refine (HOf.out _ _ VA.out.at_ Z.out).mono ?_
    rintro e u4 ⟨rfl, hb⟩
    have Z := Lib.hid (Z.out.on hb)
    have VA := Lib.hid (VA.out.on hb)
    have B := Lib.hid (B.out.trans (hb.mono B.out.size))
    clear hb p0 p1 p2 p3 p4 HOf
    go_wp2_with fail
    refine (HE.out _ B.out).mono ?_
    rintro e u5 ⟨rfl, hb⟩
    have Z := Lib.hid (Z.out.on hb)
    have VA := Lib.hid (VA.out.on hb)
    have B := Lib.hid (B.out.trans (hb.mono B.out.size))
    clear hb  
    obtain ⟨p0, p1, p2, p3, p4⟩ := VA.out.box
    go_wp2_with fail
    refine (HSo.out _ _ VA.out.at_ Z.out).mono ?_
    rintro e u6 ⟨AHI, cHI, rfl, hI, hb⟩
    have HI := Lib.hid hI.out
    have Z := Lib.hid (Z.out.on hb)
    have VA := Lib.hid (VA.out.on hb)
    have B := Lib.hid (B.out.trans (hb.mono B.out.size))
    clear hb hI p0 p1 p2 p3 p4 HSo
    clear HI
    go_wp2_with fail
    refine (HE2.out _ B.out).mono ?_
    rintro e u7 ⟨rfl, hb⟩
    have Z := Lib.hid (Z.out.on hb)
    have VA := Lib.hid (VA.out.on hb)
    have B := Lib.hid (B.out.trans (hb.mono B.out.size))
    clear hb  
    go_wp2_with fail
    refine (HI0.out _ _ _).mono ?_
    rintro e u8 ⟨rfl, hb⟩
    have Z := Lib.hid (Z.out.on hb)
    have VA := Lib.hid (VA.out.on hb)
    have B := Lib.hid (B.out.trans (hb.mono B.out.size))
    clear hb  
    go_wp2
    go_ret
    exact ⟨rfl, B.out⟩


set_option maxRecDepth 100000 in
theorem lifted (os : Os) (started : os.Started) (H : Type) (enc : TypeId × Value → H) :
    ReturnsInHanded {} Tryd.checked os 3 .any (fun w args => (Rows.verdictSaysSpec.pre enc Tryd.prog Tryd.f3 Rows.verdictSaysRow.domain false w args ∧ laidMetH Tryd.prog [("errors.errorType", Rows.laid_errors_errorType)] w) ∧ sizedMet enc Tryd.prog Tryd.f3 (OpenSpec.ofChange Rows.verdictSaysSpec) false w args) (Rows.verdictSaysSpec.post enc Tryd.prog Tryd.f3 false true false false) := by
  refine returnsInHanded_of_change_and (C := Tryd.checked) (X := fun w _ => laidMetH Tryd.prog [("errors.errorType", Rows.laid_errors_errorType)] w) (fun _ _ _ hh h => h.of_heap hh) own started (by kernel_rfl) Tryd.func3
    (ChangeSpec.witness_at (enc := enc) (C := Tryd.checked) (os := os) (X := fun w _ => laidMetH Tryd.prog [("errors.errorType", Rows.laid_errors_errorType)] w) false (laidWorld os) #[.agg #[.int .i64 0, .int .i64 0, .slice none 0 0, .slice none 0 0], .slice none 0 0] 8 rfl (by kernel_rfl) (by kernel_rfl) (by kernel_rfl) (by kernel_rfl) (by kernel_rfl) (laidWorld_met os _)) ?_
  intro W base args ds gs before hval0 hW hcnd hsz0 hL _
  have hval : ∀ (j : Nat) t v, Tryd.f3.params[j]? = some t → args[j]? = some v → Value.okWide Tryd.prog W .any base t v := hval0
  have hsz : (DataW.weightsEach Tryd.prog (Tryd.f3.params.toList ++ Rows.verdictSaysSpec.plain.varTypes Tryd.prog) (ds ++ gs)).all (· ≤ reachBytes) = true := hsz0
  have hW' := hW
  obtain ⟨p, q, hA0, hV0, rfl, hfz, hnd⟩ := hW
  have hV : DataW.TrodVars enc Tryd.prog W (fun _ => true) [] gs q := hV0
  have hA : DataW.TrodAll enc Tryd.prog W 0 (fun _ => true) true Tryd.f3.params.toList args.toList ds p := hA0
  rw [Tryd.params3] at hA hval hsz
  obtain ⟨v0, vs0, d0, ds0, p0, q0, hargs, rfl, rfl, h0, rr0⟩ := trodAll_cons hA
  obtain ⟨v1, vs1, d1, ds1, p1, q1, rfl, rfl, rfl, h1, rr1⟩ := trodAll_cons rr0
  obtain ⟨rfl, rfl, rfl⟩ := trodAll_nil rr1
  obtain rfl : args = #[v0, v1] := by cases args; simp_all
  obtain ⟨rfl, rfl⟩ := trodVars_none hV
  have k0 := h0
  have lt0 : ∀ x ∈ p0, x.block < W.heap.size := by obtain ⟨m, hm⟩ := k0; exact DataW.trod_lt m _ _ _ hm
  have k1 := h1
  have lt1 : ∀ x ∈ p1, x.block < W.heap.size := by obtain ⟨m, hm⟩ := k1; exact DataW.trod_lt m _ _ _ hm
  obtain ⟨D0, x0⟩ : ∃ d : Df.Aut, Df.DfaAt W W.heap.size v0 d := Df.dfa_open (hval 0 25 v0 rfl rfl) h0
  obtain ⟨A1, len1, c1, rfl⟩ := okWide_slice Tryd.underlying26 (hval 1 26 v1 rfl rfl)
  obtain ⟨z1, rfl, x1, r1, m1⟩ : ∃ zs : List Int, len1 = zs.length ∧ IntsAt W W.heap.size A1 zs ∧ zs.length ≤ 17592186043904 ∧ zs.length ≤ c1 := by
    obtain ⟨fuel, hf⟩ := h1
    rcases open_ints Tryd.underlying26 Tryd.underlying3 (by kernel_rfl) hf with ⟨hcs, _⟩ | ⟨x, l, c, zs, hcs, _, hl, hm, hz, hx, hcell, hwz⟩
    · simp [Value.cells] at hcs
      obtain ⟨rfl, rfl, rfl⟩ := hcs
      exact ⟨[], rfl, IntsAt.nil _ _ _, by simp, by simp⟩
    · simp [Value.cells] at hcs
      obtain ⟨rfl, rfl, rfl⟩ := hcs
      have hd := congrArg Prod.fst hx
      simp only at hd
      have := sized_slice hsz (j := 1) (t := 26) (e := 3) rfl (by rw [hd]; rfl) Tryd.underlying26
      rw [(show Tryd.prog.bytesOf 3 = 8 by kernel_rfl)] at this
      simp only [reachBytes, lits, List.length_map, List.length_take, List.length_drop] at this
      have hz' : zs.length = c1 := by simpa using hz
      exact ⟨zs.take len1, by rw [List.length_take]; omega, intsAt_of_open hcell hwz len1, by rw [List.length_take]; omega, by rw [List.length_take]; omega⟩
  clear hA0 hval0
  refine (walk v0 D0 A1 c1 z1 W x0 x1 r1 m1 (handle_of_laid hL)).mono fun e W' ⟨he, bel⟩ => ?_
  subst he
  exact ⟨_, rfl, _, _, _, [], _, [], hW', trodAll_mk1 (shut_bool Tryd.underlying4 _), (trodAll_cons_mk (Below.trod laidOut (by kernel_rfl) (of_decide_eq_true (by kernel_rfl)) k0 bel lt0) (trodAll_cons_mk (Below.trod laidOut (by kernel_rfl) (of_decide_eq_true (by kernel_rfl)) k1 bel lt1) trodAll_mk0)), rfl, bel.frame _, fun h => by cases h⟩

theorem over : Rows.verdictSaysRow.holds Tryd.pinned (OpenSpec.ofChange Rows.verdictSaysSpec) :=
  OpenClaim.holds_of_wide 3 Tryd.f3 rfl rfl rfl rfl rfl rfl rfl ⟨rfl, rfl, rfl, rfl, rfl⟩ rfl rfl rfl rfl rfl (by kernel_rfl) Tryd.func3 (by kernel_rfl)
    (of_decide_eq_true (by kernel_rfl)) (by unfold Func.isWrapper; rw [if_neg (of_decide_eq_false (by kernel_rfl))]; exact ⟨rfl, rfl⟩)
    (fun os started H enc _ => lifted os started H enc)
theorem proved : Rows.VerdictSaysCardSaid :=
  Claim7.holds_tied_plain_at .later [] [.handle] true (true, "e34c0bb72ea66d068c9c5f9a0bdeb40975989f46962b80c4834b7e61b2ae7e94") true
    over (fun _ h => by cases h) (by kernel_rfl) (fun _ h => by cases h) verdictSays_row_tie rfl ⟨rfl, rfl⟩ (by kernel_rfl) rfl
    (fun f fn hf hfn => by
      obtain rfl : f = 3 := Option.some.inj ((show Tryd.prog.funcNamed "stileward/stilewardlaw4.VerdictSays" = some 3 by kernel_rfl).symm.trans hf) |>.symm
      obtain rfl : fn = Tryd.f3 := (Option.some.inj (Tryd.func3.symm.trans hfn)).symm
      exact ⟨by kernel_rfl, fun j t ht => by
        rw [Tryd.params3] at ht
        rcases j with _ | _ | j
        · obtain rfl : 25 = t := by simpa using ht
          exact (show Tryd.prog.wantsStandIn 25 = false by kernel_rfl)
        · obtain rfl : 26 = t := by simpa using ht
          exact (show Tryd.prog.wantsStandIn 26 = false by kernel_rfl)
        · simp at ht⟩)
    (by kernel_rfl)
#print axioms proved
end Go.Proofs.YtblkaegnnokedaaDoor.verdictSays
