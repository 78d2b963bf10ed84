/-
  The statement ReachFirstCardSaid of this seat, proved: for every input the law returns true and its arguments read behind the call as before. Conditions: none but the row's own (each argument within the reach; the listed variable as the program lays it, tied by the given tie).
-/
import Derived.Test.YtinehjfanabegaaDoorRows
import Derived.Test.YtinehjfanabegaaDoorCards
import Derived.Test.YtinehjfanabegaaDoorTie
import Derived.SevenTiedAt
import Derived.LaidLaws
import Derived.LaidHandle
import Derived.Stop.Joined
import Derived.JoinedOf
import Derived.RowKit
import Derived.RowKitTokens
import Derived.ChangeSame
import Derived.ChangeVars
import Derived.Test.YtinehjfanabegaaDoorWords
import Derived.WalkKit
import Derived.ProofKit
import Derived.OpenShut
import Derived.ShutString
import Derived.ChangeOld
import Derived.Below
import Derived.SizedLaws
import Derived.Lib.Hide
import Derived.Test.YtinehjfanabegaaDoorRefFirst
import Derived.Test.YtinehjfanabegaaDoorLeast
import Derived.Test.YtinehjfanabegaaDoorRefDfa
import Derived.Test.YtinehjfanabegaaDoorSays
import Derived.Test.YtinehjfanabegaaDoorWordL
namespace Go.Proofs.YtinehjfanabegaaDoor.reachFirst
open Go.ChangeShapes Go.WideShapes Go.ChangeAt Go.RowKit Go.IntWalk Go.Proofs.YtinehjfanabegaaDoor.Wd
open Go.ChangeMaps (open_string shut_string)
set_option linter.unusedVariables false

theorem own : ownKnob Tryd.prog.godebug = none := by kernel_rfl
theorem laidOut : laidOutB Tryd.prog = true := by kernel_rfl
theorem et : Tryd.prog.globalNamed "errors.errorType" = some 0 := by kernel_rfl
theorem rt : (Tryd.prog.cutTypes.find? (·.1 == "internal/reflectlite.rtype")).map (·.2) = some 177 := by kernel_rfl
theorem oneRow : ((List.range 228).filter fun t => Tryd.prog.rowNamed t [101, 114, 114, 111, 114]) = [30] := by kernel_rfl
theorem size : Tryd.prog.types.size = 228 := by kernel_rfl
/-- What the condition gives a walk: the variable's one cell. -/
theorem handle_of_laid {w : World} (h : laidMetH Tryd.prog [("errors.errorType", Rows.laid_errors_errorType)] w) : w.cell? ⟨0, 0, none⟩ = some (.iface 177 (.agg #[.pointer (some ⟨1, 30, none⟩)])) := by
  have h' : laidMet Tryd.prog [] w ∧ handlesMet Tryd.prog [("errors.errorType", Rows.laid_errors_errorType)] w := h
  obtain ⟨name, u, ty, e1, e2, e3, e4, e5⟩ := h'.2 _ (List.mem_singleton.2 rfl)
  have en : name = [101, 114, 114, 111, 114] := (Option.some.inj e1).symm
  subst en
  obtain rfl := Option.some.inj (rt.symm.trans e2)
  have hm : ty ∈ (List.range 228).filter fun t => Tryd.prog.rowNamed t [101, 114, 114, 111, 114] := List.mem_filter.2 ⟨List.mem_range.2 (by rw [← size]; exact e3), e4⟩
  rw [oneRow] at hm
  obtain rfl := List.mem_singleton.1 hm
  have hh : typeHandle Tryd.prog 30 = .pointer (some ⟨1, 30, none⟩) := by kernel_rfl
  rw [hh] at e5
  simpa using World.var?_cell et e5 0
/-- A world that meets the condition. -/
noncomputable def laidWorld (os : Os) : World :=
  let w0 := World.holding Tryd.prog os ⟨#[], #[], []⟩
  { w0 with heap := w0.heap.modify 0 fun
      | .cells _ t frozen => .cells #[.iface 177 (.agg #[.pointer (some ⟨1, 30, none⟩)])] t frozen
      | o => o }
theorem laidWorld_met (os : Os) (args : Array Value) : laidMetH Tryd.prog [("errors.errorType", Rows.laid_errors_errorType)] ((laidWorld os).forCall (fun _ _ => 0) ⟨#[], args, []⟩).memory :=
  laidMetH_of_parts (laidMet_nil _ _) (by kernel_rfl)
open Go.Proofs.YtinehjfanabegaaDoor.Wo Go.Proofs.YtinehjfanabegaaDoor.Er Go.Proofs.YtinehjfanabegaaDoor.Df Go.Proofs.YtinehjfanabegaaDoor.Rc
theorem rfirst_some {v : Value} {d : Aut} {s : Nat} {w : World} (h : DfaAt w w.heap.size v d) (hg : Df.Good d) (hs : s < d.next.length) {u : List Int} (hf : firstW d s = some u) (hsm : ∀ x ∈ u, Small x) :
    Calls Tryd.prog 36 #[v, .int .i64 s] w fun e w' => ∃ A c, e = .returned (.tuple #[.slice A u.length c, .bool true]) ∧ Hid (IntsAt w' w'.heap.size A u) ∧ Below w.heap.size w w' := by
  refine (rfirst_any v d s w h hg hs).mono fun e w' he => ?_
  rcases he.out with ⟨u', wv, h1, h2, h3⟩ | ⟨h1, _⟩
  · obtain rfl := Option.some.inj (hf.symm.trans h1)
    obtain ⟨A, c, rfl, _, _, hA⟩ := own_ints_at h3 (List.mem_append_right _ List.mem_cons_self) hsm
    exact ⟨A, c, h2, hA, h3.below⟩
  · rw [hf] at h1; cases h1
theorem rfirst_none {v : Value} {d : Aut} {s : Nat} {w : World} (h : DfaAt w w.heap.size v d) (hg : Df.Good d) (hs : s < d.next.length) (hf : firstW d s = none) :
    Calls Tryd.prog 36 #[v, .int .i64 s] w fun e w' => e = .returned (.tuple #[.slice none 0 0, .bool false]) ∧ Below w.heap.size w w' := by
  refine (rfirst_any v d s w h hg hs).mono fun e w' he => ?_
  rcases he.out with ⟨u', wv, h1, h2, h3⟩ | ⟨_, h2, h3⟩
  · rw [hf] at h1; cases h1
  · exact ⟨h2, h3⟩
/-- Two nil or empty lists. -/
theorem ints_none (W : World) (A : Option Addr) (c : Nat) : Calls Tryd.prog 34 #[.slice A 0 c, .slice none 0 0] W fun e w' => e = .returned (.bool true) ∧ Below W.heap.size W w' :=
  (ints_yes (n := 0) (v := []) (z := []) rfl (IntsAt.nil _ _ _) (IntsAt.nil _ _ _) (by simp)).mono fun e w' ⟨h1, m, h2⟩ => ⟨h1, by rw [h2]; exact below_drewN (Below.refl _ _) m⟩
theorem ints_two {W : World} {A B : Option Addr} {c d : Nat} {l : List Int} (hA : IntsAt W W.heap.size A l) (hB : IntsAt W W.heap.size B l) (hl : l.length ≤ 1000) : Calls Tryd.prog 34 #[.slice A l.length c, .slice B l.length d] W fun e w' => e = .returned (.bool true) ∧ Below W.heap.size W w' :=
  (ints_yes (n := 0) (v := l) (z := l) rfl hA hB (by omega)).mono fun e w' ⟨h1, m, h2⟩ => ⟨h1, by rw [h2]; exact below_drewN (Below.refl _ _) m⟩

set_option maxRecDepth 100000 in
set_option maxHeartbeats 4000000 in
theorem walk (v0 : Value) (d0 : Df.Aut) (w : World) (h0 : Df.DfaAt w w.heap.size v0 d0) (hg : w.cell? ⟨0, 0, none⟩ = some (.iface 177 (.agg #[.pointer (some ⟨1, 30, none⟩)]))) :
    Calls Tryd.prog 6 #[v0] w fun e w' => e = .returned (.bool true) ∧ Below w.heap.size w w' := by
  obtain ⟨L0, s0, A0, n0, c0, F0, m0, k0, rfl⟩ := h0.form
  obtain ⟨hL0, hs0, hN0, hM0⟩ := h0.eqs
  obtain ⟨u0, hu0, hb0, VA0⟩ := var_new w h0
  have VA := Lib.hid VA0
  have B := Lib.hid hb0
  have W0 := Lib.hid hu0
  have HD := Lib.hid (fun W v (h : DfaAt W W.heap.size v d0) => rdfa_any v d0 W h)
  have HE := Lib.hid (fun W h => says (firstOut d0).2 hg W h)
  clear hu0 hb0 VA0 hg h0
  rcases g1 : dchk d0 with _ | x
  · have Ga := dchk_iff.1 g1
    rw [g1] at HD
    obtain ⟨p, hp⟩ := Int.eq_ofNat_of_zero_le (show 0 ≤ s0 by have := Ga.st.1; omega)
    subst hp
    have hps : d0.s.toNat = p := by omega
    have hsl : p < d0.next.length := by have := Ga.s_lt; omega
    rcases hf : firstW d0 p with _ | u
    · have hf2 : firstW d0 d0.s.toNat = none := by rw [hps]; exact hf
      have HR := Lib.hid (fun W v (h : DfaAt W W.heap.size v d0) => rfirst_none h Ga hsl hf)
      have HF := Lib.hid (fun W v (h : DfaAt W W.heap.size v d0) => givesI_of (l := []) (E := errI 5) (out := firstOut d0) (first_any v d0 W h) (by rw [firstOut_none g1 hf2]; rfl) (by rw [firstOut_none g1 hf2]) (by intro x hx; simp at hx))
      rw [firstOut_none g1 hf2] at HE
      clear Ga g1 hL0 hs0 hN0 hM0 hf hf2 hps hsl
      have HI := Lib.hid (fun W A c => ints_none W A c)
      go_enter Tryd.func6, Tryd.ntmps6
      obtain ⟨p0, p1, p2, p3, p4⟩ := VA.out.box
      go_wp2_with fail
      rw [← W0.out]
      clear W0
      refine (HD.out _ _ VA.out.at_).mono ?_
      rintro e u1 ⟨he, hb⟩
      obtain rfl : e = .returned (.int .i64 0) := he.out
      clear he
      have VA := Lib.hid (VA.out.on hb)
      have B := Lib.hid (B.out.trans (hb.mono B.out.size))
      clear hb
      clear HD p0 p1 p2 p3 p4
      obtain ⟨p0, p1, p2, p3, p4⟩ := VA.out.box
      go_wp2_with fail
      refine (HR.out _ _ VA.out.at_).mono ?_
      rintro e u2 ⟨rfl, hb⟩
      have VA := Lib.hid (VA.out.on hb)
      have B := Lib.hid (B.out.trans (hb.mono B.out.size))
      clear hb
      clear HR p0 p1 p2 p3 p4
      obtain ⟨p0, p1, p2, p3, p4⟩ := VA.out.box
      go_wp2_with fail
      refine (HF.out _ _ VA.out.at_).mono ?_
      rintro e u3 ⟨AHU, cHU, rfl, hI, hb⟩
      have HU := Lib.hid hI.out
      have VA := Lib.hid (VA.out.on hb)
      have B := Lib.hid (B.out.trans (hb.mono B.out.size))
      clear hb hI HF p0 p1 p2 p3 p4
      clear HU
      go_wp2_with fail
      refine (HE.out _ B.out).mono ?_
      rintro e u4 ⟨rfl, hb⟩
      have VA := Lib.hid (VA.out.on hb)
      have B := Lib.hid (B.out.trans (hb.mono B.out.size))
      clear hb
      clear HE
      go_wp2_with fail
      refine (HI.out _ _ _).mono ?_
      rintro e u5 ⟨rfl, hb⟩
      have VA := Lib.hid (VA.out.on hb)
      have B := Lib.hid (B.out.trans (hb.mono B.out.size))
      clear hb
      clear HI
      go_wp2
      go_ret
      exact ⟨rfl, B.out⟩
    · have hf2 : firstW d0 d0.s.toNat = some u := by rw [hps]; exact hf
      obtain ⟨hu1, hu2, _, _⟩ := firstW_some Ga hsl hf
      have hsm := word_small Ga.l6 hu1
      have hul : u.length ≤ 1000 := by have := Ga.n40; omega
      have HR := Lib.hid (fun W v (h : DfaAt W W.heap.size v d0) => rfirst_some h Ga hsl hf hsm)
      have HF := Lib.hid (fun W v (h : DfaAt W W.heap.size v d0) => givesI_of (l := u) (E := .nilIface) (out := firstOut d0) (first_any v d0 W h) (by rw [firstOut_some g1 hf2]; rfl) (by rw [firstOut_some g1 hf2]) hsm)
      rw [firstOut_some g1 hf2] at HE
      clear Ga g1 hL0 hs0 hN0 hM0 hf hf2 hps hsl hu1 hu2 hsm
      have HI := Lib.hid (fun W A B c d (hA : IntsAt W W.heap.size A u) (hB : IntsAt W W.heap.size B u) => ints_two (c := c) (d := d) hA hB hul)
      go_enter Tryd.func6, Tryd.ntmps6
      obtain ⟨p0, p1, p2, p3, p4⟩ := VA.out.box
      go_wp2_with fail
      rw [← W0.out]
      clear W0
      refine (HD.out _ _ VA.out.at_).mono ?_
      rintro e u1 ⟨he, hb⟩
      obtain rfl : e = .returned (.int .i64 0) := he.out
      clear he
      have VA := Lib.hid (VA.out.on hb)
      have B := Lib.hid (B.out.trans (hb.mono B.out.size))
      clear hb
      clear HD p0 p1 p2 p3 p4
      obtain ⟨p0, p1, p2, p3, p4⟩ := VA.out.box
      go_wp2_with fail
      refine (HR.out _ _ VA.out.at_).mono ?_
      rintro e u2 ⟨AHU, cHU, rfl, hI, hb⟩
      have HU := Lib.hid hI.out
      have VA := Lib.hid (VA.out.on hb)
      have B := Lib.hid (B.out.trans (hb.mono B.out.size))
      clear hb hI HR p0 p1 p2 p3 p4
      obtain ⟨p0, p1, p2, p3, p4⟩ := VA.out.box
      go_wp2_with fail
      refine (HF.out _ _ VA.out.at_).mono ?_
      rintro e u3 ⟨AHU2, cHU2, rfl, hI, hb⟩
      have HU2 := Lib.hid hI.out
      have VA := Lib.hid (VA.out.on hb)
      have HU := Lib.hid (HU.out.on hb)
      have B := Lib.hid (B.out.trans (hb.mono B.out.size))
      clear hb hI HF p0 p1 p2 p3 p4
      go_wp2_with fail
      refine (HE.out _ B.out).mono ?_
      rintro e u4 ⟨rfl, hb⟩
      have VA := Lib.hid (VA.out.on hb)
      have HU := Lib.hid (HU.out.on hb)
      have HU2 := Lib.hid (HU2.out.on hb)
      have B := Lib.hid (B.out.trans (hb.mono B.out.size))
      clear hb
      clear HE
      go_wp2_with fail
      refine (HI.out _ _ _ _ _ HU2.out HU.out).mono ?_
      rintro e u5 ⟨rfl, hb⟩
      have VA := Lib.hid (VA.out.on hb)
      have HU := Lib.hid (HU.out.on hb)
      have HU2 := Lib.hid (HU2.out.on hb)
      have B := Lib.hid (B.out.trans (hb.mono B.out.size))
      clear hb
      clear HI
      go_wp2
      go_ret
      exact ⟨rfl, B.out⟩
  · rw [g1] at HD
    have HF := Lib.hid (fun W v (h : DfaAt W W.heap.size v d0) => givesI_of (l := []) (out := firstOut d0) (first_any v d0 W h) (by rw [firstOut_bad (by omega), g1]) (by rw [firstOut_bad (by omega)]) (by intro x hx; simp at hx))
    rw [firstOut_bad (by omega), g1, errV_succ] at HE
    rw [errV_succ] at HF
    have hne := int_ne (show ((x + 1 : Nat) : Int) ≠ 0 by omega)
    have HI := Lib.hid (fun W A c => ints_none W A c)
    clear g1 hL0 hs0 hN0 hM0
    generalize ((x + 1 : Nat) : Int) = E at *
    go_enter Tryd.func6, Tryd.ntmps6
    obtain ⟨p0, p1, p2, p3, p4⟩ := VA.out.box
    go_wp2_with fail
    rw [← W0.out]
    clear W0
    refine (HD.out _ _ VA.out.at_).mono ?_
    rintro e u1 ⟨he, hb⟩
    obtain rfl : e = .returned (.int .i64 E) := he.out
    clear he
    have VA := Lib.hid (VA.out.on hb)
    have B := Lib.hid (B.out.trans (hb.mono B.out.size))
    clear hb
    clear HD p0 p1 p2 p3 p4
    obtain ⟨p0, p1, p2, p3, p4⟩ := VA.out.box
    go_wp2_with fail
    refine (HF.out _ _ VA.out.at_).mono ?_
    rintro e u2 ⟨AHU, cHU, rfl, hI, hb⟩
    have HU := Lib.hid hI.out
    have VA := Lib.hid (VA.out.on hb)
    have B := Lib.hid (B.out.trans (hb.mono B.out.size))
    clear hb hI HF p0 p1 p2 p3 p4
    clear HU
    go_wp2_with fail
    refine (HE.out _ B.out).mono ?_
    rintro e u3 ⟨rfl, hb⟩
    have VA := Lib.hid (VA.out.on hb)
    have B := Lib.hid (B.out.trans (hb.mono B.out.size))
    clear hb
    clear HE
    go_wp2_with fail
    refine (HI.out _ _ _).mono ?_
    rintro e u4 ⟨rfl, hb⟩
    have VA := Lib.hid (VA.out.on hb)
    have B := Lib.hid (B.out.trans (hb.mono B.out.size))
    clear hb
    clear HI
    go_wp2
    go_ret
    exact ⟨rfl, B.out⟩


set_option maxRecDepth 100000 in
theorem lifted (os : Os) (started : os.Started) (H : Type) (enc : TypeId × Value → H) :
    ReturnsInHanded {} Tryd.checked os 6 .any (fun w args => (Rows.reachFirstSpec.pre enc Tryd.prog Tryd.f6 Rows.reachFirstRow.domain false w args ∧ laidMetH Tryd.prog [("errors.errorType", Rows.laid_errors_errorType)] w) ∧ sizedMet enc Tryd.prog Tryd.f6 (OpenSpec.ofChange Rows.reachFirstSpec) false w args) (Rows.reachFirstSpec.post enc Tryd.prog Tryd.f6 false true false false) := by
  refine returnsInHanded_of_change_and (C := Tryd.checked) (X := fun w _ => laidMetH Tryd.prog [("errors.errorType", Rows.laid_errors_errorType)] w) (fun _ _ _ hh h => h.of_heap hh) own started (by kernel_rfl) Tryd.func6
    (ChangeSpec.witness_at (enc := enc) (C := Tryd.checked) (os := os) (X := fun w _ => laidMetH Tryd.prog [("errors.errorType", Rows.laid_errors_errorType)] w) false (laidWorld os) #[.agg #[.int .i64 0, .int .i64 0, .slice none 0 0, .slice none 0 0]] 8 rfl (by kernel_rfl) (by kernel_rfl) (by kernel_rfl) (by kernel_rfl) (by kernel_rfl) (laidWorld_met os _)) ?_
  intro W base args ds gs before hval0 hW hcnd hsz0 hL _
  have hval : ∀ (j : Nat) t v, Tryd.f6.params[j]? = some t → args[j]? = some v → Value.okWide Tryd.prog W .any base t v := hval0
  have hsz : (DataW.weightsEach Tryd.prog (Tryd.f6.params.toList ++ Rows.reachFirstSpec.plain.varTypes Tryd.prog) (ds ++ gs)).all (· ≤ reachBytes) = true := hsz0
  have hW' := hW
  obtain ⟨p, q, hA0, hV0, rfl, hfz, hnd⟩ := hW
  have hV : DataW.TrodVars enc Tryd.prog W (fun _ => true) [] gs q := hV0
  have hA : DataW.TrodAll enc Tryd.prog W 0 (fun _ => true) true Tryd.f6.params.toList args.toList ds p := hA0
  rw [Tryd.params6] at hA hval hsz
  obtain ⟨v0, vs0, d0, ds0, p0, q0, hargs, rfl, rfl, h0, rr0⟩ := trodAll_cons hA
  obtain ⟨rfl, rfl, rfl⟩ := trodAll_nil rr0
  obtain rfl : args = #[v0] := by cases args; simp_all
  obtain ⟨rfl, rfl⟩ := trodVars_none hV
  have k0 := h0
  have lt0 : ∀ x ∈ p0, x.block < W.heap.size := by obtain ⟨m, hm⟩ := k0; exact DataW.trod_lt m _ _ _ hm
  obtain ⟨D0, x0⟩ : ∃ d : Df.Aut, Df.DfaAt W W.heap.size v0 d := Df.dfa_open (hval 0 25 v0 rfl rfl) h0
  clear hA0 hval0
  refine (walk v0 D0 W x0 (handle_of_laid hL)).mono fun e W' ⟨he, bel⟩ => ?_
  subst he
  exact ⟨_, rfl, _, _, _, [], _, [], hW', trodAll_mk1 (shut_bool Tryd.underlying4 _), (trodAll_cons_mk (Below.trod laidOut (by kernel_rfl) (of_decide_eq_true (by kernel_rfl)) k0 bel lt0) trodAll_mk0), rfl, bel.frame _, fun h => by cases h⟩

theorem over : Rows.reachFirstRow.holds Tryd.pinned (OpenSpec.ofChange Rows.reachFirstSpec) :=
  OpenClaim.holds_of_wide 6 Tryd.f6 rfl rfl rfl rfl rfl rfl rfl ⟨rfl, rfl, rfl, rfl, rfl⟩ rfl rfl rfl rfl rfl (by kernel_rfl) Tryd.func6 (by kernel_rfl)
    (of_decide_eq_true (by kernel_rfl)) (by unfold Func.isWrapper; rw [if_neg (of_decide_eq_false (by kernel_rfl))]; exact ⟨rfl, rfl⟩)
    (fun os started H enc _ => lifted os started H enc)
theorem proved : Rows.ReachFirstCardSaid :=
  Claim7.holds_tied_plain_at .later [] [.handle] true (true, "79422bc317647e98da3515ddd54c616c62872d918dc64e134f53a2f36d3d9ecc") true
    over (fun _ h => by cases h) (by kernel_rfl) (fun _ h => by cases h) reachFirst_row_tie rfl ⟨rfl, rfl⟩ (by kernel_rfl) rfl
    (fun f fn hf hfn => by
      obtain rfl : f = 6 := Option.some.inj ((show Tryd.prog.funcNamed "stileward/stilewardlaw2.ReachFirst" = some 6 by kernel_rfl).symm.trans hf) |>.symm
      obtain rfl : fn = Tryd.f6 := (Option.some.inj (Tryd.func6.symm.trans hfn)).symm
      exact ⟨by kernel_rfl, fun j t ht => by
        rw [Tryd.params6] at ht
        rcases j with _ | j
        · obtain rfl : 25 = t := by simpa using ht
          exact (show Tryd.prog.wantsStandIn 25 = false by kernel_rfl)
        · simp at ht⟩)
    (by kernel_rfl)
#print axioms proved
end Go.Proofs.YtinehjfanabegaaDoor.reachFirst
