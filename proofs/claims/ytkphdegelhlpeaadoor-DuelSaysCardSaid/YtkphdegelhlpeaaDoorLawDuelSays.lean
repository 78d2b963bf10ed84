/-
  The statement DuelSaysCardSaid of this seat, proved: for every input the law returns true and its arguments read behind the call as before. Conditions: none but the row's own (each argument within the reach; the listed variable as the program lays it, tied by the given tie).
-/
import Derived.Test.YtkphdegelhlpeaaDoorRows
import Derived.Test.YtkphdegelhlpeaaDoorCards
import Derived.Test.YtkphdegelhlpeaaDoorTie
import Derived.SevenTiedAt
import Derived.LaidLaws
import Derived.LaidHandle
import Derived.LaidMore
import Derived.Lay
import Derived.MakeChecks
import Derived.Stop.Joined
import Derived.JoinedOf
import Derived.RowKit
import Derived.RowKitTokens
import Derived.ChangeSame
import Derived.ChangeVars
import Derived.Test.YtkphdegelhlpeaaDoorWords
import Derived.WalkKit
import Derived.ProofKit
import Derived.OpenShut
import Derived.ShutString
import Derived.ChangeOld
import Derived.Below
import Derived.SizedLaws
import Derived.Lib.Hide
import Derived.Test.YtkphdegelhlpeaaDoorDuelS
import Derived.Test.YtkphdegelhlpeaaDoorRefMv
import Derived.Test.YtkphdegelhlpeaaDoorSays
namespace Go.Proofs.YtkphdegelhlpeaaDoor.duelSays
open Go.ChangeShapes Go.WideShapes Go.ChangeAt Go.RowKit Go.IntWalk Go.Proofs.YtkphdegelhlpeaaDoor.Wd
open Go.ChangeMaps (open_string shut_string)
set_option linter.unusedVariables false

theorem own : ownKnob Tryd.prog.godebug = none := by kernel_rfl
theorem laidOut : laidOutB Tryd.prog = true := by kernel_rfl
theorem et : Tryd.prog.globalNamed "errors.errorType" = some 0 := by kernel_rfl
theorem rt : (Tryd.prog.cutTypes.find? (·.1 == "internal/reflectlite.rtype")).map (·.2) = some 63 := by kernel_rfl
theorem oneRow : ((List.range 106).filter fun t => Tryd.prog.rowNamed t [101, 114, 114, 111, 114]) = [30] := by kernel_rfl
theorem size : Tryd.prog.types.size = 106 := by kernel_rfl
/-- What the condition gives a walk: the variable's one cell. -/
theorem handle_of_laid {w : World} (h : laidMetH Tryd.prog [("errors.errorType", Rows.laid_errors_errorType)] w) : w.cell? ⟨0, 0, none⟩ = some (.iface 63 (.agg #[.pointer (some ⟨1, 30, none⟩)])) := by
  have h' : laidMet Tryd.prog [] w ∧ handlesMet Tryd.prog [("errors.errorType", Rows.laid_errors_errorType)] w := h
  obtain ⟨name, u, ty, e1, e2, e3, e4, e5⟩ := h'.2 _ (List.mem_singleton.2 rfl)
  have en : name = [101, 114, 114, 111, 114] := (Option.some.inj e1).symm
  subst en
  obtain rfl := Option.some.inj (rt.symm.trans e2)
  have hm : ty ∈ (List.range 106).filter fun t => Tryd.prog.rowNamed t [101, 114, 114, 111, 114] := List.mem_filter.2 ⟨List.mem_range.2 (by rw [← size]; exact e3), e4⟩
  rw [oneRow] at hm
  obtain rfl := List.mem_singleton.1 hm
  have hh : typeHandle Tryd.prog 30 = .pointer (some ⟨1, 30, none⟩) := by kernel_rfl
  rw [hh] at e5
  simpa using World.var?_cell et e5 0
/-- A world that meets the condition. -/
noncomputable def laidWorld (os : Os) : World :=
  let w0 := World.holding Tryd.prog os ⟨#[], #[], []⟩
  { w0 with heap := w0.heap.modify 0 fun
      | .cells _ t frozen => .cells #[.iface 63 (.agg #[.pointer (some ⟨1, 30, none⟩)])] t frozen
      | o => o }
theorem laidWorld_met (os : Os) (args : Array Value) : laidMetH Tryd.prog [("errors.errorType", Rows.laid_errors_errorType)] ((laidWorld os).forCall (fun _ _ => 0) ⟨#[], args, []⟩).memory :=
  laidMetH_of_parts (laidMet_nil _ _) (by kernel_rfl)
open Go.Proofs.YtkphdegelhlpeaaDoor.Wo Go.Proofs.YtkphdegelhlpeaaDoor.Er Go.Proofs.YtkphdegelhlpeaaDoor.Df Go.Proofs.YtkphdegelhlpeaaDoor.Rc Go.Proofs.YtkphdegelhlpeaaDoor.Du
theorem says_gives {w : World} (hg : w.cell? ⟨0, 0, none⟩ = some (.iface 63 (.agg #[.pointer (some ⟨1, 30, none⟩)]))) (e : Nat) {E : Value} {K : Int} (hE : errV e = E) (hK : (e : Int) = K) (W : World) (hb : Below w.heap.size w W) :
    Calls Tryd.prog 5 #[E, .int .i64 K] W fun r w' => r = .returned (.bool true) ∧ Below W.heap.size W w' := by
  subst hE
  subst hK
  exact says e hg W hb
theorem rranks_gives {v : Value} {a : Ar} {w : World} (h : ArAt w w.heap.size v a) (gd : Du.Good a) :
    Calls Tryd.prog 7 #[v] w fun e w' => ∃ g, e = .returned (rw_ g a.next.length) ∧ Hid (IntsAt w' w'.heap.size (some ⟨g, 0, none⟩) (fT a.next.length (rank a))) ∧ Below w.heap.size w w' :=
  (rranks_any v a w h gd).mono fun e w' he => by
    obtain ⟨g, h1, ho⟩ := he.out
    exact ⟨g, h1, own_is ho (List.mem_append_right _ List.mem_cons_self) (rank_small a _ gd.n40 _ (Nat.le_refl _)), ho.below⟩
theorem rmoves_gives {v : Value} {a : Ar} {w : World} (h : ArAt w w.heap.size v a) (gd : Du.Good a) :
    Calls Tryd.prog 8 #[v] w fun e w' => ∃ A c, e = .returned (.slice A a.next.length c) ∧ Hid (IntsAt w' w'.heap.size A (fT a.next.length (moveA a))) ∧ Below w.heap.size w w' :=
  (rmoves_any v a w h gd).mono fun e w' he => by
    obtain ⟨wv, h1, ho⟩ := he.out
    obtain ⟨A, c, hv, _, _, hi⟩ := own_ints_at ho (List.mem_append_right _ List.mem_cons_self) (fun x hx => by
      unfold fT at hx
      obtain ⟨t, ht, rfl⟩ := List.mem_map.1 hx
      have := moveA_ge gd (List.mem_range.1 ht)
      have := gd.n40
      exact ⟨by omega, by omega⟩)
    rw [fT_length] at hv
    exact ⟨A, c, by rw [h1, hv], hi, ho.below⟩

set_option maxRecDepth 100000 in
set_option maxHeartbeats 4000000 in
theorem walk (v0 : Value) (g0 : Du.Ar) (w : World) (h0 : Du.ArAt w w.heap.size v0 g0) (hg : w.cell? ⟨0, 0, none⟩ = some (.iface 63 (.agg #[.pointer (some ⟨1, 30, none⟩)]))) :
    Calls Tryd.prog 3 #[v0] w fun e w' => e = .returned (.bool true) ∧ Below w.heap.size w w' := by
  by_cases g1 : achk g0 = 0
  · have gd := achk_iff.1 g1
    obtain ⟨ao, co, aa, c, af, cf, n, u, rfl, hu, hb0, hn1, hn4, hA⟩ := arG_new w h0 gd
    have B := Lib.hid hb0
    have W0 := Lib.hid hu
    have VA := Lib.hid hA
    have HRk := fun W (h : ArG W w.heap.size ao co aa c af cf g0 n) => ranks_gives h.at_ gd
    have HMv := fun W (h : ArG W w.heap.size ao co aa c af cf g0 n) => moves_gives h.at_ gd
    have hlen := hA.len
    rw [hlen] at HRk HMv
    have HRk := Lib.hid HRk
    have HMv := Lib.hid HMv
    have HG := Lib.hid gd
    have HLen := Lib.hid hlen
    clear hA hb0 hu h0 hlen g1 gd
    have gd := HG.out
    have HRA := fun W (h : ArG W w.heap.size ao co aa c af cf g0 n) => rarena_any _ g0 W h.at_
    rw [achk_iff.2 gd] at HRA
    have HRA := Lib.hid (fun W (h : ArG W w.heap.size ao co aa c af cf g0 n) => (HRA W h).mono fun e w' ⟨h1, h2⟩ => And.intro h1.out h2)
    have HCk := fun W (h : ArG W w.heap.size ao co aa c af cf g0 n) => acheck_any _ g0 W h.at_
    rw [achk_iff.2 gd] at HCk
    have HCk := Lib.hid (fun W (h : ArG W w.heap.size ao co aa c af cf g0 n) => (HCk W h).mono fun e w' ⟨h1, h2⟩ => And.intro h1.out h2)
    have HRR := fun W (h : ArG W w.heap.size ao co aa c af cf g0 n) => rranks_gives h.at_ gd
    have HRM := fun W (h : ArG W w.heap.size ao co aa c af cf g0 n) => rmoves_gives h.at_ gd
    have hlen := HLen.out
    rw [hlen] at HRR HRM
    have HRR := Lib.hid HRR
    have HRM := Lib.hid HRM
    have HE := Lib.hid (fun W (hb : Below w.heap.size w W) => says_gives hg 0 (E := .nilIface) (K := 0) rfl rfl W hb)
    have HI := Lib.hid (fun W (A B : Option Addr) (ca cb : Nat) (f : Nat → Int) (h1 : IntsAt W W.heap.size A (fT n f)) (h2 : IntsAt W W.heap.size B (fT n f)) => dints_same (ca := ca) (cb := cb) h1 h2 (by rw [fT_length]; omega))
    simp only [fT_length] at HI
    clear hlen gd hg
    go_enter Tryd.func3, Tryd.ntmps3
    have c0 := VA.out.box.c0
    have c1 := VA.out.box.c1
    have c2 := VA.out.box.c2
    go_wp2_with fail
    rw [← W0.out]
    clear W0
    refine (HRA.out _ VA.out).mono ?_
    rintro e u2 ⟨rfl, hb⟩
    have VA := Lib.hid (VA.out.on hb)
    have B := Lib.hid (B.out.trans (hb.mono B.out.size))
    clear hb c0 c1 c2
    have c0 := VA.out.box.c0
    have c1 := VA.out.box.c1
    have c2 := VA.out.box.c2
    go_wp2_with fail
    refine (HCk.out _ VA.out).mono ?_
    rintro e u2 ⟨rfl, hb⟩
    have VA := Lib.hid (VA.out.on hb)
    have B := Lib.hid (B.out.trans (hb.mono B.out.size))
    clear hb c0 c1 c2
    go_wp2_with fail
    refine (HE.out _ B.out).mono ?_
    rintro e u2 ⟨rfl, hb⟩
    have VA := Lib.hid (VA.out.on hb)
    have B := Lib.hid (B.out.trans (hb.mono B.out.size))
    clear hb
    have c0 := VA.out.box.c0
    have c1 := VA.out.box.c1
    have c2 := VA.out.box.c2
    go_wp2_with fail
    refine (HRR.out _ VA.out).mono ?_
    rintro e u2 ⟨gx, rfl, hi, hb⟩
    have X := Lib.hid hi.out
    have VA := Lib.hid (VA.out.on hb)
    have B := Lib.hid (B.out.trans (hb.mono B.out.size))
    clear hb c0 c1 c2 hi
    have c0 := VA.out.box.c0
    have c1 := VA.out.box.c1
    have c2 := VA.out.box.c2
    go_wp2_with fail
    refine (HRM.out _ VA.out).mono ?_
    rintro e u2 ⟨AY, cY, rfl, hi, hb⟩
    have Y := Lib.hid hi.out
    have X := Lib.hid (X.out.on hb)
    have VA := Lib.hid (VA.out.on hb)
    have B := Lib.hid (B.out.trans (hb.mono B.out.size))
    clear hb c0 c1 c2 hi
    have c0 := VA.out.box.c0
    have c1 := VA.out.box.c1
    have c2 := VA.out.box.c2
    go_wp2_with fail
    refine (HRk.out _ VA.out).mono ?_
    rintro e u2 ⟨gl, rfl, hi, hb⟩
    have L := Lib.hid hi.out
    have X := Lib.hid (X.out.on hb)
    have Y := Lib.hid (Y.out.on hb)
    have VA := Lib.hid (VA.out.on hb)
    have B := Lib.hid (B.out.trans (hb.mono B.out.size))
    clear hb c0 c1 c2 hi
    go_wp2_with fail
    refine (HE.out _ B.out).mono ?_
    rintro e u2 ⟨rfl, hb⟩
    have X := Lib.hid (X.out.on hb)
    have Y := Lib.hid (Y.out.on hb)
    have L := Lib.hid (L.out.on hb)
    have VA := Lib.hid (VA.out.on hb)
    have B := Lib.hid (B.out.trans (hb.mono B.out.size))
    clear hb
    go_wp2_with fail
    refine (HI.out _ _ _ _ _ _ L.out X.out).mono ?_
    rintro e u2 ⟨rfl, hb⟩
    have X := Lib.hid (X.out.on hb)
    have Y := Lib.hid (Y.out.on hb)
    have L := Lib.hid (L.out.on hb)
    have VA := Lib.hid (VA.out.on hb)
    have B := Lib.hid (B.out.trans (hb.mono B.out.size))
    clear hb
    have c0 := VA.out.box.c0
    have c1 := VA.out.box.c1
    have c2 := VA.out.box.c2
    go_wp2_with fail
    refine (HMv.out _ VA.out).mono ?_
    rintro e u2 ⟨gm, rfl, hi, hb⟩
    have M := Lib.hid hi.out
    have X := Lib.hid (X.out.on hb)
    have Y := Lib.hid (Y.out.on hb)
    have L := Lib.hid (L.out.on hb)
    have VA := Lib.hid (VA.out.on hb)
    have B := Lib.hid (B.out.trans (hb.mono B.out.size))
    clear hb c0 c1 c2 hi
    go_wp2_with fail
    refine (HE.out _ B.out).mono ?_
    rintro e u2 ⟨rfl, hb⟩
    have X := Lib.hid (X.out.on hb)
    have Y := Lib.hid (Y.out.on hb)
    have L := Lib.hid (L.out.on hb)
    have M := Lib.hid (M.out.on hb)
    have VA := Lib.hid (VA.out.on hb)
    have B := Lib.hid (B.out.trans (hb.mono B.out.size))
    clear hb
    go_wp2_with fail
    refine (HI.out _ _ _ _ _ _ M.out Y.out).mono ?_
    rintro e u2 ⟨rfl, hb⟩
    have X := Lib.hid (X.out.on hb)
    have Y := Lib.hid (Y.out.on hb)
    have L := Lib.hid (L.out.on hb)
    have M := Lib.hid (M.out.on hb)
    have VA := Lib.hid (VA.out.on hb)
    have B := Lib.hid (B.out.trans (hb.mono B.out.size))
    clear hb
    go_wp2
    go_ret
    exact ⟨rfl, B.out⟩
  · obtain ⟨x, hx⟩ := errA_bad g1
    obtain ⟨O, co, A, c, F, cf, rfl, h⟩ := h0
    obtain ⟨u, hu, hb0, hX, ha⟩ := box_ar w h
    have B := Lib.hid hb0
    have W0 := Lib.hid hu
    have VX := Lib.hid hX
    have VH := Lib.hid (show ArAt u u.heap.size (.agg #[.slice O g0.own.length co, .slice A g0.next.length c, .slice F g0.goal.length cf]) g0 from ⟨O, co, A, c, F, cf, rfl, ha⟩)
    have HRk := Lib.hid (fun W v (h : ArAt W W.heap.size v g0) => ranks_bad v g0 W h hx)
    have HMv := Lib.hid (fun W v (h : ArAt W W.heap.size v g0) => moves_bad v g0 W h hx)
    have HRA := Lib.hid (fun W v (h : ArAt W W.heap.size v g0) => (rarena_any v g0 W h).mono fun e w' ⟨h1, h2⟩ => And.intro h1.out h2)
    have HCk := fun W v (h : ArAt W W.heap.size v g0) => (acheck_any v g0 W h).mono fun e w' ⟨h1, h2⟩ => And.intro h1.out h2
    rw [hx] at HCk
    have HCk := Lib.hid HCk
    have HE := Lib.hid (fun W (hb : Below w.heap.size w W) => says_gives hg (achk g0) (E := errI x) (K := ((achk g0 : Nat) : Int)) hx rfl W hb)
    have HI := Lib.hid (fun W => dints_same (A := none) (B := none) (ca := 0) (cb := 0) (l := []) (W := W) (IntsAt.nil _ _ _) (IntsAt.nil _ _ _) (by decide))
    have hk0 : (((achk g0 : Nat) : Int) == 0) = false := int_ne (by omega)
    clear hX hu hb0 ha h hx hg g1
    generalize ((achk g0 : Nat) : Int) = K at *
    generalize g0.next.length = n at *
    generalize g0.own.length = no at *
    generalize g0.goal.length = ng at *
    go_enter Tryd.func3, Tryd.ntmps3
    have c0 := VX.out.c0
    have c1 := VX.out.c1
    have c2 := VX.out.c2
    go_wp2_with fail
    rw [← W0.out]
    clear W0
    refine (HRA.out _ _ VH.out).mono ?_
    rintro e u2 ⟨rfl, hb⟩
    have VH := Lib.hid (VH.out.on hb)
    have VX := Lib.hid (VX.out.on hb)
    have B := Lib.hid (B.out.trans (hb.mono B.out.size))
    clear hb c0 c1 c2
    have c0 := VX.out.c0
    have c1 := VX.out.c1
    have c2 := VX.out.c2
    go_wp2_with fail
    refine (HCk.out _ _ VH.out).mono ?_
    rintro e u2 ⟨rfl, hb⟩
    have VH := Lib.hid (VH.out.on hb)
    have VX := Lib.hid (VX.out.on hb)
    have B := Lib.hid (B.out.trans (hb.mono B.out.size))
    clear hb c0 c1 c2
    go_wp2_with fail
    refine (HE.out _ B.out).mono ?_
    rintro e u2 ⟨rfl, hb⟩
    have VH := Lib.hid (VH.out.on hb)
    have VX := Lib.hid (VX.out.on hb)
    have B := Lib.hid (B.out.trans (hb.mono B.out.size))
    clear hb
    have c0 := VX.out.c0
    have c1 := VX.out.c1
    have c2 := VX.out.c2
    go_wp2_with fail
    refine (HRk.out _ _ VH.out).mono ?_
    rintro e u2 ⟨rfl, hb⟩
    have VH := Lib.hid (VH.out.on hb)
    have VX := Lib.hid (VX.out.on hb)
    have B := Lib.hid (B.out.trans (hb.mono B.out.size))
    clear hb c0 c1 c2
    go_wp2_with fail
    refine (HE.out _ B.out).mono ?_
    rintro e u2 ⟨rfl, hb⟩
    have VH := Lib.hid (VH.out.on hb)
    have VX := Lib.hid (VX.out.on hb)
    have B := Lib.hid (B.out.trans (hb.mono B.out.size))
    clear hb
    go_wp2_with fail
    refine (HI.out _).mono ?_
    rintro e u2 ⟨rfl, hb⟩
    have VH := Lib.hid (VH.out.on hb)
    have VX := Lib.hid (VX.out.on hb)
    have B := Lib.hid (B.out.trans (hb.mono B.out.size))
    clear hb
    have c0 := VX.out.c0
    have c1 := VX.out.c1
    have c2 := VX.out.c2
    go_wp2_with fail
    refine (HMv.out _ _ VH.out).mono ?_
    rintro e u2 ⟨rfl, hb⟩
    have VH := Lib.hid (VH.out.on hb)
    have VX := Lib.hid (VX.out.on hb)
    have B := Lib.hid (B.out.trans (hb.mono B.out.size))
    clear hb c0 c1 c2
    go_wp2_with fail
    refine (HE.out _ B.out).mono ?_
    rintro e u2 ⟨rfl, hb⟩
    have VH := Lib.hid (VH.out.on hb)
    have VX := Lib.hid (VX.out.on hb)
    have B := Lib.hid (B.out.trans (hb.mono B.out.size))
    clear hb
    go_wp2_with fail
    refine (HI.out _).mono ?_
    rintro e u2 ⟨rfl, hb⟩
    have VH := Lib.hid (VH.out.on hb)
    have VX := Lib.hid (VX.out.on hb)
    have B := Lib.hid (B.out.trans (hb.mono B.out.size))
    clear hb
    go_wp2
    go_ret
    exact ⟨rfl, B.out⟩


set_option maxRecDepth 100000 in
theorem lifted (os : Os) (started : os.Started) (H : Type) (enc : TypeId × Value → H) :
    ReturnsInHanded {} Tryd.checked os 3 .any (fun w args => (Rows.duelSaysSpec.pre enc Tryd.prog Tryd.f3 Rows.duelSaysRow.domain false w args ∧ laidMetH Tryd.prog [("errors.errorType", Rows.laid_errors_errorType)] w) ∧ sizedMet enc Tryd.prog Tryd.f3 (OpenSpec.ofChange Rows.duelSaysSpec) false w args) (Rows.duelSaysSpec.post enc Tryd.prog Tryd.f3 false true false false) := by
  refine returnsInHanded_of_change_and (C := Tryd.checked) (X := fun w _ => laidMetH Tryd.prog [("errors.errorType", Rows.laid_errors_errorType)] w) (fun _ _ _ hh h => h.of_heap hh) own started (by kernel_rfl) Tryd.func3
    (ChangeSpec.witness_at (enc := enc) (C := Tryd.checked) (os := os) (X := fun w _ => laidMetH Tryd.prog [("errors.errorType", Rows.laid_errors_errorType)] w) false (laidWorld os) #[.agg #[.slice none 0 0, .slice none 0 0, .slice none 0 0]] 8 rfl (by kernel_rfl) (by kernel_rfl) (by kernel_rfl) (by kernel_rfl) (by kernel_rfl) (laidWorld_met os _)) ?_
  intro W base args ds gs before hval0 hW hcnd hsz0 hL _
  have hval : ∀ (j : Nat) t v, Tryd.f3.params[j]? = some t → args[j]? = some v → Value.okWide Tryd.prog W .any base t v := hval0
  have hsz : (DataW.weightsEach Tryd.prog (Tryd.f3.params.toList ++ Rows.duelSaysSpec.plain.varTypes Tryd.prog) (ds ++ gs)).all (· ≤ reachBytes) = true := hsz0
  have hW' := hW
  obtain ⟨p, q, hA0, hV0, rfl, hfz, hnd⟩ := hW
  have hV : DataW.TrodVars enc Tryd.prog W (fun _ => true) [] gs q := hV0
  have hA : DataW.TrodAll enc Tryd.prog W 0 (fun _ => true) true Tryd.f3.params.toList args.toList ds p := hA0
  rw [Tryd.params3] at hA hval hsz
  obtain ⟨v0, vs0, d0, ds0, p0, q0, hargs, rfl, rfl, h0, rr0⟩ := trodAll_cons hA
  obtain ⟨rfl, rfl, rfl⟩ := trodAll_nil rr0
  obtain rfl : args = #[v0] := by cases args; simp_all
  obtain ⟨rfl, rfl⟩ := trodVars_none hV
  have k0 := h0
  have lt0 : ∀ x ∈ p0, x.block < W.heap.size := by obtain ⟨m, hm⟩ := k0; exact DataW.trod_lt m _ _ _ hm
  obtain ⟨D0, x0⟩ : ∃ g : Du.Ar, Du.ArAt W W.heap.size v0 g := Du.ar_open (hval 0 26 v0 rfl rfl) h0
  clear hA0 hval0
  refine (walk v0 D0 W x0 (handle_of_laid hL)).mono fun e W' ⟨he, bel⟩ => ?_
  subst he
  exact ⟨_, rfl, _, _, _, [], _, [], hW', trodAll_mk1 (shut_bool Tryd.underlying4 _), (trodAll_cons_mk (Below.trod laidOut (by kernel_rfl) (of_decide_eq_true (by kernel_rfl)) k0 bel lt0) trodAll_mk0), rfl, bel.frame _, fun h => by cases h⟩

theorem over : Rows.duelSaysRow.holds Tryd.pinned (OpenSpec.ofChange Rows.duelSaysSpec) :=
  OpenClaim.holds_of_wide 3 Tryd.f3 rfl rfl rfl rfl rfl rfl rfl ⟨rfl, rfl, rfl, rfl, rfl⟩ rfl rfl rfl rfl rfl (by kernel_rfl) Tryd.func3 (by kernel_rfl)
    (of_decide_eq_true (by kernel_rfl)) (by unfold Func.isWrapper; rw [if_neg (of_decide_eq_false (by kernel_rfl))]; exact ⟨rfl, rfl⟩)
    (fun os started H enc _ => lifted os started H enc)
theorem proved : Rows.DuelSaysCardSaid :=
  Claim7.holds_tied_plain_at .later [] [.handle] true (true, "0113bc76532e5c0421e2b4dec1b6547880160aaf8893b0cb98a1c674fd2ba1e7") true
    over (fun _ h => by cases h) (by kernel_rfl) (fun _ h => by cases h) duelSays_row_tie rfl ⟨rfl, rfl⟩ (by kernel_rfl) rfl
    (fun f fn hf hfn => by
      obtain rfl : f = 3 := Option.some.inj ((show Tryd.prog.funcNamed "stileward/stilewardlaw5.DuelSays" = some 3 by kernel_rfl).symm.trans hf) |>.symm
      obtain rfl : fn = Tryd.f3 := (Option.some.inj (Tryd.func3.symm.trans hfn)).symm
      exact ⟨by kernel_rfl, fun j t ht => by
        rw [Tryd.params3] at ht
        rcases j with _ | j
        · obtain rfl : 26 = t := by simpa using ht
          exact (show Tryd.prog.wantsStandIn 26 = false by kernel_rfl)
        · simp at ht⟩)
    (by kernel_rfl)
#print axioms proved
end Go.Proofs.YtkphdegelhlpeaaDoor.duelSays
