/-
  The statement WordSaysCardSaid of this seat, proved: for every input the law returns true and its arguments read behind the call as before. Conditions: none but the row's own (each argument within the reach; the listed variable as the program lays it, tied by the given tie).
-/
import Derived.Test.YtmcgdajembhocaaDoorRows
import Derived.Test.YtmcgdajembhocaaDoorCards
import Derived.Test.YtmcgdajembhocaaDoorTie
import Derived.SevenTiedAt
import Derived.LaidLaws
import Derived.LaidHandle
import Derived.Stop.Joined
import Derived.JoinedOf
import Derived.RowKit
import Derived.RowKitTokens
import Derived.ChangeSame
import Derived.ChangeVars
import Derived.Test.YtmcgdajembhocaaDoorWords
import Derived.WalkKit
import Derived.ProofKit
import Derived.OpenShut
import Derived.ShutString
import Derived.ChangeOld
import Derived.Below
import Derived.SizedLaws
import Derived.Lib.Hide
import Derived.Test.YtmcgdajembhocaaDoorRefWord
import Derived.Test.YtmcgdajembhocaaDoorWordL
import Derived.Test.YtmcgdajembhocaaDoorSays
namespace Go.Proofs.YtmcgdajembhocaaDoor.wordSays
open Go.ChangeShapes Go.WideShapes Go.ChangeAt Go.RowKit Go.IntWalk Go.Proofs.YtmcgdajembhocaaDoor.Wd
open Go.ChangeMaps (open_string shut_string)
set_option linter.unusedVariables false

theorem own : ownKnob Tryd.prog.godebug = none := by kernel_rfl
theorem laidOut : laidOutB Tryd.prog = true := by kernel_rfl
theorem et : Tryd.prog.globalNamed "errors.errorType" = some 0 := by kernel_rfl
theorem rt : (Tryd.prog.cutTypes.find? (·.1 == "internal/reflectlite.rtype")).map (·.2) = some 64 := by kernel_rfl
theorem oneRow : ((List.range 107).filter fun t => Tryd.prog.rowNamed t [101, 114, 114, 111, 114]) = [26] := by kernel_rfl
theorem size : Tryd.prog.types.size = 107 := by kernel_rfl
/-- What the condition gives a walk: the variable's one cell. -/
theorem handle_of_laid {w : World} (h : laidMetH Tryd.prog [("errors.errorType", Rows.laid_errors_errorType)] w) : w.cell? ⟨0, 0, none⟩ = some (.iface 64 (.agg #[.pointer (some ⟨1, 26, none⟩)])) := by
  have h' : laidMet Tryd.prog [] w ∧ handlesMet Tryd.prog [("errors.errorType", Rows.laid_errors_errorType)] w := h
  obtain ⟨name, u, ty, e1, e2, e3, e4, e5⟩ := h'.2 _ (List.mem_singleton.2 rfl)
  have en : name = [101, 114, 114, 111, 114] := (Option.some.inj e1).symm
  subst en
  obtain rfl := Option.some.inj (rt.symm.trans e2)
  have hm : ty ∈ (List.range 107).filter fun t => Tryd.prog.rowNamed t [101, 114, 114, 111, 114] := List.mem_filter.2 ⟨List.mem_range.2 (by rw [← size]; exact e3), e4⟩
  rw [oneRow] at hm
  obtain rfl := List.mem_singleton.1 hm
  have hh : typeHandle Tryd.prog 26 = .pointer (some ⟨1, 26, none⟩) := by kernel_rfl
  rw [hh] at e5
  simpa using World.var?_cell et e5 0
/-- A world that meets the condition. -/
noncomputable def laidWorld (os : Os) : World :=
  let w0 := World.holding Tryd.prog os ⟨#[], #[], []⟩
  { w0 with heap := w0.heap.modify 0 fun
      | .cells _ t frozen => .cells #[.iface 64 (.agg #[.pointer (some ⟨1, 26, none⟩)])] t frozen
      | o => o }
theorem laidWorld_met (os : Os) (args : Array Value) : laidMetH Tryd.prog [("errors.errorType", Rows.laid_errors_errorType)] ((laidWorld os).forCall (fun _ _ => 0) ⟨#[], args, []⟩).memory :=
  laidMetH_of_parts (laidMet_nil _ _) (by kernel_rfl)
open Go.Proofs.YtmcgdajembhocaaDoor.Wo Go.Proofs.YtmcgdajembhocaaDoor.Er

set_option maxRecDepth 100000 in
set_option maxHeartbeats 4000000 in
theorem walk (a0 : Int) (A1 : Option Addr) (c1 : Nat) (z1 : List Int) (a2 : Int) (w : World) (l0 : -9223372036854775808 ≤ a0) (h0 : a0 ≤ 9223372036854775807) (v1 : IntsAt w w.heap.size A1 z1) (r1 : z1.length ≤ 17592186043904) (l2 : -9223372036854775808 ≤ a2) (h2 : a2 ≤ 9223372036854775807) (hg : w.cell? ⟨0, 0, none⟩ = some (.iface 64 (.agg #[.pointer (some ⟨1, 26, none⟩)]))) :
    Calls Tryd.prog 3 #[.int .i64 a0, .slice A1 z1.length c1, .int .i64 a2] w fun e w' => e = .returned (.bool true) ∧ Below w.heap.size w w' := by
  have hL : Small a0 := ⟨l0, h0⟩
  have hS : Small a2 := ⟨l2, h2⟩
  have V1 := Lib.hid v1
  have HF : Hid (∀ W0, Below w.heap.size w W0 → IntsAt W0 W0.heap.size A1 z1) := fun W0 h => V1.out.on h
  have HE := Lib.hid (fun k W h => says k hg W h)
  have HW := Lib.hid (fun W (h : IntsAt W W.heap.size A1 z1) => refWord_any a0 A1 c1 z1 W hL h (by omega))
  have HC := Lib.hid (fun W (h : IntsAt W W.heap.size A1 z1) => check_any a0 A1 c1 z1 W hL h (by omega))
  have HM := Lib.hid (fun W (h : IntsAt W W.heap.size A1 z1) => mirror_any a0 A1 c1 z1 W hL h (by omega))
  have HO := Lib.hid (fun W (h : IntsAt W W.heap.size A1 z1) => only_any a0 A1 c1 z1 a2 W hL hS h (by omega))
  clear hg v1
  rcases hc : chk a0 z1 with _ | e0
  · have hf := chk_iff.1 hc
    have hfs := fine_small hf
    have hrs := fine_small (reverse_fine hf)
    have hos := fine_small (only_fine hf a2)
    obtain ⟨⟨g1, g2⟩, k1, hle⟩ := hf
    have hm : mirOut a0 z1 = (z1.reverse, 0) := by unfold mirOut; rw [if_pos hc]
    rw [hm] at HM
    rw [hc] at HW HC
    have HSet := Lib.hid (fun W => refSet_any a0 a2 W g1 g2)
    have HRM := Lib.hid (fun W (h : IntsAt W W.heap.size A1 z1) => refMirror_any A1 c1 z1 W h (by omega))
    have HI := Lib.hid (fun W A B c d (l : List Int) (hl : l.length ≤ 80) (h : IntsAt W W.heap.size A l) (h' : IntsAt W W.heap.size B l) => ints_yes (n := 0) (c := c) (d := d) rfl h h' (by omega))
    have hrl : z1.reverse.length ≤ 80 := by rw [List.length_reverse]; exact k1
    have HRS := Lib.hid hrs
    clear hrs
    by_cases hs : setOk a0 a2
    · have ho := onlyOut_ok (chk_iff.1 hc) hs
      rw [ho] at HO
      have hs2 := hs.2
      obtain ⟨P, _, p1, p2, p3⟩ := shl_lim g1 g2
      rw [p1] at hs2
      have hs0 := hs.1
      have HRO := Lib.hid (fun W (h : IntsAt W W.heap.size A1 z1) => refOnly_any A1 c1 z1 a2 W hs0 (by omega) h (by omega) (fun a ha => by have := hle a ha; omega))
      have hol := only_len a2 z1
      have HOS := Lib.hid hos
      rw [decide_eq_true hs] at HSet
      simp only at HM HO
      have hor : (only a2 z1).length ≤ 80 := by omega
      clear hs ho hm hc hle hfs hos p1 p2 p3 hol
      generalize z1.reverse = R at *
      generalize only a2 z1 = O at *
      go_enter Tryd.func3, Tryd.ntmps3
      go_wp2_with fail
      refine (HW.out _ V1.out).mono ?_
      rintro e w9 ⟨he, rfl⟩
      obtain rfl : e = .returned (.int .i64 0) := he.out
      clear he HW
      go_wp2_with fail
      refine (HC.out _ V1.out).mono ?_
      rintro e w9 ⟨he, rfl⟩
      obtain rfl : e = .returned .nilIface := he.out
      clear he HC
      go_wp2_with fail
      refine (HE.out 0 _ (Below.refl _ _)).mono ?_
      rintro e w9 ⟨rfl, hb⟩
      have B1 := Lib.hid hb
      clear hb
      go_wp2_with fail
      refine (HM.out _ (HF.out _ B1.out)).mono ?_
      rintro e w9 he
      obtain ⟨x1, h1, hx⟩ := he.out
      obtain ⟨X1, k3, rfl, hx1⟩ := nums_at hx
      obtain rfl := h1
      have X1H : Hid (IntsAt w9 w9.heap.size X1 R) := ⟨hx1, HRS.out⟩
      have B2 := Lib.hid (B1.out.trans (hx.2.1.mono B1.out.size))
      clear he hx hx1 HM B1
      go_wp2_with fail
      refine (HE.out 0 _ B2.out).mono ?_
      rintro e w9 ⟨rfl, hb⟩
      have X1H := Lib.hid (X1H.out.on hb)
      have B3 := Lib.hid (B2.out.trans (hb.mono B2.out.size))
      clear hb B2
      go_wp2_with fail
      refine (HRM.out _ (HF.out _ B3.out)).mono ?_
      rintro e w9 he
      obtain ⟨x2, h1, hx⟩ := he.out
      obtain ⟨X2, k4, rfl, hx1⟩ := nums_at hx
      obtain rfl := h1
      have X2H : Hid (IntsAt w9 w9.heap.size X2 R) := ⟨hx1, HRS.out⟩
      have X1H := Lib.hid (X1H.out.on hx.2.1)
      have B4 := Lib.hid (B3.out.trans (hx.2.1.mono B3.out.size))
      clear he hx hx1 HRM B3
      go_wp2_with fail
      refine (HI.out _ X1 X2 k3 k4 R hrl X1H.out X2H.out).mono ?_
      rintro e w9 ⟨rfl, n, rfl⟩
      have B5 := Lib.hid (below_drewN B4.out n)
      clear X1H X2H B4
      go_wp2_with fail
      refine (HO.out _ (HF.out _ B5.out)).mono ?_
      rintro e w9 he
      obtain ⟨x3, h1, hx⟩ := he.out
      obtain ⟨X3, k5, rfl, hx1⟩ := nums_at hx
      obtain rfl := h1
      have X3H : Hid (IntsAt w9 w9.heap.size X3 O) := ⟨hx1, HOS.out⟩
      have B6 := Lib.hid (B5.out.trans (hx.2.1.mono B5.out.size))
      clear he hx hx1 HO B5
      go_wp2_with fail
      refine (HSet.out _).mono ?_
      rintro e w9 ⟨he, rfl⟩
      obtain rfl := he.out
      clear he HSet
      go_wp2_with fail
      refine (HE.out 0 _ B6.out).mono ?_
      rintro e w9 ⟨rfl, hb⟩
      have X3H := Lib.hid (X3H.out.on hb)
      have B7 := Lib.hid (B6.out.trans (hb.mono B6.out.size))
      clear hb B6
      go_wp2_with fail
      refine (HRO.out _ (HF.out _ B7.out)).mono ?_
      rintro e w9 he
      obtain ⟨x4, h1, hx⟩ := he.out
      obtain ⟨X4, k6, rfl, hx1⟩ := nums_at hx
      obtain rfl := h1
      have X4H : Hid (IntsAt w9 w9.heap.size X4 O) := ⟨hx1, HOS.out⟩
      have X3H := Lib.hid (X3H.out.on hx.2.1)
      have B8 := Lib.hid (B7.out.trans (hx.2.1.mono B7.out.size))
      clear he hx hx1 HRO B7
      go_wp2_with fail
      refine (HI.out _ X3 X4 k5 k6 O hor X3H.out X4H.out).mono ?_
      rintro e w9 ⟨rfl, m, rfl⟩
      have B9 := Lib.hid (below_drewN B8.out m)
      clear X3H X4H B8 HI
      go_wp2
      go_ret
      exact ⟨rfl, B9.out⟩
    · have ho : onlyOut a0 z1 a2 = ([], 1) := by unfold onlyOut; rw [if_pos hc, if_neg hs]
      rw [ho] at HO
      rw [decide_eq_false hs] at HSet
      simp only at HM HO
      clear hs ho hm hc hle hfs hos
      generalize z1.reverse = R at *
      go_enter Tryd.func3, Tryd.ntmps3
      go_wp2_with fail
      refine (HW.out _ V1.out).mono ?_
      rintro e w9 ⟨he, rfl⟩
      obtain rfl : e = .returned (.int .i64 0) := he.out
      clear he HW
      go_wp2_with fail
      refine (HC.out _ V1.out).mono ?_
      rintro e w9 ⟨he, rfl⟩
      obtain rfl : e = .returned .nilIface := he.out
      clear he HC
      go_wp2_with fail
      refine (HE.out 0 _ (Below.refl _ _)).mono ?_
      rintro e w9 ⟨rfl, hb⟩
      have B1 := Lib.hid hb
      clear hb
      go_wp2_with fail
      refine (HM.out _ (HF.out _ B1.out)).mono ?_
      rintro e w9 he
      obtain ⟨x1, h1, hx⟩ := he.out
      obtain ⟨X1, k3, rfl, hx1⟩ := nums_at hx
      obtain rfl := h1
      have X1H : Hid (IntsAt w9 w9.heap.size X1 R) := ⟨hx1, HRS.out⟩
      have B2 := Lib.hid (B1.out.trans (hx.2.1.mono B1.out.size))
      clear he hx hx1 HM B1
      go_wp2_with fail
      refine (HE.out 0 _ B2.out).mono ?_
      rintro e w9 ⟨rfl, hb⟩
      have X1H := Lib.hid (X1H.out.on hb)
      have B3 := Lib.hid (B2.out.trans (hb.mono B2.out.size))
      clear hb B2
      go_wp2_with fail
      refine (HRM.out _ (HF.out _ B3.out)).mono ?_
      rintro e w9 he
      obtain ⟨x2, h1, hx⟩ := he.out
      obtain ⟨X2, k4, rfl, hx1⟩ := nums_at hx
      obtain rfl := h1
      have X2H : Hid (IntsAt w9 w9.heap.size X2 R) := ⟨hx1, HRS.out⟩
      have X1H := Lib.hid (X1H.out.on hx.2.1)
      have B4 := Lib.hid (B3.out.trans (hx.2.1.mono B3.out.size))
      clear he hx hx1 HRM B3
      go_wp2_with fail
      refine (HI.out _ X1 X2 k3 k4 R hrl X1H.out X2H.out).mono ?_
      rintro e w9 ⟨rfl, n, rfl⟩
      have B5 := Lib.hid (below_drewN B4.out n)
      clear X1H X2H B4
      go_wp2_with fail
      refine (HO.out _ (HF.out _ B5.out)).mono ?_
      rintro e w9 he
      obtain ⟨x3, h1, hx⟩ := he.out
      obtain ⟨X3, k5, rfl, hx1⟩ := nums_at hx
      obtain rfl := h1
      have B6 := Lib.hid (B5.out.trans (hx.2.1.mono B5.out.size))
      clear he hx hx1 HO B5
      go_wp2_with fail
      refine (HSet.out _).mono ?_
      rintro e w9 ⟨he, rfl⟩
      obtain rfl := he.out
      clear he HSet
      go_wp2_with fail
      refine (HE.out 1 _ B6.out).mono ?_
      rintro e w9 ⟨rfl, hb⟩
      have B7 := Lib.hid (B6.out.trans (hb.mono B6.out.size))
      clear hb B6
      go_wp2
      go_ret
      exact ⟨rfl, B7.out⟩
  · have hm : mirOut a0 z1 = ([], e0 + 1) := by unfold mirOut; rw [if_neg (by omega), hc]
    have ho : onlyOut a0 z1 a2 = ([], e0 + 1) := by unfold onlyOut; rw [if_neg (by omega), hc]
    rw [hm] at HM
    rw [ho] at HO
    rw [hc] at HW HC
    have HE := Lib.hid (HE.out (e0 + 1))
    have hne : (((e0 + 1 : Nat) : Int) == 0) = false := by simp; omega
    have hne2 : (((e0 + 1 : Nat) : Int) != 0) = true := by simp; omega
    simp only at HM HO
    clear hm ho hc
    generalize errV (e0 + 1) = E at *
    generalize ((e0 + 1 : Nat) : Int) = N at *
    go_enter Tryd.func3, Tryd.ntmps3
    go_wp2_with fail
    refine (HW.out _ V1.out).mono ?_
    rintro e w9 ⟨he, rfl⟩
    obtain rfl : e = .returned (.int .i64 N) := he.out
    clear he HW
    go_wp2_with fail
    refine (HC.out _ V1.out).mono ?_
    rintro e w9 ⟨he, rfl⟩
    obtain rfl : e = .returned E := he.out
    clear he HC
    go_wp2_with fail
    refine (HE.out _ (Below.refl _ _)).mono ?_
    rintro e w9 ⟨rfl, hb⟩
    have B1 := Lib.hid hb
    clear hb
    go_wp2_with fail
    refine (HM.out _ (HF.out _ B1.out)).mono ?_
    rintro e w9 he
    obtain ⟨x1, h1, hx⟩ := he.out
    obtain ⟨X1, k3, rfl, hx1⟩ := nums_at hx
    obtain rfl := h1
    have B2 := Lib.hid (B1.out.trans (hx.2.1.mono B1.out.size))
    clear he hx hx1 HM B1
    go_wp2_with fail
    refine (HE.out _ B2.out).mono ?_
    rintro e w9 ⟨rfl, hb⟩
    have B5 := Lib.hid (B2.out.trans (hb.mono B2.out.size))
    clear hb B2
    go_wp2_with fail
    refine (HO.out _ (HF.out _ B5.out)).mono ?_
    rintro e w9 he
    obtain ⟨x3, h1, hx⟩ := he.out
    obtain ⟨X3, k5, rfl, hx1⟩ := nums_at hx
    obtain rfl := h1
    have B6 := Lib.hid (B5.out.trans (hx.2.1.mono B5.out.size))
    clear he hx hx1 HO B5
    go_wp2_with fail
    refine (HE.out _ B6.out).mono ?_
    rintro e w9 ⟨rfl, hb⟩
    have B7 := Lib.hid (B6.out.trans (hb.mono B6.out.size))
    clear hb B6
    go_wp2
    go_ret
    exact ⟨rfl, B7.out⟩


set_option maxRecDepth 100000 in
theorem lifted (os : Os) (started : os.Started) (H : Type) (enc : TypeId × Value → H) :
    ReturnsInHanded {} Tryd.checked os 3 .any (fun w args => (Rows.wordSaysSpec.pre enc Tryd.prog Tryd.f3 Rows.wordSaysRow.domain false w args ∧ laidMetH Tryd.prog [("errors.errorType", Rows.laid_errors_errorType)] w) ∧ sizedMet enc Tryd.prog Tryd.f3 (OpenSpec.ofChange Rows.wordSaysSpec) false w args) (Rows.wordSaysSpec.post enc Tryd.prog Tryd.f3 false true false false) := by
  refine returnsInHanded_of_change_and (C := Tryd.checked) (X := fun w _ => laidMetH Tryd.prog [("errors.errorType", Rows.laid_errors_errorType)] w) (fun _ _ _ hh h => h.of_heap hh) own started (by kernel_rfl) Tryd.func3
    (ChangeSpec.witness_at (enc := enc) (C := Tryd.checked) (os := os) (X := fun w _ => laidMetH Tryd.prog [("errors.errorType", Rows.laid_errors_errorType)] w) false (laidWorld os) #[.int .i64 0, .slice none 0 0, .int .i64 0] 8 rfl (by kernel_rfl) (by kernel_rfl) (by kernel_rfl) (by kernel_rfl) (by kernel_rfl) (laidWorld_met os _)) ?_
  intro W base args ds gs before hval0 hW hcnd hsz0 hL _
  have hval : ∀ (j : Nat) t v, Tryd.f3.params[j]? = some t → args[j]? = some v → Value.okWide Tryd.prog W .any base t v := hval0
  have hsz : (DataW.weightsEach Tryd.prog (Tryd.f3.params.toList ++ Rows.wordSaysSpec.plain.varTypes Tryd.prog) (ds ++ gs)).all (· ≤ reachBytes) = true := hsz0
  have hW' := hW
  obtain ⟨p, q, hA0, hV0, rfl, hfz, hnd⟩ := hW
  have hV : DataW.TrodVars enc Tryd.prog W (fun _ => true) [] gs q := hV0
  have hA : DataW.TrodAll enc Tryd.prog W 0 (fun _ => true) true Tryd.f3.params.toList args.toList ds p := hA0
  rw [Tryd.params3] at hA hval hsz
  obtain ⟨v0, vs0, d0, ds0, p0, q0, hargs, rfl, rfl, h0, rr0⟩ := trodAll_cons hA
  obtain ⟨v1, vs1, d1, ds1, p1, q1, rfl, rfl, rfl, h1, rr1⟩ := trodAll_cons rr0
  obtain ⟨v2, vs2, d2, ds2, p2, q2, rfl, rfl, rfl, h2, rr2⟩ := trodAll_cons rr1
  obtain ⟨rfl, rfl, rfl⟩ := trodAll_nil rr2
  obtain rfl : args = #[v0, v1, v2] := by cases args; simp_all
  obtain ⟨rfl, rfl⟩ := trodVars_none hV
  have k0 := h0
  have lt0 : ∀ x ∈ p0, x.block < W.heap.size := by obtain ⟨m, hm⟩ := k0; exact DataW.trod_lt m _ _ _ hm
  have k1 := h1
  have lt1 : ∀ x ∈ p1, x.block < W.heap.size := by obtain ⟨m, hm⟩ := k1; exact DataW.trod_lt m _ _ _ hm
  have k2 := h2
  have lt2 : ∀ x ∈ p2, x.block < W.heap.size := by obtain ⟨m, hm⟩ := k2; exact DataW.trod_lt m _ _ _ hm
  obtain ⟨a0, rfl, rfl, rfl, w0⟩ := open_int Tryd.underlying3 (hval 0 3 v0 rfl rfl) h0
  obtain ⟨l0, hh0⟩ := bounds_i64 w0
  obtain ⟨A1, len1, c1, rfl⟩ := okWide_slice Tryd.underlying22 (hval 1 22 v1 rfl rfl)
  obtain ⟨z1, rfl, x1, r1⟩ : ∃ zs : List Int, len1 = zs.length ∧ IntsAt W W.heap.size A1 zs ∧ zs.length ≤ 17592186043904 := by
    obtain ⟨fuel, hf⟩ := h1
    rcases open_ints Tryd.underlying22 Tryd.underlying3 (by kernel_rfl) hf with ⟨hcs, _⟩ | ⟨x, l, c, zs, hcs, _, hl, hm, hz, hx, hcell, hwz⟩
    · simp [Value.cells] at hcs
      obtain ⟨rfl, rfl, rfl⟩ := hcs
      exact ⟨[], rfl, IntsAt.nil _ _ _, by simp⟩
    · simp [Value.cells] at hcs
      obtain ⟨rfl, rfl, rfl⟩ := hcs
      have hd := congrArg Prod.fst hx
      simp only at hd
      have := sized_slice hsz (j := 1) (t := 22) (e := 3) rfl (by rw [hd]; rfl) Tryd.underlying22
      rw [(show Tryd.prog.bytesOf 3 = 8 by kernel_rfl)] at this
      simp only [reachBytes, lits, List.length_map, List.length_take, List.length_drop] at this
      have hz' : zs.length = c1 := by simpa using hz
      exact ⟨zs.take len1, by rw [List.length_take]; omega, intsAt_of_open hcell hwz len1, by rw [List.length_take]; omega⟩
  obtain ⟨a2, rfl, rfl, rfl, w2⟩ := open_int Tryd.underlying3 (hval 2 3 v2 rfl rfl) h2
  obtain ⟨l2, hh2⟩ := bounds_i64 w2
  clear hA0 hval0
  refine (walk a0 A1 c1 z1 a2 W l0 hh0 x1 r1 l2 hh2 (handle_of_laid hL)).mono fun e W' ⟨he, bel⟩ => ?_
  subst he
  exact ⟨_, rfl, _, _, _, [], _, [], hW', trodAll_mk1 (shut_bool Tryd.underlying4 _), (trodAll_cons_mk (Below.trod laidOut (by kernel_rfl) (of_decide_eq_true (by kernel_rfl)) k0 bel lt0) (trodAll_cons_mk (Below.trod laidOut (by kernel_rfl) (of_decide_eq_true (by kernel_rfl)) k1 bel lt1) (trodAll_cons_mk (Below.trod laidOut (by kernel_rfl) (of_decide_eq_true (by kernel_rfl)) k2 bel lt2) trodAll_mk0))), rfl, bel.frame _, fun h => by cases h⟩

theorem over : Rows.wordSaysRow.holds Tryd.pinned (OpenSpec.ofChange Rows.wordSaysSpec) :=
  OpenClaim.holds_of_wide 3 Tryd.f3 rfl rfl rfl rfl rfl rfl rfl ⟨rfl, rfl, rfl, rfl, rfl⟩ rfl rfl rfl rfl rfl (by kernel_rfl) Tryd.func3 (by kernel_rfl)
    (of_decide_eq_true (by kernel_rfl)) (by unfold Func.isWrapper; rw [if_neg (of_decide_eq_false (by kernel_rfl))]; exact ⟨rfl, rfl⟩)
    (fun os started H enc _ => lifted os started H enc)
theorem proved : Rows.WordSaysCardSaid :=
  Claim7.holds_tied_plain_at .later [] [.handle] true (true, "5444131e20b18937c92f025c804d0a8bc26a6a15c0817920cd0f78fcf30118f2") true
    over (fun _ h => by cases h) (by kernel_rfl) (fun _ h => by cases h) wordSays_row_tie rfl ⟨rfl, rfl⟩ (by kernel_rfl) rfl
    (fun f fn hf hfn => by
      obtain rfl : f = 3 := Option.some.inj ((show Tryd.prog.funcNamed "stileward/stilewardlaw1.WordSays" = some 3 by kernel_rfl).symm.trans hf) |>.symm
      obtain rfl : fn = Tryd.f3 := (Option.some.inj (Tryd.func3.symm.trans hfn)).symm
      exact ⟨by kernel_rfl, fun j t ht => by
        rw [Tryd.params3] at ht
        rcases j with _ | _ | _ | j
        · obtain rfl : 3 = t := by simpa using ht
          exact (show Tryd.prog.wantsStandIn 3 = false by kernel_rfl)
        · obtain rfl : 22 = t := by simpa using ht
          exact (show Tryd.prog.wantsStandIn 22 = false by kernel_rfl)
        · obtain rfl : 3 = t := by simpa using ht
          exact (show Tryd.prog.wantsStandIn 3 = false by kernel_rfl)
        · simp at ht⟩)
    (by kernel_rfl)
#print axioms proved
end Go.Proofs.YtmcgdajembhocaaDoor.wordSays
