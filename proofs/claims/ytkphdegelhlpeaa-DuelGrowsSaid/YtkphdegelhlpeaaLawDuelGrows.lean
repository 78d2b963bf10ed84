/-
  The statement DuelGrowsSaid of this seat, proved: for every input the law returns true and its arguments read behind the call as before. Conditions: none but the row's own (each argument within the reach).
-/
import Derived.Test.YtkphdegelhlpeaaRows
import Derived.Test.YtkphdegelhlpeaaWords
import Derived.WalkKit
import Derived.ProofKit
import Derived.OpenShut
import Derived.ShutString
import Derived.ChangeOld
import Derived.Below
import Derived.SizedLaws
import Derived.Lib.Hide
import Derived.Test.YtkphdegelhlpeaaDuelG
import Derived.Deep.QuietTactic
import Derived.BigQuiet
namespace Go.Proofs.Ytkphdegelhlpeaa.duelGrows
open Go.ChangeShapes Go.WideShapes Go.ChangeAt Go.RowKit Go.IntWalk Go.Proofs.Ytkphdegelhlpeaa.Wd
open Go.ChangeMaps (open_string shut_string)
set_option linter.unusedVariables false

theorem own : ownKnob Try.prog.godebug = none := by kernel_rfl
theorem laidOut : laidOutB Try.prog = true := by kernel_rfl
open Go.Proofs.Ytkphdegelhlpeaa.Wo Go.Proofs.Ytkphdegelhlpeaa.Df Go.Proofs.Ytkphdegelhlpeaa.Rc Go.Proofs.Ytkphdegelhlpeaa.Du

set_option maxRecDepth 100000 in
set_option maxHeartbeats 4000000 in
theorem walk (v0 : Value) (g0 : Du.Ar) (a1 : Int) (w : World) (h0 : Du.ArAt w w.heap.size v0 g0) (l1 : -9223372036854775808 ≤ a1) (h1 : a1 ≤ 9223372036854775807) :
    Calls Try.prog 6 #[v0, .int .i64 a1] w fun e w' => e = .returned (.bool true) ∧ Below w.heap.size w w' := by
  have HF := Lib.hid duelFact_any
  by_cases g1 : achk g0 = 0
  · have gd := achk_iff.1 g1
    obtain ⟨ao, co, aa, c, af, cf, n, u, rfl, hu, hb0, hn1, hn4, hA⟩ := arG_new w h0 gd
    have B := Lib.hid hb0
    have W0 := Lib.hid hu
    have VA := Lib.hid hA
    have HRk := fun W (h : ArG W w.heap.size ao co aa c af cf g0 n) => ranks_gives h.at_ gd
    have HMv := fun W (h : ArG W w.heap.size ao co aa c af cf g0 n) => moves_gives h.at_ gd
    have hlen := hA.len
    rw [hlen] at HRk HMv
    have HRk := Lib.hid HRk
    have HMv := Lib.hid HMv
    have HG0 := Lib.hid gd
    have HLen := Lib.hid hlen
    clear hA hb0 hu h0 hlen g1 gd
    go_enter Try.func6, Try.ntmps6
    go_wp2_with fail
    rw [← W0.out]
    clear W0
    refine (HF.out _).mono ?_
    rintro e u1 ⟨rfl, hb⟩
    have VA := Lib.hid (VA.out.on hb)
    have B := Lib.hid (B.out.trans (hb.mono B.out.size))
    clear hb HF
    have c0 := VA.out.box.c0
    have c1 := VA.out.box.c1
    have c2 := VA.out.box.c2
    go_wp2_with fail
    refine (HRk.out _ VA.out).mono ?_
    rintro e u2 ⟨grk, rfl, hi, hb⟩
    have rk := Lib.hid hi.out
    have VA := Lib.hid (VA.out.on hb)
    have B := Lib.hid (B.out.trans (hb.mono B.out.size))
    clear hb hi c0 c1 c2 HRk
    clear HMv
    have c1 := VA.out.box.c1
    by_cases hp0 : a1 < 0
    · go_wp2
      go_ret
      exact ⟨rfl, B.out⟩
    by_cases hpn : a1 ≥ (n : Int)
    · go_wp2
      go_ret
      exact ⟨rfl, B.out⟩
    obtain ⟨p, rfl⟩ := Int.eq_ofNat_of_zero_le (show 0 ≤ a1 by omega)
    have hp : p < n := by omega
    clear hp0 hpn
    obtain ⟨w4, hw4⟩ : ∃ w4, w4 = (u2.alloc (.cells #[.slice none 0 0, .slice (some aa) n c, .slice none 0 0] 26)).alloc (.cells #[.slice none 0 0, .slice (some aa) n c, .slice none 0 0] 26) := ⟨_, rfl⟩
    have HG := Lib.hid (gw_new u2 (.slice (some aa) n c) _ rfl w4 hw4)
    have HOw : Hid (∀ W, Below u2.heap.size u2 W → W.cell? ⟨w.heap.size, 0, none⟩ = some (.slice (some ao) n co) ∧ W.cell? ⟨w.heap.size, 1, none⟩ = some (.slice (some aa) n c) ∧ W.cell? ⟨w.heap.size, 2, none⟩ = some (.slice (some af) n cf) ∧ IntsAt W W.heap.size (some ao) g0.own ∧ BoolsAt W W.heap.size (some af) g0.goal) := fun W hW => ⟨(VA.out.on hW).box.c0, (VA.out.on hW).box.c1, (VA.out.on hW).box.c2, (VA.out.on hW).is.owns, (VA.out.on hW).is.goals⟩
    have hlt := VA.out.box.lt
    have q0 : w.heap.size ≠ u2.heap.size := by omega
    have q1 : w.heap.size ≠ u2.heap.size + 1 := by omega
    have q2 : u2.heap.size ≠ w.heap.size := by omega
    have q3 : u2.heap.size + 1 ≠ w.heap.size := by omega
    have HLo : Hid (g0.own.length = n) := by unfold Hid; rw [HG0.out.own, HLen.out]
    have HLg : Hid (g0.goal.length = n) := by unfold Hid; rw [HG0.out.goal, HLen.out]
    obtain ⟨k0, k1, k2, _, _⟩ := HOw.out w4 HG.out.below
    have kb := (HG.out.cellb (j := 0) rfl).1
    have HW := Lib.hid hw4
    rw [hw4] at k0 k1 k2 kb
    clear hw4
    go_wp2_with (at_builtin; rw [← HW.out]; refine gw_bo rfl _ _ rfl rfl HG.out HLo.out rfl (HOw.out _ HG.out.below).2.2.2.1 (by omega) hn4 ?_)
    intro gbo cbo w5 hG5
    clear HW HG k0 k1 k2 kb c1
    have HG := Lib.hid (hG5.setb 0 (.slice (some ⟨gbo, 0, none⟩) n cbo))
    obtain ⟨s0, f0⟩ := hG5.cellb (j := 0) rfl
    have t2 := (HG.out.cellb (j := 2) rfl).1
    have t2' := (hG5.cellb (j := 2) rfl).1
    obtain ⟨_, _, o2, _, _⟩ := HOw.out _ HG.out.below
    obtain ⟨_, _, o2', _, _⟩ := HOw.out _ hG5.below
    clear hG5
    go_wp2_with (at_builtin; refine gw_bg rfl _ _ rfl rfl HG.out HLg.out rfl (HOw.out _ HG.out.below).2.2.2.2 (by omega) hn4 ?_)
    intro gbg cbg w6 hG6
    clear HG s0 f0 t2 t2' o2 o2'
    have HG := Lib.hid (hG6.setb 2 (.slice (some ⟨gbg, 0, none⟩) n cbg))
    obtain ⟨s0, f0⟩ := hG6.cellb (j := 2) rfl
    have t0 := (HG.out.cellc (j := 0) rfl).1
    have t0' := (hG6.cellc (j := 0) rfl).1
    obtain ⟨o0, _, _, _, _⟩ := HOw.out _ HG.out.below
    obtain ⟨o0', _, _, _, _⟩ := HOw.out _ hG6.below
    clear hG6
    go_wp2_with (at_builtin; refine gw_co rfl _ _ rfl rfl HG.out HLo.out rfl (HOw.out _ HG.out.below).2.2.2.1 (by omega) hn4 ?_)
    intro gco cco w7 hG7
    clear HG s0 f0 t0 t0' o0 o0'
    have HG := Lib.hid (hG7.setc 0 (.slice (some ⟨gco, 0, none⟩) n cco))
    obtain ⟨s0, f0⟩ := hG7.cellc (j := 0) rfl
    have t2 := (HG.out.cellc (j := 2) rfl).1
    have t2' := (hG7.cellc (j := 2) rfl).1
    obtain ⟨_, _, o2, _, _⟩ := HOw.out _ HG.out.below
    obtain ⟨_, _, o2', _, _⟩ := HOw.out _ hG7.below
    clear hG7
    go_wp2_with (at_builtin; refine gw_cg rfl _ _ rfl rfl HG.out HLg.out rfl (HOw.out _ HG.out.below).2.2.2.2 (by omega) hn4 ?_)
    intro gcg ccg w8 hG8
    clear HG s0 f0 t2 t2' o2 o2'
    have HG8 := hG8.setc 2 (.slice (some ⟨gcg, 0, none⟩) n ccg)
    obtain ⟨s0, f0⟩ := hG8.cellc (j := 2) rfl
    have t2 := (HG8.cellb (j := 2) rfl).1
    have t2' := (hG8.cellb (j := 2) rfl).1
    obtain ⟨⟨x1, s1⟩, f1⟩ := HG8.goalcell HLg.out hp
    obtain ⟨⟨x1', s1'⟩, f1'⟩ := hG8.goalcell HLg.out hp
    have HG9 := HG8.goalb HLg.out p true
    have t3 := (HG9.cellc (j := 0) rfl).1
    have t3' := (HG8.cellc (j := 0) rfl).1
    obtain ⟨⟨x2, s2⟩, f2⟩ := HG9.owncell HLo.out hp
    obtain ⟨⟨x2', s2'⟩, f2'⟩ := HG8.owncell HLo.out hp
    have HG := Lib.hid (HG9.ownc HLo.out p 0)
    have b0 := (HG.out.cellb (j := 0) rfl).1
    have b1 := (HG.out.cellb (j := 1) rfl).1
    have b2 := (HG.out.cellb (j := 2) rfl).1
    have e1 : (p : Int) < (n : Int) := by omega
    clear hG8 HG8 HG9
    obtain ⟨S, hS⟩ : ∃ S, S = ((w8.setCell ⟨u2.heap.size + 1, 2, none⟩ (.slice (some ⟨gcg, 0, none⟩) n ccg)).setCell ⟨gbg, p, none⟩ (.bool true)).setCell ⟨gco, p, none⟩ (.int .i64 0) := ⟨_, rfl⟩
    have hGS := HG.out
    rw [← hS] at hGS
    have HS := Lib.hid hS
    have hVS := VA.out.on hGS.below
    have hsm := hVS.is.owns.2
    have HRn : Hid (∀ W, Below S.heap.size S W → RowsAt W W.heap.size (some aa) g0.next) := fun W hW => (hVS.on hW).is.rows
    have hnc : n ≤ c := by have := hVS.is.hc; rw [HLen.out] at this; exact this
    have hRb := ranks_gives (gw_at hGS hsm HLo.out (by rw [List.length_set]; exact HLg.out) HLen.out hnc hVS.is.hc2 (HRn.out S (Below.refl _ _))) (good_b HG0.out p)
    have HRc : Hid (∀ W, Below S.heap.size S W → _) := fun W hW => ranks_gives (gw_atc (hGS.on hW) (fun x hx => by
      rcases List.mem_or_eq_of_mem_set hx with hx | rfl
      · exact hsm x hx
      · exact ⟨by decide, by decide⟩) (by rw [List.length_set]; exact HLo.out) HLg.out HLen.out hnc hVS.is.hc2 (HRn.out W hW)) (good_c HG0.out p)
    have hRc := HRc.out
    change ∀ W, Below S.heap.size S W → Calls Try.prog _ _ W fun e w' => ∃ g, e = .returned (.tuple #[rw_ g g0.next.length, .nilIface]) ∧ Hid (IntsAt w' w'.heap.size (some ⟨g, 0, none⟩) (fT g0.next.length (rank (arC g0 p)))) ∧ Below W.heap.size W w' at hRc
    change Calls Try.prog _ _ S fun e w' => ∃ g, e = .returned (.tuple #[rw_ g g0.next.length, .nilIface]) ∧ Hid (IntsAt w' w'.heap.size (some ⟨g, 0, none⟩) (fT g0.next.length (rank (arB g0 p)))) ∧ Below S.heap.size S w' at hRb
    rw [HLen.out] at hRb hRc
    have HRb := Lib.hid hRb
    have HRc := Lib.hid hRc
    have B := Lib.hid (B.out.trans (hGS.below.mono B.out.size))
    have VA := Lib.hid hVS
    have rk := Lib.hid (rk.out.on hGS.below)
    have HCc : Hid (∀ W, Below S.heap.size S W → W.cell? ⟨u2.heap.size + 1, 0, none⟩ = some (.slice (some ⟨gco, 0, none⟩) n cco) ∧ W.cell? ⟨u2.heap.size + 1, 1, none⟩ = some (.slice (some aa) n c) ∧ W.cell? ⟨u2.heap.size + 1, 2, none⟩ = some (.slice (some ⟨gcg, 0, none⟩) n ccg)) := fun W hW => ⟨((hGS.on hW).cellc (j := 0) rfl).1, ((hGS.on hW).cellc (j := 1) rfl).1, ((hGS.on hW).cellc (j := 2) rfl).1⟩
    clear hS hGS hVS hsm HRn hRb hRc HG HOw HLo HLg
    go_wp2_with fail
    rw [← HS.out]
    clear HS s0 f0 t2 t2' s1 f1 s1' f1' t3 t3' s2 f2 s2' f2' b0 b1 b2
    refine HRb.out.mono ?_
    rintro e S2 ⟨gy, rfl, hi, hb⟩
    have ry := Lib.hid hi.out
    have rk := Lib.hid (rk.out.on hb)
    have VA := Lib.hid (VA.out.on hb)
    have B := Lib.hid (B.out.trans (hb.mono B.out.size))
    obtain ⟨b0, b1, b2⟩ := HCc.out S2 hb
    have HC := Lib.hid (HRc.out S2 hb)
    clear hb hi HRb HRc HCc
    go_wp2_with fail
    refine HC.out.mono ?_
    rintro e S3 ⟨gz, rfl, hi, hb⟩
    have rz := Lib.hid hi.out
    have rk := Lib.hid (rk.out.on hb)
    have ry := Lib.hid (ry.out.on hb)
    have VA := Lib.hid (VA.out.on hb)
    have B := Lib.hid (B.out.trans (hb.mono B.out.size))
    have c1 := VA.out.box.c1
    clear hb hi HC b0 b1 b2
    have HMo : Hid (∀ q, q < n → 0 ≤ rank g0 q → (0 ≤ rank (arB g0 p) q ∧ rank (arB g0 p) q ≤ rank g0 q) ∧ (0 ≤ rank (arC g0 p) q ∧ rank (arC g0 p) q ≤ rank g0 q)) := fun q hq h => ⟨rank_b HG0.out p (by rw [HLen.out]; exact hq) h, rank_c HG0.out p (by rw [HLen.out]; exact hq) h⟩
    have HYp : Hid (rank (arB g0 p) p = 0) := rank_bp HG0.out (by rw [HLen.out]; exact hp)
    have HY : Hid (Below S3.heap.size S3 S3) := Below.refl _ _
    go_wp2
    go_loopw [14] (fun iv wr => ∃ (q : Nat), q ≤ n ∧ iv = .int .i64 q ∧ Hid (Below S3.heap.size S3 wr)) (fun i _ => n - (intOf i).toNat)
    case atStart => exact ⟨0, by omega, rfl, HY⟩
    case round =>
      clear HY c1
      obtain ⟨q, hq, rfl, HB⟩ := hrel
      by_cases hlt : q < n
      · have xc := rw_cell (rk.out.on HB.out) (fT_get (rank g0) hlt)
        have yc := rw_cell (ry.out.on HB.out) (fT_get (rank (arB g0 p)) hlt)
        have zc := rw_cell (rz.out.on HB.out) (fT_get (rank (arC g0 p)) hlt)
        have hmo := HMo.out q hlt
        have e2 : (q : Int) < (n : Int) := by omega
        have HBd : Hid (∀ k, Below S3.heap.size S3 (wr.drewN k)) := fun k => below_drewN HB.out k
        generalize rank g0 q = X at *
        generalize rank (arB g0 p) q = Y at *
        generalize rank (arC g0 p) q = Z at *
        by_cases hx : X ≥ 0
        · obtain ⟨⟨y1, y2⟩, z1, z2⟩ := hmo hx
          have d0 : decide (X ≥ 0) = true := decide_eq_true hx
          have d1 : decide (Y < 0) = false := decide_eq_false (by omega)
          have d2 : decide (Y > X) = false := decide_eq_false (by omega)
          have d3 : decide (Z < 0) = false := decide_eq_false (by omega)
          have d4 : decide (Z > X) = false := decide_eq_false (by omega)
          clear hmo
          go_wp2_with fail
          go_quiet (fail)
          go_wp2
          go_roundw
          case rel => exact ⟨q + 1, by omega, by go_num, HBd.out _⟩
          case measure => simp [intOf]; omega
        · have d0 : decide (X ≥ 0) = false := decide_eq_false hx
          clear hmo
          go_wp2_with fail
          go_quiet (fail)
          go_wp2
          go_roundw
          case rel => exact ⟨q + 1, by omega, by go_num, HBd.out _⟩
          case measure => simp [intOf]; omega
      · have e2 : ¬ (q : Int) < (n : Int) := by omega
        have yc := rw_cell (ry.out.on HB.out) (fT_get (rank (arB g0 p)) hp)
        rw [HYp.out] at yc
        have HBe := Lib.hid (B.out.trans (HB.out.mono B.out.size))
        clear HMo HYp
        go_wp2
        go_ret
        exact ⟨rfl, HBe.out⟩
  · obtain ⟨x, hx⟩ := errA_bad g1
    obtain ⟨O, co, A, c, F, cf, rfl, h⟩ := h0
    obtain ⟨u, hu, hb0, hX, ha⟩ := box_ar w h
    have B := Lib.hid hb0
    have W0 := Lib.hid hu
    have VX := Lib.hid hX
    have VH := Lib.hid (show ArAt u u.heap.size (.agg #[.slice O g0.own.length co, .slice A g0.next.length c, .slice F g0.goal.length cf]) g0 from ⟨O, co, A, c, F, cf, rfl, ha⟩)
    have HRk := Lib.hid (fun W v (h : ArAt W W.heap.size v g0) => ranks_bad v g0 W h hx)
    have HMv := Lib.hid (fun W v (h : ArAt W W.heap.size v g0) => moves_bad v g0 W h hx)
    clear hX hu hb0 ha h hx
    generalize g0.next.length = n at *
    generalize g0.own.length = no at *
    generalize g0.goal.length = ng at *
    go_enter Try.func6, Try.ntmps6
    go_wp2_with fail
    rw [← W0.out]
    clear W0
    refine (HF.out _).mono ?_
    rintro e u1 ⟨rfl, hb⟩
    have VH := Lib.hid (VH.out.on hb)
    have VX := Lib.hid (VX.out.on hb)
    have B := Lib.hid (B.out.trans (hb.mono B.out.size))
    clear hb HF
    have c0 := VX.out.c0
    have c1 := VX.out.c1
    have c2 := VX.out.c2
    go_wp2_with fail
    refine (HRk.out _ _ VH.out).mono ?_
    rintro e u2 ⟨rfl, hb⟩
    have VH := Lib.hid (VH.out.on hb)
    have VX := Lib.hid (VX.out.on hb)
    have B := Lib.hid (B.out.trans (hb.mono B.out.size))
    clear hb c0 c1 c2 HRk
    go_wp2
    go_ret
    exact ⟨rfl, B.out⟩


set_option maxRecDepth 100000 in
theorem lifted (os : Os) (started : os.Started) (H : Type) (enc : TypeId × Value → H) :
    ReturnsInHanded {} Try.checked os 6 .any (Rows.duelGrowsSpec.pre6 enc Try.prog Try.f6 Rows.duelGrowsRow.domain false) (Rows.duelGrowsSpec.post enc Try.prog Try.f6 false true false false) := by
  refine returnsInHanded_of_change_sized (C := Try.checked) own started (by kernel_rfl) Try.func6
    (ChangeSpec.witness6 (enc := enc) (C := Try.checked) false ⟨#[], #[.agg #[.slice none 0 0, .slice none 0 0, .slice none 0 0], .int .i64 0], []⟩ 8 (by kernel_rfl) (by kernel_rfl) (by kernel_rfl) (by kernel_rfl)) ?_
  intro W base args ds gs before hval0 hW hcnd hsz0 _
  have hval : ∀ (j : Nat) t v, Try.f6.params[j]? = some t → args[j]? = some v → Value.okWide Try.prog W .any base t v := hval0
  have hsz : (DataW.weightsEach Try.prog (Try.f6.params.toList ++ Rows.duelGrowsSpec.plain.varTypes Try.prog) (ds ++ gs)).all (· ≤ reachBytes) = true := hsz0
  have hW' := hW
  obtain ⟨p, q, hA0, hV0, rfl, hfz, hnd⟩ := hW
  have hV : DataW.TrodVars enc Try.prog W (fun _ => true) [] gs q := hV0
  have hA : DataW.TrodAll enc Try.prog W 0 (fun _ => true) true Try.f6.params.toList args.toList ds p := hA0
  rw [Try.params6] at hA hval hsz
  obtain ⟨v0, vs0, d0, ds0, p0, q0, hargs, rfl, rfl, h0, rr0⟩ := trodAll_cons hA
  obtain ⟨v1, vs1, d1, ds1, p1, q1, rfl, rfl, rfl, h1, rr1⟩ := trodAll_cons rr0
  obtain ⟨rfl, rfl, rfl⟩ := trodAll_nil rr1
  obtain rfl : args = #[v0, v1] := by cases args; simp_all
  obtain ⟨rfl, rfl⟩ := trodVars_none hV
  have k0 := h0
  have lt0 : ∀ x ∈ p0, x.block < W.heap.size := by obtain ⟨m, hm⟩ := k0; exact DataW.trod_lt m _ _ _ hm
  have k1 := h1
  have lt1 : ∀ x ∈ p1, x.block < W.heap.size := by obtain ⟨m, hm⟩ := k1; exact DataW.trod_lt m _ _ _ hm
  obtain ⟨D0, x0⟩ : ∃ g : Du.Ar, Du.ArAt W W.heap.size v0 g := Du.ar_open (hval 0 26 v0 rfl rfl) h0
  obtain ⟨a1, rfl, rfl, rfl, w1⟩ := open_int Try.underlying3 (hval 1 3 v1 rfl rfl) h1
  obtain ⟨l1, hh1⟩ := bounds_i64 w1
  clear hA0 hval0
  refine (walk v0 D0 a1 W x0 l1 hh1).mono fun e W' ⟨he, bel⟩ => ?_
  subst he
  exact ⟨_, rfl, _, _, _, [], _, [], hW', trodAll_mk1 (shut_bool Try.underlying4 _), (trodAll_cons_mk (Below.trod laidOut (by kernel_rfl) (of_decide_eq_true (by kernel_rfl)) k0 bel lt0) (trodAll_cons_mk (Below.trod laidOut (by kernel_rfl) (of_decide_eq_true (by kernel_rfl)) k1 bel lt1) trodAll_mk0)), rfl, bel.frame _, fun h => by cases h⟩

theorem over : Rows.duelGrowsRow.holds Try.pinned (OpenSpec.ofChange Rows.duelGrowsSpec) :=
  OpenClaim.holds_of_wide 6 Try.f6 rfl rfl rfl rfl rfl rfl rfl ⟨rfl, rfl, rfl, rfl, rfl⟩ rfl rfl rfl rfl rfl (by kernel_rfl) Try.func6 (by kernel_rfl)
    (of_decide_eq_true (by kernel_rfl)) (by unfold Func.isWrapper; rw [if_neg (of_decide_eq_false (by kernel_rfl))]; exact ⟨rfl, rfl⟩)
    (fun os started H enc _ => lifted os started H enc)
theorem proved : Rows.DuelGrowsSaid := over
#print axioms proved
end Go.Proofs.Ytkphdegelhlpeaa.duelGrows
