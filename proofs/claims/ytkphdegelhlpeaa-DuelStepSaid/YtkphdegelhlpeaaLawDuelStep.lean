/-
  The statement DuelStepSaid of this seat, proved: for every input the law returns true and its arguments read behind the call as before. Conditions: none but the row's own (each argument within the reach).
-/
import Derived.Test.YtkphdegelhlpeaaRows
import Derived.Test.YtkphdegelhlpeaaWords
import Derived.WalkKit
import Derived.ProofKit
import Derived.OpenShut
import Derived.ShutString
import Derived.ChangeOld
import Derived.Below
import Derived.SizedLaws
import Derived.Lib.Hide
import Derived.Test.YtkphdegelhlpeaaDuelS
namespace Go.Proofs.Ytkphdegelhlpeaa.duelStep
open Go.ChangeShapes Go.WideShapes Go.ChangeAt Go.RowKit Go.IntWalk Go.Proofs.Ytkphdegelhlpeaa.Wd
open Go.ChangeMaps (open_string shut_string)
set_option linter.unusedVariables false

theorem own : ownKnob Try.prog.godebug = none := by kernel_rfl
theorem laidOut : laidOutB Try.prog = true := by kernel_rfl
open Go.Proofs.Ytkphdegelhlpeaa.Wo Go.Proofs.Ytkphdegelhlpeaa.Df Go.Proofs.Ytkphdegelhlpeaa.Rc Go.Proofs.Ytkphdegelhlpeaa.Du

set_option maxRecDepth 100000 in
set_option maxHeartbeats 4000000 in
theorem walk (v0 : Value) (g0 : Du.Ar) (w : World) (h0 : Du.ArAt w w.heap.size v0 g0) :
    Calls Try.prog 5 #[v0] w fun e w' => e = .returned (.bool true) ∧ Below w.heap.size w w' := by
  have HF := Lib.hid duelFact_any
  by_cases g1 : achk g0 = 0
  · have gd := achk_iff.1 g1
    obtain ⟨ao, co, aa, c, af, cf, n, u, rfl, hu, hb0, hn1, hn4, hA⟩ := arG_new w h0 gd
    have B := Lib.hid hb0
    have W0 := Lib.hid hu
    have VA := Lib.hid hA
    have HRk := fun W (h : ArG W w.heap.size ao co aa c af cf g0 n) => ranks_gives h.at_ gd
    have HMv := fun W (h : ArG W w.heap.size ao co aa c af cf g0 n) => moves_gives h.at_ gd
    have hlen := hA.len
    rw [hlen] at HRk HMv
    have HRk := Lib.hid HRk
    have HMv := Lib.hid HMv
    have HG := Lib.hid gd
    have HLen := Lib.hid hlen
    clear hA hb0 hu h0 hlen g1 gd
    go_enter Try.func5, Try.ntmps5
    go_wp2_with fail
    rw [← W0.out]
    clear W0
    refine (HF.out _).mono ?_
    rintro e u1 ⟨rfl, hb⟩
    have VA := Lib.hid (VA.out.on hb)
    have B := Lib.hid (B.out.trans (hb.mono B.out.size))
    clear hb HF
    have c0 := VA.out.box.c0
    have c1 := VA.out.box.c1
    have c2 := VA.out.box.c2
    go_wp2_with fail
    refine (HRk.out _ VA.out).mono ?_
    rintro e u2 ⟨grk, rfl, hi, hb⟩
    have rk := Lib.hid hi.out
    have VA := Lib.hid (VA.out.on hb)
    have B := Lib.hid (B.out.trans (hb.mono B.out.size))
    clear hb hi c0 c1 c2 HRk
    clear HMv
    have c1 := VA.out.box.c1
    go_wp2
    go_loop [6] (fun i => ∃ (p : Nat), p ≤ n ∧ i = .int .i64 p) (fun i => n - (intOf i).toNat)
    case atStart => exact ⟨0, by omega, rfl⟩
    case round =>
      obtain ⟨p, hp, rfl⟩ := hrel
      by_cases hlt : p < n
      · obtain ⟨R, cr, hrc, hz, hr1, hr4, hgo⟩ := VA.out.row_at hlt
        have HZ := Lib.hid hz
        have HGo := Lib.hid hgo
        have HY : Hid (Inv (rksTo g0 p 0) (-1) (-1) true) := inv_nil
        have e1 : (p : Int) < (n : Int) := by omega
        have HRl : Hid (∀ j l m b, (rowA g0 p).length ≤ j → Inv (rksTo g0 p j) l m b → Inv ((succs g0 p).map (rank g0)) l m b) := fun j l m b hj h => by rw [rksTo_all hj] at h; exact h
        have hpn : p < g0.next.length := by rw [HLen.out]; exact hlt
        have HPn := Lib.hid hpn
        clear hz hgo hpn
        obtain ⟨r, hr⟩ : ∃ r, rowA g0 p = r := ⟨_, rfl⟩
        rw [hr] at hrc hr1 hr4 HZ HGo HRl
        have HR := Lib.hid hr
        clear hr
        have c1 := VA.out.box.c1
        have c0 := VA.out.box.c0
        have c2 := VA.out.box.c2
        go_wp2
        go_loop [7, 8, 9, 10] (fun lv mv bv i => ∃ (j : Nat) (l m : Int) (b : Bool), j ≤ r.length ∧ i = .int .i64 j ∧ lv = .int .i64 l ∧ mv = .int .i64 m ∧ bv = .bool b ∧ Hid (Inv (rksTo g0 p j) l m b)) (fun _ _ _ i => r.length - (intOf i).toNat)
        case atStart => exact ⟨0, -1, -1, true, by omega, rfl, rfl, rfl, rfl, HY⟩
        case round =>
          clear HY
          obtain ⟨j, l, m, b, hj, rfl, rfl, rfl, rfl, HI⟩ := hrel
          obtain ⟨b1, b2, b3, b4⟩ := inv_bounds HG.out HPn.out HI.out
          by_cases hlj : j < r.length
          · obtain ⟨q, hq, hqr⟩ := row_get HGo.out hlj
            have hqc := ints_cell HZ.out hqr
            have hxc := rw_cell rk.out (fT_get (rank g0) hq)
            have HNx := Lib.hid (rksTo_next (a := g0) (p := p) (j := j) (q := q) (by rw [HR.out]; exact hqr))
            have e2 : (q : Int) < (n : Int) := by omega
            have e3 : (j : Int) < (r.length : Int) := by omega
            clear hqr
            obtain ⟨X, hX⟩ : ∃ X, rank g0 q = X := ⟨_, rfl⟩
            rw [hX] at hxc HNx
            clear hX
            by_cases hn : X < 0
            · have HI2 : Hid (Inv (rksTo g0 p (j + 1)) l m false) := by unfold Hid; rw [HNx.out]; exact inv_neg HI.out hn
              clear HI HNx
              go_wp2
              go_round
              case rel => exact ⟨j + 1, l, m, false, by omega, by go_num, rfl, rfl, rfl, HI2⟩
              case measure => simp [intOf]; omega
            · by_cases hl : l < 0
              · by_cases hm : X > m
                · have HI2 : Hid (Inv (rksTo g0 p (j + 1)) X X b) := by unfold Hid; rw [HNx.out]; exact inv_pos HI.out (by omega) (.inl ⟨rfl, .inl hl⟩) (.inl ⟨rfl, hm⟩)
                  clear HI HNx
                  go_wp2
                  go_round
                  case rel => exact ⟨j + 1, X, X, b, by omega, by go_num, rfl, rfl, rfl, HI2⟩
                  case measure => simp [intOf]; omega
                · have HI2 : Hid (Inv (rksTo g0 p (j + 1)) X m b) := by unfold Hid; rw [HNx.out]; exact inv_pos HI.out (by omega) (.inl ⟨rfl, .inl hl⟩) (.inr ⟨rfl, hm⟩)
                  clear HI HNx
                  go_wp2
                  go_round
                  case rel => exact ⟨j + 1, X, m, b, by omega, by go_num, rfl, rfl, rfl, HI2⟩
                  case measure => simp [intOf]; omega
              · by_cases hl2 : X < l
                · by_cases hm : X > m
                  · have HI2 : Hid (Inv (rksTo g0 p (j + 1)) X X b) := by unfold Hid; rw [HNx.out]; exact inv_pos HI.out (by omega) (.inl ⟨rfl, .inr hl2⟩) (.inl ⟨rfl, hm⟩)
                    clear HI HNx
                    go_wp2
                    go_round
                    case rel => exact ⟨j + 1, X, X, b, by omega, by go_num, rfl, rfl, rfl, HI2⟩
                    case measure => simp [intOf]; omega
                  · have HI2 : Hid (Inv (rksTo g0 p (j + 1)) X m b) := by unfold Hid; rw [HNx.out]; exact inv_pos HI.out (by omega) (.inl ⟨rfl, .inr hl2⟩) (.inr ⟨rfl, hm⟩)
                    clear HI HNx
                    go_wp2
                    go_round
                    case rel => exact ⟨j + 1, X, m, b, by omega, by go_num, rfl, rfl, rfl, HI2⟩
                    case measure => simp [intOf]; omega
                · by_cases hm : X > m
                  · have HI2 : Hid (Inv (rksTo g0 p (j + 1)) l X b) := by unfold Hid; rw [HNx.out]; exact inv_pos HI.out (by omega) (.inr ⟨rfl, hl, hl2⟩) (.inl ⟨rfl, hm⟩)
                    clear HI HNx
                    go_wp2
                    go_round
                    case rel => exact ⟨j + 1, l, X, b, by omega, by go_num, rfl, rfl, rfl, HI2⟩
                    case measure => simp [intOf]; omega
                  · have HI2 : Hid (Inv (rksTo g0 p (j + 1)) l m b) := by unfold Hid; rw [HNx.out]; exact inv_pos HI.out (by omega) (.inr ⟨rfl, hl, hl2⟩) (.inr ⟨rfl, hm⟩)
                    clear HI HNx
                    go_wp2
                    go_round
                    case rel => exact ⟨j + 1, l, m, b, by omega, by go_num, rfl, rfl, rfl, HI2⟩
                    case measure => simp [intOf]; omega
          · have hI := HRl.out j l m b (by omega) HI.out
            have hfo := (HG.out.fit p HPn.out).own
            have hoc := VA.out.own_at hlt
            have hgc := VA.out.goal_at hlt
            have hpc := rw_cell rk.out (fT_get (rank g0) hlt)
            have hw := inv_want HG.out HPn.out hI
            have hgl := (rank_goal HG.out HPn.out).2
            have e3 : ¬ (j : Int) < (r.length : Int) := by omega
            clear hI HI HRl HZ HGo HR
            obtain ⟨o, ho⟩ : ∃ o, ownA g0 p = o := ⟨_, rfl⟩
            rw [ho] at hfo hoc hw
            clear ho
            rcases hg : goalA g0 p with _ | _
            · rw [hg] at hgc
              have hw := hw hg
              rcases hfo with rfl | rfl
              · by_cases hl : 0 ≤ l
                · have hk := hw.1 rfl hl
                  rw [hk] at hpc
                  clear hw hgl hk
                  go_wp2
                  go_round
                  case rel => exact ⟨p + 1, by omega, by go_num⟩
                  case measure => simp [intOf]; omega
                · have hk := hw.2.1 rfl (by omega)
                  rw [hk] at hpc
                  clear hw hgl hk
                  go_wp2
                  go_round
                  case rel => exact ⟨p + 1, by omega, by go_num⟩
                  case measure => simp [intOf]; omega
              · rcases b with _ | _
                · have hk := hw.2.2.2 rfl rfl
                  rw [hk] at hpc
                  clear hw hgl hk
                  go_wp2
                  go_round
                  case rel => exact ⟨p + 1, by omega, by go_num⟩
                  case measure => simp [intOf]; omega
                · have hk := hw.2.2.1 rfl rfl
                  rw [hk] at hpc
                  clear hw hgl hk
                  go_wp2
                  go_round
                  case rel => exact ⟨p + 1, by omega, by go_num⟩
                  case measure => simp [intOf]; omega
            · rw [hg] at hgc
              rcases hfo with rfl | rfl
              · by_cases hl : 0 ≤ l
                · have hk := hgl hg
                  rw [hk] at hpc
                  clear hw hgl hk
                  go_wp2
                  go_round
                  case rel => exact ⟨p + 1, by omega, by go_num⟩
                  case measure => simp [intOf]; omega
                · have hk := hgl hg
                  rw [hk] at hpc
                  clear hw hgl hk
                  go_wp2
                  go_round
                  case rel => exact ⟨p + 1, by omega, by go_num⟩
                  case measure => simp [intOf]; omega
              · rcases b with _ | _
                · have hk := hgl hg
                  rw [hk] at hpc
                  clear hw hgl hk
                  go_wp2
                  go_round
                  case rel => exact ⟨p + 1, by omega, by go_num⟩
                  case measure => simp [intOf]; omega
                · have hk := hgl hg
                  rw [hk] at hpc
                  clear hw hgl hk
                  go_wp2
                  go_round
                  case rel => exact ⟨p + 1, by omega, by go_num⟩
                  case measure => simp [intOf]; omega
      · go_wp2
        go_ret
        exact ⟨rfl, B.out⟩
  · obtain ⟨x, hx⟩ := errA_bad g1
    obtain ⟨O, co, A, c, F, cf, rfl, h⟩ := h0
    obtain ⟨u, hu, hb0, hX, ha⟩ := box_ar w h
    have B := Lib.hid hb0
    have W0 := Lib.hid hu
    have VX := Lib.hid hX
    have VH := Lib.hid (show ArAt u u.heap.size (.agg #[.slice O g0.own.length co, .slice A g0.next.length c, .slice F g0.goal.length cf]) g0 from ⟨O, co, A, c, F, cf, rfl, ha⟩)
    have HRk := Lib.hid (fun W v (h : ArAt W W.heap.size v g0) => ranks_bad v g0 W h hx)
    have HMv := Lib.hid (fun W v (h : ArAt W W.heap.size v g0) => moves_bad v g0 W h hx)
    clear hX hu hb0 ha h hx
    generalize g0.next.length = n at *
    generalize g0.own.length = no at *
    generalize g0.goal.length = ng at *
    go_enter Try.func5, Try.ntmps5
    go_wp2_with fail
    rw [← W0.out]
    clear W0
    refine (HF.out _).mono ?_
    rintro e u1 ⟨rfl, hb⟩
    have VH := Lib.hid (VH.out.on hb)
    have VX := Lib.hid (VX.out.on hb)
    have B := Lib.hid (B.out.trans (hb.mono B.out.size))
    clear hb HF
    have c0 := VX.out.c0
    have c1 := VX.out.c1
    have c2 := VX.out.c2
    go_wp2_with fail
    refine (HRk.out _ _ VH.out).mono ?_
    rintro e u2 ⟨rfl, hb⟩
    have VH := Lib.hid (VH.out.on hb)
    have VX := Lib.hid (VX.out.on hb)
    have B := Lib.hid (B.out.trans (hb.mono B.out.size))
    clear hb c0 c1 c2 HRk
    go_wp2
    go_ret
    exact ⟨rfl, B.out⟩


set_option maxRecDepth 100000 in
theorem lifted (os : Os) (started : os.Started) (H : Type) (enc : TypeId × Value → H) :
    ReturnsInHanded {} Try.checked os 5 .any (Rows.duelStepSpec.pre6 enc Try.prog Try.f5 Rows.duelStepRow.domain false) (Rows.duelStepSpec.post enc Try.prog Try.f5 false true false false) := by
  refine returnsInHanded_of_change_sized (C := Try.checked) own started (by kernel_rfl) Try.func5
    (ChangeSpec.witness6 (enc := enc) (C := Try.checked) false ⟨#[], #[.agg #[.slice none 0 0, .slice none 0 0, .slice none 0 0]], []⟩ 8 (by kernel_rfl) (by kernel_rfl) (by kernel_rfl) (by kernel_rfl)) ?_
  intro W base args ds gs before hval0 hW hcnd hsz0 _
  have hval : ∀ (j : Nat) t v, Try.f5.params[j]? = some t → args[j]? = some v → Value.okWide Try.prog W .any base t v := hval0
  have hsz : (DataW.weightsEach Try.prog (Try.f5.params.toList ++ Rows.duelStepSpec.plain.varTypes Try.prog) (ds ++ gs)).all (· ≤ reachBytes) = true := hsz0
  have hW' := hW
  obtain ⟨p, q, hA0, hV0, rfl, hfz, hnd⟩ := hW
  have hV : DataW.TrodVars enc Try.prog W (fun _ => true) [] gs q := hV0
  have hA : DataW.TrodAll enc Try.prog W 0 (fun _ => true) true Try.f5.params.toList args.toList ds p := hA0
  rw [Try.params5] at hA hval hsz
  obtain ⟨v0, vs0, d0, ds0, p0, q0, hargs, rfl, rfl, h0, rr0⟩ := trodAll_cons hA
  obtain ⟨rfl, rfl, rfl⟩ := trodAll_nil rr0
  obtain rfl : args = #[v0] := by cases args; simp_all
  obtain ⟨rfl, rfl⟩ := trodVars_none hV
  have k0 := h0
  have lt0 : ∀ x ∈ p0, x.block < W.heap.size := by obtain ⟨m, hm⟩ := k0; exact DataW.trod_lt m _ _ _ hm
  obtain ⟨D0, x0⟩ : ∃ g : Du.Ar, Du.ArAt W W.heap.size v0 g := Du.ar_open (hval 0 26 v0 rfl rfl) h0
  clear hA0 hval0
  refine (walk v0 D0 W x0).mono fun e W' ⟨he, bel⟩ => ?_
  subst he
  exact ⟨_, rfl, _, _, _, [], _, [], hW', trodAll_mk1 (shut_bool Try.underlying4 _), (trodAll_cons_mk (Below.trod laidOut (by kernel_rfl) (of_decide_eq_true (by kernel_rfl)) k0 bel lt0) trodAll_mk0), rfl, bel.frame _, fun h => by cases h⟩

theorem over : Rows.duelStepRow.holds Try.pinned (OpenSpec.ofChange Rows.duelStepSpec) :=
  OpenClaim.holds_of_wide 5 Try.f5 rfl rfl rfl rfl rfl rfl rfl ⟨rfl, rfl, rfl, rfl, rfl⟩ rfl rfl rfl rfl rfl (by kernel_rfl) Try.func5 (by kernel_rfl)
    (of_decide_eq_true (by kernel_rfl)) (by unfold Func.isWrapper; rw [if_neg (of_decide_eq_false (by kernel_rfl))]; exact ⟨rfl, rfl⟩)
    (fun os started H enc _ => lifted os started H enc)
theorem proved : Rows.DuelStepSaid := over
#print axioms proved
end Go.Proofs.Ytkphdegelhlpeaa.duelStep
