/-
  The statement DuelHidesSaid of this seat, proved: for every input the law returns true and its arguments read behind the call as before. Conditions: none but the row's own (each argument within the reach).
-/
import Derived.Test.YtkphdegelhlpeaaRows
import Derived.Test.YtkphdegelhlpeaaWords
import Derived.WalkKit
import Derived.ProofKit
import Derived.OpenShut
import Derived.ShutString
import Derived.ChangeOld
import Derived.Below
import Derived.SizedLaws
import Derived.Lib.Hide
import Derived.Test.YtkphdegelhlpeaaDuelS
namespace Go.Proofs.Ytkphdegelhlpeaa.duelHides
open Go.ChangeShapes Go.WideShapes Go.ChangeAt Go.RowKit Go.IntWalk Go.Proofs.Ytkphdegelhlpeaa.Wd
open Go.ChangeMaps (open_string shut_string)
set_option linter.unusedVariables false

theorem own : ownKnob Try.prog.godebug = none := by kernel_rfl
theorem laidOut : laidOutB Try.prog = true := by kernel_rfl
open Go.Proofs.Ytkphdegelhlpeaa.Wo Go.Proofs.Ytkphdegelhlpeaa.Df Go.Proofs.Ytkphdegelhlpeaa.Rc Go.Proofs.Ytkphdegelhlpeaa.Du

set_option maxRecDepth 100000 in
set_option maxHeartbeats 4000000 in
theorem walk (v0 : Value) (g0 : Du.Ar) (a1 : Int) (A2 : Option Addr) (c2 : Nat) (z2 : List Int) (w : World) (h0 : Du.ArAt w w.heap.size v0 g0) (l1 : -9223372036854775808 ≤ a1) (h1 : a1 ≤ 9223372036854775807) (v2 : IntsAt w w.heap.size A2 z2) (r2 : z2.length ≤ 17592186043904) (m2 : z2.length ≤ c2) :
    Calls Try.prog 4 #[v0, .int .i64 a1, .slice A2 z2.length c2] w fun e w' => e = .returned (.bool true) ∧ Below w.heap.size w w' := by
  have HF := Lib.hid duelFact_any
  by_cases g1 : achk g0 = 0
  · have gd := achk_iff.1 g1
    obtain ⟨ao, co, aa, c, af, cf, n, u, rfl, hu, hb0, hn1, hn4, hA⟩ := arG_new w h0 gd
    have B := Lib.hid hb0
    have W0 := Lib.hid hu
    have VA := Lib.hid hA
    have HRk := fun W (h : ArG W w.heap.size ao co aa c af cf g0 n) => ranks_gives h.at_ gd
    have HMv := fun W (h : ArG W w.heap.size ao co aa c af cf g0 n) => moves_gives h.at_ gd
    have hlen := hA.len
    rw [hlen] at HRk HMv
    have HRk := Lib.hid HRk
    have HMv := Lib.hid HMv
    have HG := Lib.hid gd
    have HLen := Lib.hid hlen
    have Z := Lib.hid (v2.on hb0)
    clear hA hb0 hu h0 hlen g1 gd v2
    go_enter Try.func4, Try.ntmps4
    go_wp2_with fail
    rw [← W0.out]
    clear W0
    refine (HF.out _).mono ?_
    rintro e u1 ⟨rfl, hb⟩
    have Z := Lib.hid (Z.out.on hb)
    have VA := Lib.hid (VA.out.on hb)
    have B := Lib.hid (B.out.trans (hb.mono B.out.size))
    clear hb HF
    have c0 := VA.out.box.c0
    have c1 := VA.out.box.c1
    have c2 := VA.out.box.c2
    go_wp2_with fail
    refine (HRk.out _ VA.out).mono ?_
    rintro e u2 ⟨grk, rfl, hi, hb⟩
    have rk := Lib.hid hi.out
    have Z := Lib.hid (Z.out.on hb)
    have VA := Lib.hid (VA.out.on hb)
    have B := Lib.hid (B.out.trans (hb.mono B.out.size))
    clear hb hi c0 c1 c2 HRk
    have c0 := VA.out.box.c0
    have c1 := VA.out.box.c1
    have c2 := VA.out.box.c2
    go_wp2_with fail
    refine (HMv.out _ VA.out).mono ?_
    rintro e u2 ⟨gmv, rfl, hi, hb⟩
    have mv := Lib.hid hi.out
    have rk := Lib.hid (rk.out.on hb)
    have Z := Lib.hid (Z.out.on hb)
    have VA := Lib.hid (VA.out.on hb)
    have B := Lib.hid (B.out.trans (hb.mono B.out.size))
    clear hb hi c0 c1 c2 HMv
    have c1 := VA.out.box.c1
    by_cases hp0 : a1 < 0
    · go_wp2
      go_ret
      exact ⟨rfl, B.out⟩
    by_cases hpn : a1 ≥ (n : Int)
    · go_wp2
      go_ret
      exact ⟨rfl, B.out⟩
    obtain ⟨p0, rfl⟩ := Int.eq_ofNat_of_zero_le (show 0 ≤ a1 by omega)
    have hlt0 : p0 < n := by omega
    have hpc := rw_cell rk.out (fT_get (rank g0) hlt0)
    obtain ⟨X, hX⟩ : ∃ X, rank g0 p0 = X := ⟨_, rfl⟩
    rw [hX] at hpc
    by_cases hr0 : X ≥ 0
    · go_wp2
      go_ret
      exact ⟨rfl, B.out⟩
    have HY : Hid (rank g0 p0 < 0) := by unfold Hid; rw [hX]; omega
    have HBY : Hid (Below u2.heap.size u2 u2) := Below.refl _ _
    clear hX
    go_wp2
    go_loopw [1, 13] (fun pv iv wr => ∃ (p i : Nat), p < n ∧ i ≤ z2.length ∧ i ≤ 200 ∧ pv = .int .i64 p ∧ iv = .int .i64 i ∧ Hid (rank g0 p < 0) ∧ Hid (Below u2.heap.size u2 wr)) (fun _ i _ => z2.length - (intOf i).toNat)
    case atStart => exact ⟨p0, 0, hlt0, by omega, by omega, rfl, rfl, HY, HBY⟩
    case round =>
      clear HY HBY hpc hlt0 hp0 hpn hr0 c1
      obtain ⟨p, i, hp, hi, hi2, rfl, rfl, HP, HB⟩ := hrel
      have VW := VA.out.on HB.out
      have hgc := VW.goal_at hp
      have hoc := VW.own_at hp
      have c0 := VW.box.c0
      have c1 := VW.box.c1
      have c2 := VW.box.c2
      obtain ⟨R, cr, hrc, hz, hr1, hr4, hgo⟩ := VW.row_at hp
      have hpl : p < g0.next.length := by rw [HLen.out]; exact hp
      have e1 : (p : Int) < (n : Int) := by omega
      rw [hide_goal HG.out hpl HP.out] at hgc
      have HBe := Lib.hid (B.out.trans (HB.out.mono B.out.size))
      clear VW
      by_cases hil : i < z2.length
      · have e4 : (i : Int) < (z2.length : Int) := by omega
        by_cases hi3 : i < 200
        · have e2 : (i : Int) < 200 := by omega
          rcases (HG.out.fit p hpl).own with ho | ho
          · have h1 := fun {q} (hq : q ∈ succs g0 p) => hide0 HG.out hpl ho HP.out hq
            rw [ho] at hoc
            have hyc := Z.out.on HB.out
            obtain ⟨adz, hAz, hzb, hyc, _⟩ := hyc.get (List.getElem?_eq_getElem hil)
            subst hAz
            have hyb := hyc
            generalize z2[i] = y at *
            by_cases hy : y > 0
            · obtain ⟨k0, hk0⟩ := Int.eq_ofNat_of_zero_le (show 0 ≤ y.tmod ((rowA g0 p).length : Int) from Int.tmod_nonneg _ (by omega))
              have hkl : k0 < (rowA g0 p).length := by
                have h5 := Int.tmod_lt_of_pos y (show (0 : Int) < ((rowA g0 p).length : Int) by omega)
                omega
              obtain ⟨q, hqn, hqr⟩ := row_get hgo (show k0 < (rowA g0 p).length by omega)
              have hqc := ints_cell hz hqr
              have HP2 : Hid (rank g0 q < 0) := h1 (row_succ hqr)
              clear hz hgo hqr h1 hpl
              generalize (rowA g0 p).length = rl at *
              have e5 : (k0 : Int) < (rl : Int) := by omega
              have HBd : Hid (∀ k, Below u2.heap.size u2 (wr.drewN k)) := fun k => below_drewN HB.out k
              clear HP ho
              go_wp2_with fail
              go_region
              all_goals
                go_wp2
                go_roundw
                case rel => exact ⟨q, i + 1, hqn, by omega, by omega, rfl, by go_num, HP2, HBd.out _⟩
                case measure => simp [intOf]; omega
            · obtain ⟨q, hqn, hqr⟩ := row_get hgo (show 0 < (rowA g0 p).length by omega)
              have hqc := ints_cell hz hqr
              have hqc0 : wr.cell? R = some (.int .i64 q) := by rw [← hqc, show R.add 0 = R from by rcases R with ⟨_, _, _⟩; simp [Addr.add]]
              have HP2 : Hid (rank g0 q < 0) := h1 (row_succ hqr)
              clear hz hgo hqr h1 hpl
              generalize (rowA g0 p).length = rl at *
              go_wp2
              go_roundw
              case rel => exact ⟨q, i + 1, hqn, by omega, by omega, rfl, by go_num, HP2, HB⟩
              case measure => simp [intOf]; omega
          · rw [ho] at hoc
            obtain ⟨q, hmq, hqs, hqr⟩ := move_hide HG.out hpl ho HP.out
            obtain ⟨jq, hjq, hjr⟩ := succ_row HG.out hpl hqs
            have hmc := rw_cell (mv.out.on HB.out) (fT_get (moveA g0) hp)
            rw [hmq] at hmc
            have hqn : q < n := by have := succ_lt HG.out hpl hqs; rw [HLen.out] at this; exact this
            have HP2 : Hid (rank g0 q < 0) := hqr
            have HZ := Lib.hid hz
            have HFin : Hid (∀ k b, (rowA g0 p).length ≤ k → ((rowA g0 p).take k).any (fun x => x == (q : Int)) = b → b = true) := fun k b hk h => by
              rw [List.take_of_length_le hk] at h
              rw [← h]
              exact List.any_eq_true.2 ⟨(q : Int), List.mem_of_getElem? hjr, by simp⟩
            have HY : Hid (((rowA g0 p).take 0).any (fun x => x == (q : Int)) = false) := rfl
            clear hz hgo hjr hjq hqs hmq hpl hqr ho HP
            obtain ⟨r, hr⟩ : ∃ r, rowA g0 p = r := ⟨_, rfl⟩
            rw [hr] at hrc hr1 hr4 HZ HFin HY
            clear hr
            go_wp2
            go_loop [15, 16] (fun bv kv => ∃ (k : Nat) (b : Bool), k ≤ r.length ∧ kv = .int .i64 k ∧ bv = .bool b ∧ Hid ((r.take k).any (fun x => x == (q : Int)) = b)) (fun _ kv => r.length - (intOf kv).toNat)
            case atStart => exact ⟨0, false, by omega, rfl, rfl, HY⟩
            case round =>
              clear HY
              obtain ⟨k, b, hk, rfl, rfl, HI⟩ := hrel
              by_cases hlk : k < r.length
              · have hxc := ints_cell HZ.out (List.getElem?_eq_getElem hlk)
                have hnx := any_take (r := r) (f := fun x => x == (q : Int)) hlk
                rw [HI.out] at hnx
                have e3 : (k : Int) < (r.length : Int) := by omega
                generalize r[k] = x at *
                rcases b with _ | _
                · obtain ⟨y, hy⟩ : ∃ y : Bool, (x == (q : Int)) = y := ⟨_, rfl⟩
                  have HNx : Hid ((r.take (k + 1)).any (fun x => x == (q : Int)) = y) := by unfold Hid; rw [hnx, hy]; rfl
                  clear hnx HI
                  rcases y with _ | _
                  · go_wp2
                    go_round
                    case rel => exact ⟨k + 1, false, by omega, by go_num, rfl, HNx⟩
                    case measure => simp [intOf]; omega
                  · go_wp2
                    go_round
                    case rel => exact ⟨k + 1, true, by omega, by go_num, rfl, HNx⟩
                    case measure => simp [intOf]; omega
                · have HNx : Hid ((r.take (k + 1)).any (fun x => x == (q : Int)) = true) := by unfold Hid; rw [hnx]; rfl
                  clear hnx HI
                  go_wp2
                  go_round
                  case rel => exact ⟨k + 1, true, by omega, by go_num, rfl, HNx⟩
                  case measure => simp [intOf]; omega
              · obtain rfl := HFin.out k b (by omega) HI.out
                have e3 : ¬ (k : Int) < (r.length : Int) := by omega
                clear HI HFin HZ
                go_wp2
                go_roundw
                case rel => exact ⟨q, i + 1, hqn, by omega, by omega, rfl, by go_num, HP2, HB⟩
                case measure => simp [intOf]; omega
        · have e2 : ¬ (i : Int) < 200 := by omega
          clear hz hgo hpl
          generalize (rowA g0 p).length = rl at *
          go_wp2
          go_ret
          exact ⟨rfl, HBe.out⟩
      · have e4 : ¬ (i : Int) < (z2.length : Int) := by omega
        clear hz hgo hpl
        generalize (rowA g0 p).length = rl at *
        go_wp2
        go_ret
        exact ⟨rfl, HBe.out⟩
  · obtain ⟨x, hx⟩ := errA_bad g1
    obtain ⟨O, co, A, c, F, cf, rfl, h⟩ := h0
    obtain ⟨u, hu, hb0, hX, ha⟩ := box_ar w h
    have B := Lib.hid hb0
    have W0 := Lib.hid hu
    have VX := Lib.hid hX
    have VH := Lib.hid (show ArAt u u.heap.size (.agg #[.slice O g0.own.length co, .slice A g0.next.length c, .slice F g0.goal.length cf]) g0 from ⟨O, co, A, c, F, cf, rfl, ha⟩)
    have HRk := Lib.hid (fun W v (h : ArAt W W.heap.size v g0) => ranks_bad v g0 W h hx)
    have HMv := Lib.hid (fun W v (h : ArAt W W.heap.size v g0) => moves_bad v g0 W h hx)
    clear hX hu hb0 ha h hx
    generalize g0.next.length = n at *
    generalize g0.own.length = no at *
    generalize g0.goal.length = ng at *
    go_enter Try.func4, Try.ntmps4
    go_wp2_with fail
    rw [← W0.out]
    clear W0
    refine (HF.out _).mono ?_
    rintro e u1 ⟨rfl, hb⟩
    have VH := Lib.hid (VH.out.on hb)
    have VX := Lib.hid (VX.out.on hb)
    have B := Lib.hid (B.out.trans (hb.mono B.out.size))
    clear hb HF
    have c0 := VX.out.c0
    have c1 := VX.out.c1
    have c2 := VX.out.c2
    go_wp2_with fail
    refine (HRk.out _ _ VH.out).mono ?_
    rintro e u2 ⟨rfl, hb⟩
    have VH := Lib.hid (VH.out.on hb)
    have VX := Lib.hid (VX.out.on hb)
    have B := Lib.hid (B.out.trans (hb.mono B.out.size))
    clear hb c0 c1 c2 HRk
    have c0 := VX.out.c0
    have c1 := VX.out.c1
    have c2 := VX.out.c2
    go_wp2_with fail
    refine (HMv.out _ _ VH.out).mono ?_
    rintro e u2 ⟨rfl, hb⟩
    have VH := Lib.hid (VH.out.on hb)
    have VX := Lib.hid (VX.out.on hb)
    have B := Lib.hid (B.out.trans (hb.mono B.out.size))
    clear hb c0 c1 c2 HMv
    go_wp2
    go_ret
    exact ⟨rfl, B.out⟩


set_option maxRecDepth 100000 in
theorem lifted (os : Os) (started : os.Started) (H : Type) (enc : TypeId × Value → H) :
    ReturnsInHanded {} Try.checked os 4 .any (Rows.duelHidesSpec.pre6 enc Try.prog Try.f4 Rows.duelHidesRow.domain false) (Rows.duelHidesSpec.post enc Try.prog Try.f4 false true false false) := by
  refine returnsInHanded_of_change_sized (C := Try.checked) own started (by kernel_rfl) Try.func4
    (ChangeSpec.witness6 (enc := enc) (C := Try.checked) false ⟨#[], #[.agg #[.slice none 0 0, .slice none 0 0, .slice none 0 0], .int .i64 0, .slice none 0 0], []⟩ 8 (by kernel_rfl) (by kernel_rfl) (by kernel_rfl) (by kernel_rfl)) ?_
  intro W base args ds gs before hval0 hW hcnd hsz0 _
  have hval : ∀ (j : Nat) t v, Try.f4.params[j]? = some t → args[j]? = some v → Value.okWide Try.prog W .any base t v := hval0
  have hsz : (DataW.weightsEach Try.prog (Try.f4.params.toList ++ Rows.duelHidesSpec.plain.varTypes Try.prog) (ds ++ gs)).all (· ≤ reachBytes) = true := hsz0
  have hW' := hW
  obtain ⟨p, q, hA0, hV0, rfl, hfz, hnd⟩ := hW
  have hV : DataW.TrodVars enc Try.prog W (fun _ => true) [] gs q := hV0
  have hA : DataW.TrodAll enc Try.prog W 0 (fun _ => true) true Try.f4.params.toList args.toList ds p := hA0
  rw [Try.params4] at hA hval hsz
  obtain ⟨v0, vs0, d0, ds0, p0, q0, hargs, rfl, rfl, h0, rr0⟩ := trodAll_cons hA
  obtain ⟨v1, vs1, d1, ds1, p1, q1, rfl, rfl, rfl, h1, rr1⟩ := trodAll_cons rr0
  obtain ⟨v2, vs2, d2, ds2, p2, q2, rfl, rfl, rfl, h2, rr2⟩ := trodAll_cons rr1
  obtain ⟨rfl, rfl, rfl⟩ := trodAll_nil rr2
  obtain rfl : args = #[v0, v1, v2] := by cases args; simp_all
  obtain ⟨rfl, rfl⟩ := trodVars_none hV
  have k0 := h0
  have lt0 : ∀ x ∈ p0, x.block < W.heap.size := by obtain ⟨m, hm⟩ := k0; exact DataW.trod_lt m _ _ _ hm
  have k1 := h1
  have lt1 : ∀ x ∈ p1, x.block < W.heap.size := by obtain ⟨m, hm⟩ := k1; exact DataW.trod_lt m _ _ _ hm
  have k2 := h2
  have lt2 : ∀ x ∈ p2, x.block < W.heap.size := by obtain ⟨m, hm⟩ := k2; exact DataW.trod_lt m _ _ _ hm
  obtain ⟨D0, x0⟩ : ∃ g : Du.Ar, Du.ArAt W W.heap.size v0 g := Du.ar_open (hval 0 26 v0 rfl rfl) h0
  obtain ⟨a1, rfl, rfl, rfl, w1⟩ := open_int Try.underlying3 (hval 1 3 v1 rfl rfl) h1
  obtain ⟨l1, hh1⟩ := bounds_i64 w1
  obtain ⟨A2, len2, c2, rfl⟩ := okWide_slice Try.underlying22 (hval 2 22 v2 rfl rfl)
  obtain ⟨z2, rfl, x2, r2, m2⟩ : ∃ zs : List Int, len2 = zs.length ∧ IntsAt W W.heap.size A2 zs ∧ zs.length ≤ 17592186043904 ∧ zs.length ≤ c2 := by
    obtain ⟨fuel, hf⟩ := h2
    rcases open_ints Try.underlying22 Try.underlying3 (by kernel_rfl) hf with ⟨hcs, _⟩ | ⟨x, l, c, zs, hcs, _, hl, hm, hz, hx, hcell, hwz⟩
    · simp [Value.cells] at hcs
      obtain ⟨rfl, rfl, rfl⟩ := hcs
      exact ⟨[], rfl, IntsAt.nil _ _ _, by simp, by simp⟩
    · simp [Value.cells] at hcs
      obtain ⟨rfl, rfl, rfl⟩ := hcs
      have hd := congrArg Prod.fst hx
      simp only at hd
      have := sized_slice hsz (j := 2) (t := 22) (e := 3) rfl (by rw [hd]; rfl) Try.underlying22
      rw [(show Try.prog.bytesOf 3 = 8 by kernel_rfl)] at this
      simp only [reachBytes, lits, List.length_map, List.length_take, List.length_drop] at this
      have hz' : zs.length = c2 := by simpa using hz
      exact ⟨zs.take len2, by rw [List.length_take]; omega, intsAt_of_open hcell hwz len2, by rw [List.length_take]; omega, by rw [List.length_take]; omega⟩
  clear hA0 hval0
  refine (walk v0 D0 a1 A2 c2 z2 W x0 l1 hh1 x2 r2 m2).mono fun e W' ⟨he, bel⟩ => ?_
  subst he
  exact ⟨_, rfl, _, _, _, [], _, [], hW', trodAll_mk1 (shut_bool Try.underlying4 _), (trodAll_cons_mk (Below.trod laidOut (by kernel_rfl) (of_decide_eq_true (by kernel_rfl)) k0 bel lt0) (trodAll_cons_mk (Below.trod laidOut (by kernel_rfl) (of_decide_eq_true (by kernel_rfl)) k1 bel lt1) (trodAll_cons_mk (Below.trod laidOut (by kernel_rfl) (of_decide_eq_true (by kernel_rfl)) k2 bel lt2) trodAll_mk0))), rfl, bel.frame _, fun h => by cases h⟩

theorem over : Rows.duelHidesRow.holds Try.pinned (OpenSpec.ofChange Rows.duelHidesSpec) :=
  OpenClaim.holds_of_wide 4 Try.f4 rfl rfl rfl rfl rfl rfl rfl ⟨rfl, rfl, rfl, rfl, rfl⟩ rfl rfl rfl rfl rfl (by kernel_rfl) Try.func4 (by kernel_rfl)
    (of_decide_eq_true (by kernel_rfl)) (by unfold Func.isWrapper; rw [if_neg (of_decide_eq_false (by kernel_rfl))]; exact ⟨rfl, rfl⟩)
    (fun os started H enc _ => lifted os started H enc)
theorem proved : Rows.DuelHidesSaid := over
#print axioms proved
end Go.Proofs.Ytkphdegelhlpeaa.duelHides
