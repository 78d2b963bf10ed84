/-
  The statement SafePartsSaid of this seat, proved: for every input the law returns true and its arguments read behind the call as before. Conditions: none but the row's own (each argument within the reach).
-/
import Derived.Test.YtneklknhanfcgaaRows
import Derived.Test.YtneklknhanfcgaaWords
import Derived.WalkKit
import Derived.ProofKit
import Derived.OpenShut
import Derived.ShutString
import Derived.ChangeOld
import Derived.Below
import Derived.SizedLaws
import Derived.Lib.Hide
import Derived.Test.YtneklknhanfcgaaSafeL
import Derived.Test.YtneklknhanfcgaaFew
namespace Go.Proofs.Ytneklknhanfcgaa.safeParts
open Go.ChangeShapes Go.WideShapes Go.ChangeAt Go.RowKit Go.IntWalk Go.Proofs.Ytneklknhanfcgaa.Wd
open Go.ChangeMaps (open_string shut_string)
set_option linter.unusedVariables false

theorem own : ownKnob Try.prog.godebug = none := by kernel_rfl
theorem laidOut : laidOutB Try.prog = true := by kernel_rfl
open Go.Proofs.Ytneklknhanfcgaa.Wo Go.Proofs.Ytneklknhanfcgaa.Df Go.Proofs.Ytneklknhanfcgaa.Rc Go.Proofs.Ytneklknhanfcgaa.Sm Go.Proofs.Ytneklknhanfcgaa.Mp Go.Proofs.Ytneklknhanfcgaa.Sa

set_option maxRecDepth 100000 in
set_option maxHeartbeats 4000000 in
theorem walk (v0 : Value) (d0 : Df.Aut) (A1 : Option Addr) (c1 : Nat) (z1 : List Int) (w : World) (h0 : Df.DfaAt w w.heap.size v0 d0) (v1 : IntsAt w w.heap.size A1 z1) (r1 : z1.length ≤ 17592186043904) (m1 : z1.length ≤ c1) :
    Calls Try.prog 3 #[v0, .slice A1 z1.length c1] w fun e w' => e = .returned (.bool true) ∧ Below w.heap.size w w' := by
  have hr : z1.length ≤ 17592186044416 := by omega
  obtain ⟨L0, s0, A0, n0, c0, F0, m0, k0, rfl⟩ := h0.form
  have hN0 := h0.eqs.2.2.1
  obtain ⟨u0, hu0, hb0, VA0⟩ := var_new w h0
  have VA := Lib.hid VA0
  have B := Lib.hid hb0
  have W0 := Lib.hid hu0
  have HN0 := Lib.hid hN0
  have Z := Lib.hid (v1.on hb0)
  clear VA0 hb0 hu0 h0 hN0 v1
  clear m1 r1
  have HK := Lib.hid Sa.known_any
  by_cases ga : accErr d0 z1 = 0
  · obtain ⟨Ga, fa⟩ := accErr_good ga
    have fw := fine_word fa
    have gp := judge_good (f := preF) Ga
    have gr := judge_good (f := restF) Ga
    have fp : Wo.Fine (preA d0).L z1 := fa
    have fr : Wo.Fine (restA d0).L z1 := fa
    obtain ⟨x, hx⟩ : ∃ x, accA (preA d0) z1 = x := ⟨_, rfl⟩
    obtain ⟨y, hy⟩ : ∃ y, accA (restA d0) z1 = y := ⟨_, rfl⟩
    have hb : accA d0 z1 = (x && y) := by rw [← hx, ← hy]; exact parts Ga fw
    have HA := Lib.hid (fun W v (h : DfaAt W W.heap.size v d0) (hZ : IntsAt W W.heap.size A1 z1) => acc_gives (cz := c1) (E := .nilIface) h hZ hr ((accOut_ok Ga fa).trans (hb)) (congrArg errV (accErr_ok Ga fa)))
    have HP := Lib.hid (fun W v (h : DfaAt W W.heap.size v d0) => pre_gives (E := .nilIface) h (mkO_ok Ga) rfl)
    have HR := Lib.hid (fun W v (h : DfaAt W W.heap.size v d0) => rest_gives (E := .nilIface) h (mkO_ok Ga) rfl)
    have HX := Lib.hid (fun W v (h : DfaAt W W.heap.size v (preA d0)) (hZ : IntsAt W W.heap.size A1 z1) => acc_gives (cz := c1) (E := .nilIface) h hZ hr ((accOut_ok gp fp).trans (hx)) (congrArg errV (accErr_ok gp fp)))
    have HY := Lib.hid (fun W v (h : DfaAt W W.heap.size v (restA d0)) (hZ : IntsAt W W.heap.size A1 z1) => acc_gives (cz := c1) (E := .nilIface) h hZ hr ((accOut_ok gr fr).trans (hy)) (congrArg errV (accErr_ok gr fr)))
    have hcl : classA (preA d0) = 1 ∨ classA (preA d0) = 3 := by have := class_le (preA d0); have := (class_odd (preA d0)).2 (begunB_pre Ga); omega
    have HC := Lib.hid (fun W v (h : DfaAt W W.heap.size v (preA d0)) => cls_gives (E := .nilIface) h (clsOut_ok gp) rfl)
    have hlen : (upto (restA d0).next.length (isAlive (restA d0))).length = d0.next.length := upto_all fun s hs => rest_alive Ga hs
    have hsm := upto_small gr.n40 (isAlive (restA d0))
    have HL := Lib.hid (fun W v (h : DfaAt W W.heap.size v (restA d0)) => givesI_of (E := .nilIface) (out := aliveR (restA d0)) (alive_any v _ W h) (by rw [aliveR_ok (dchk_iff.2 gr)]; rfl) (by rw [aliveR_ok (dchk_iff.2 gr)]) hsm)
    have hln : (upto (restA d0).next.length (isAlive (restA d0))).length = n0 := by rw [hlen]; exact HN0.out
    have hnn : ((n0 : Int) == (n0 : Int)) = true := beq_self_eq_true _
    clear ga Ga fa fw gp gr fp fr hx hy hb hlen hsm hr HN0
    generalize upto (restA d0).next.length (isAlive (restA d0)) = U at *
    generalize classA (preA d0) = n at *
    generalize preA d0 = P at *
    generalize restA d0 = R at *
    have hl1 : U.length ≤ n0 := by omega
    have hl2 : n0 ≤ U.length := by omega
    have HU := Lib.hid hln
    clear hln
    rcases hcl with rfl | rfl <;> rcases x with _ | _ <;> rcases y with _ | _
    all_goals as_aux_lemma =>
      go_enter Try.func3, Try.ntmps3
      go_wp2_with fail
      rw [← W0.out]
      clear W0
      refine (HK.out _).mono ?_
      rintro e u1 ⟨rfl, hb⟩
      have Z := Lib.hid (Z.out.on hb)
      have VA := Lib.hid (VA.out.on hb)
      have B := Lib.hid (B.out.trans (hb.mono B.out.size))
      clear hb  HK
      obtain ⟨p0, p1, p2, p3, p4⟩ := VA.out.box
      go_wp2_with fail
      refine (HA.out _ _ VA.out.at_ Z.out).mono ?_
      rintro e u2 ⟨rfl, hb⟩
      have Z := Lib.hid (Z.out.on hb)
      have VA := Lib.hid (VA.out.on hb)
      have B := Lib.hid (B.out.trans (hb.mono B.out.size))
      clear hb p0 p1 p2 p3 p4 HA
      obtain ⟨p0, p1, p2, p3, p4⟩ := VA.out.box
      go_wp2_with fail
      refine (HP.out _ _ VA.out.at_).mono ?_
      rintro e u3 ⟨L13, s13, A13, n13, c13, F13, m13, k13, rfl, hd, hb⟩
      have Z := Lib.hid (Z.out.on hb)
      have VA := Lib.hid (VA.out.on hb)
      have B := Lib.hid (B.out.trans (hb.mono B.out.size))
      clear hb p0 p1 p2 p3 p4 HP
      obtain ⟨x3, hx3, hbn, Vn⟩ := var_new u3 hd.out
      have VP := Lib.hid Vn
      have Z := Lib.hid (Z.out.on hbn)
      have VA := Lib.hid (VA.out.on hbn)
      have B := Lib.hid (B.out.trans (hbn.mono B.out.size))
      clear hbn Vn hd
      obtain ⟨p0, p1, p2, p3, p4⟩ := VA.out.box
      rw [hx3] at p1 p2 p3 p4
      have HX := Lib.hid hx3
      clear hx3
      go_wp2_with fail
      rw [← HX.out]
      clear HX
      refine (HR.out _ _ VA.out.at_).mono ?_
      rintro e u4 ⟨L14, s14, A14, n14, c14, F14, m14, k14, rfl, hd, hb⟩
      have Z := Lib.hid (Z.out.on hb)
      have VA := Lib.hid (VA.out.on hb)
      have VP := Lib.hid (VP.out.on hb)
      have B := Lib.hid (B.out.trans (hb.mono B.out.size))
      clear hb p0 p1 p2 p3 p4 HR
      obtain ⟨x4, hx4, hbn, Vn⟩ := var_new u4 hd.out
      have VR := Lib.hid Vn
      have Z := Lib.hid (Z.out.on hbn)
      have VA := Lib.hid (VA.out.on hbn)
      have VP := Lib.hid (VP.out.on hbn)
      have B := Lib.hid (B.out.trans (hbn.mono B.out.size))
      clear hbn Vn hd
      obtain ⟨p0, p1, p2, p3, p4⟩ := VP.out.box
      rw [hx4] at p1 p2 p3 p4
      have HX := Lib.hid hx4
      clear hx4
      go_wp2_with fail
      rw [← HX.out]
      clear HX
      refine (HX.out _ _ VP.out.at_ Z.out).mono ?_
      rintro e u5 ⟨rfl, hb⟩
      have Z := Lib.hid (Z.out.on hb)
      have VA := Lib.hid (VA.out.on hb)
      have VP := Lib.hid (VP.out.on hb)
      have VR := Lib.hid (VR.out.on hb)
      have B := Lib.hid (B.out.trans (hb.mono B.out.size))
      clear hb p0 p1 p2 p3 p4 HX
      obtain ⟨p0, p1, p2, p3, p4⟩ := VR.out.box
      go_wp2_with fail
      refine (HY.out _ _ VR.out.at_ Z.out).mono ?_
      rintro e u6 ⟨rfl, hb⟩
      have Z := Lib.hid (Z.out.on hb)
      have VA := Lib.hid (VA.out.on hb)
      have VP := Lib.hid (VP.out.on hb)
      have VR := Lib.hid (VR.out.on hb)
      have B := Lib.hid (B.out.trans (hb.mono B.out.size))
      clear hb p0 p1 p2 p3 p4 HY
      obtain ⟨p0, p1, p2, p3, p4⟩ := VP.out.box
      go_wp2_with fail
      refine (HC.out _ _ VP.out.at_).mono ?_
      rintro e u7 ⟨rfl, hb⟩
      have Z := Lib.hid (Z.out.on hb)
      have VA := Lib.hid (VA.out.on hb)
      have VP := Lib.hid (VP.out.on hb)
      have VR := Lib.hid (VR.out.on hb)
      have B := Lib.hid (B.out.trans (hb.mono B.out.size))
      clear hb p0 p1 p2 p3 p4 HC
      obtain ⟨p0, p1, p2, p3, p4⟩ := VR.out.box
      go_wp2_with fail
      refine (HL.out _ _ VR.out.at_).mono ?_
      rintro e u8 ⟨AHI, cHI, rfl, hI, hb⟩
      have HI := Lib.hid hI.out
      have Z := Lib.hid (Z.out.on hb)
      have VA := Lib.hid (VA.out.on hb)
      have VP := Lib.hid (VP.out.on hb)
      have VR := Lib.hid (VR.out.on hb)
      have B := Lib.hid (B.out.trans (hb.mono B.out.size))
      clear hb hI p0 p1 p2 p3 p4 HL
      rw [HU.out]
      obtain ⟨p0, p1, p2, p3, p4⟩ := VA.out.box
      clear VP VR HI Z
      go_wp2
      go_ret
      exact ⟨rfl, B.out⟩
  · obtain ⟨E, hE⟩ := errV_bad ga
    have HA := Lib.hid (fun W v (h : DfaAt W W.heap.size v d0) (hZ : IntsAt W W.heap.size A1 z1) => acc_gives (cz := c1) h hZ hr (b := accOut d0 z1) rfl hE)
    clear ga hE hr
    generalize accOut d0 z1 = b at *
    go_enter Try.func3, Try.ntmps3
    go_wp2_with fail
    rw [← W0.out]
    clear W0
    refine (HK.out _).mono ?_
    rintro e u1 ⟨rfl, hb⟩
    have Z := Lib.hid (Z.out.on hb)
    have VA := Lib.hid (VA.out.on hb)
    have B := Lib.hid (B.out.trans (hb.mono B.out.size))
    clear hb  HK
    obtain ⟨p0, p1, p2, p3, p4⟩ := VA.out.box
    go_wp2_with fail
    refine (HA.out _ _ VA.out.at_ Z.out).mono ?_
    rintro e u2 ⟨rfl, hb⟩
    have Z := Lib.hid (Z.out.on hb)
    have VA := Lib.hid (VA.out.on hb)
    have B := Lib.hid (B.out.trans (hb.mono B.out.size))
    clear hb p0 p1 p2 p3 p4 HA
    go_wp2
    go_ret
    exact ⟨rfl, B.out⟩


set_option maxRecDepth 100000 in
theorem lifted (os : Os) (started : os.Started) (H : Type) (enc : TypeId × Value → H) :
    ReturnsInHanded {} Try.checked os 3 .any (Rows.safePartsSpec.pre6 enc Try.prog Try.f3 Rows.safePartsRow.domain false) (Rows.safePartsSpec.post enc Try.prog Try.f3 false true false false) := by
  refine returnsInHanded_of_change_sized (C := Try.checked) own started (by kernel_rfl) Try.func3
    (ChangeSpec.witness6 (enc := enc) (C := Try.checked) false ⟨#[], #[.agg #[.int .i64 0, .int .i64 0, .slice none 0 0, .slice none 0 0], .slice none 0 0], []⟩ 8 (by kernel_rfl) (by kernel_rfl) (by kernel_rfl) (by kernel_rfl)) ?_
  intro W base args ds gs before hval0 hW hcnd hsz0 _
  have hval : ∀ (j : Nat) t v, Try.f3.params[j]? = some t → args[j]? = some v → Value.okWide Try.prog W .any base t v := hval0
  have hsz : (DataW.weightsEach Try.prog (Try.f3.params.toList ++ Rows.safePartsSpec.plain.varTypes Try.prog) (ds ++ gs)).all (· ≤ reachBytes) = true := hsz0
  have hW' := hW
  obtain ⟨p, q, hA0, hV0, rfl, hfz, hnd⟩ := hW
  have hV : DataW.TrodVars enc Try.prog W (fun _ => true) [] gs q := hV0
  have hA : DataW.TrodAll enc Try.prog W 0 (fun _ => true) true Try.f3.params.toList args.toList ds p := hA0
  rw [Try.params3] at hA hval hsz
  obtain ⟨v0, vs0, d0, ds0, p0, q0, hargs, rfl, rfl, h0, rr0⟩ := trodAll_cons hA
  obtain ⟨v1, vs1, d1, ds1, p1, q1, rfl, rfl, rfl, h1, rr1⟩ := trodAll_cons rr0
  obtain ⟨rfl, rfl, rfl⟩ := trodAll_nil rr1
  obtain rfl : args = #[v0, v1] := by cases args; simp_all
  obtain ⟨rfl, rfl⟩ := trodVars_none hV
  have k0 := h0
  have lt0 : ∀ x ∈ p0, x.block < W.heap.size := by obtain ⟨m, hm⟩ := k0; exact DataW.trod_lt m _ _ _ hm
  have k1 := h1
  have lt1 : ∀ x ∈ p1, x.block < W.heap.size := by obtain ⟨m, hm⟩ := k1; exact DataW.trod_lt m _ _ _ hm
  obtain ⟨D0, x0⟩ : ∃ d : Df.Aut, Df.DfaAt W W.heap.size v0 d := Df.dfa_open (hval 0 25 v0 rfl rfl) h0
  obtain ⟨A1, len1, c1, rfl⟩ := okWide_slice Try.underlying26 (hval 1 26 v1 rfl rfl)
  obtain ⟨z1, rfl, x1, r1, m1⟩ : ∃ zs : List Int, len1 = zs.length ∧ IntsAt W W.heap.size A1 zs ∧ zs.length ≤ 17592186043904 ∧ zs.length ≤ c1 := by
    obtain ⟨fuel, hf⟩ := h1
    rcases open_ints Try.underlying26 Try.underlying3 (by kernel_rfl) hf with ⟨hcs, _⟩ | ⟨x, l, c, zs, hcs, _, hl, hm, hz, hx, hcell, hwz⟩
    · simp [Value.cells] at hcs
      obtain ⟨rfl, rfl, rfl⟩ := hcs
      exact ⟨[], rfl, IntsAt.nil _ _ _, by simp, by simp⟩
    · simp [Value.cells] at hcs
      obtain ⟨rfl, rfl, rfl⟩ := hcs
      have hd := congrArg Prod.fst hx
      simp only at hd
      have := sized_slice hsz (j := 1) (t := 26) (e := 3) rfl (by rw [hd]; rfl) Try.underlying26
      rw [(show Try.prog.bytesOf 3 = 8 by kernel_rfl)] at this
      simp only [reachBytes, lits, List.length_map, List.length_take, List.length_drop] at this
      have hz' : zs.length = c1 := by simpa using hz
      exact ⟨zs.take len1, by rw [List.length_take]; omega, intsAt_of_open hcell hwz len1, by rw [List.length_take]; omega, by rw [List.length_take]; omega⟩
  clear hA0 hval0
  refine (walk v0 D0 A1 c1 z1 W x0 x1 r1 m1).mono fun e W' ⟨he, bel⟩ => ?_
  subst he
  exact ⟨_, rfl, _, _, _, [], _, [], hW', trodAll_mk1 (shut_bool Try.underlying4 _), (trodAll_cons_mk (Below.trod laidOut (by kernel_rfl) (of_decide_eq_true (by kernel_rfl)) k0 bel lt0) (trodAll_cons_mk (Below.trod laidOut (by kernel_rfl) (of_decide_eq_true (by kernel_rfl)) k1 bel lt1) trodAll_mk0)), rfl, bel.frame _, fun h => by cases h⟩

theorem over : Rows.safePartsRow.holds Try.pinned (OpenSpec.ofChange Rows.safePartsSpec) :=
  OpenClaim.holds_of_wide 3 Try.f3 rfl rfl rfl rfl rfl rfl rfl ⟨rfl, rfl, rfl, rfl, rfl⟩ rfl rfl rfl rfl rfl (by kernel_rfl) Try.func3 (by kernel_rfl)
    (of_decide_eq_true (by kernel_rfl)) (by unfold Func.isWrapper; rw [if_neg (of_decide_eq_false (by kernel_rfl))]; exact ⟨rfl, rfl⟩)
    (fun os started H enc _ => lifted os started H enc)
theorem proved : Rows.SafePartsSaid := over
#print axioms proved
end Go.Proofs.Ytneklknhanfcgaa.safeParts
