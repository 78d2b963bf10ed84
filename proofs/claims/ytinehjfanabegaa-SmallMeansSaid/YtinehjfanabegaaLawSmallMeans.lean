/-
  The statement SmallMeansSaid of this seat, proved: for every input the law returns true and its arguments read behind the call as before. Conditions: none but the row's own (each argument within the reach).
-/
import Derived.Test.YtinehjfanabegaaRows
import Derived.Test.YtinehjfanabegaaWords
import Derived.WalkKit
import Derived.ProofKit
import Derived.OpenShut
import Derived.ShutString
import Derived.ChangeOld
import Derived.Below
import Derived.SizedLaws
import Derived.Lib.Hide
import Derived.Test.YtinehjfanabegaaMinV
import Derived.Test.YtinehjfanabegaaDfaK
namespace Go.Proofs.Ytinehjfanabegaa.smallMeans
open Go.ChangeShapes Go.WideShapes Go.ChangeAt Go.RowKit Go.IntWalk Go.Proofs.Ytinehjfanabegaa.Wd
open Go.ChangeMaps (open_string shut_string)
set_option linter.unusedVariables false

theorem own : ownKnob Try.prog.godebug = none := by kernel_rfl
theorem laidOut : laidOutB Try.prog = true := by kernel_rfl
open Go.Proofs.Ytinehjfanabegaa.Wo Go.Proofs.Ytinehjfanabegaa.Df Go.Proofs.Ytinehjfanabegaa.Rc Go.Proofs.Ytinehjfanabegaa.Sm Go.Proofs.Ytinehjfanabegaa.Mp

set_option maxRecDepth 100000 in
set_option maxHeartbeats 4000000 in
theorem walk (v0 : Value) (d0 : Df.Aut) (A1 : Option Addr) (c1 : Nat) (z1 : List Int) (w : World) (h0 : Df.DfaAt w w.heap.size v0 d0) (v1 : IntsAt w w.heap.size A1 z1) (r1 : z1.length ≤ 17592186043904) (m1 : z1.length ≤ c1) :
    Calls Try.prog 10 #[v0, .slice A1 z1.length c1] w fun e w' => e = .returned (.bool true) ∧ Below w.heap.size w w' := by
  have hr : z1.length ≤ 17592186044416 := by omega
  by_cases ga : accErr d0 z1 = 0
  · obtain ⟨Ga, fa⟩ := accErr_good ga
    have gt := min_good Ga
    have ft : Wo.Fine (minA d0).L z1 := fa
    have HA := Lib.hid (fun W v (h : DfaAt W W.heap.size v d0) (hZ : IntsAt W W.heap.size A1 z1) => acc_gives (cz := c1) (E := .nilIface) h hZ hr (accOut_ok Ga fa) (congrArg errV ga))
    have HM := Lib.hid (fun W v (h : DfaAt W W.heap.size v d0) => min_gives (E := .nilIface) h (minOut_ok (dchk_iff.2 Ga)) rfl)
    have HAm := Lib.hid (fun W v (h : DfaAt W W.heap.size v (minA d0)) (hZ : IntsAt W W.heap.size A1 z1) => acc_gives (cz := c1) (E := .nilIface) h hZ hr ((accOut_ok gt ft).trans (min_acc Ga (fine_word fa))) (congrArg errV (accErr_ok gt ft)))
    have HMm := Lib.hid (fun W v (h : DfaAt W W.heap.size v (minA d0)) => min_gives (E := .nilIface) h ((minOut_ok (dchk_iff.2 gt)).trans (by rw [min_min Ga])) rfl)
    have HS := Lib.hid (fun W v z (h : DfaAt W W.heap.size v d0) (h2 : DfaAt W W.heap.size z (minA d0)) => same_len (E := .nilIface) h h2 (sameOut_min Ga) rfl (n := 0) rfl)
    have HSm := Lib.hid (fun W v z (h : DfaAt W W.heap.size v (minA d0)) (h2 : DfaAt W W.heap.size z (minA d0)) => same_gives h h2 gt.lite rfl)
    have HSt : Hid ((minA d0).next.length ≤ d0.next.length) := min_states Ga
    clear ga Ga fa gt ft hr
    generalize minA d0 = T at *
    generalize accA d0 z1 = b at *
    have hbb : (b == b) = true := beq_self_eq_true _
    obtain ⟨L0, s0, A0, n0, c0, F0, m0, k0, rfl⟩ := h0.form
    have hN0 := h0.eqs.2.2.1
    obtain ⟨u0, hu0, hb0, VA0⟩ := var_new w h0
    have VA := Lib.hid VA0
    have B := Lib.hid hb0
    have W0 := Lib.hid hu0
    have Z := Lib.hid (v1.on hb0)
    have HN0 := Lib.hid hN0
    clear VA0 hb0 hu0 h0 v1 r1 m1 hN0
    go_enter Try.func10, Try.ntmps10
    go_wp2_with fail
    rw [← W0.out]
    refine (known_any _).mono ?_
    rintro e u1 ⟨rfl, hb⟩
    have VA := Lib.hid (VA.out.on hb)
    have Z := Lib.hid (Z.out.on hb)
    have B := Lib.hid (B.out.trans (hb.mono B.out.size))
    clear hb W0
    obtain ⟨p0, p1, p2, p3, p4⟩ := VA.out.box
    go_wp2_with fail
    refine (HA.out _ _ VA.out.at_ Z.out).mono ?_
    rintro e u2 ⟨rfl, hb⟩
    have VA := Lib.hid (VA.out.on hb)
    have Z := Lib.hid (Z.out.on hb)
    have B := Lib.hid (B.out.trans (hb.mono B.out.size))
    clear hb  p0 p1 p2 p3 p4 HA
    obtain ⟨p0, p1, p2, p3, p4⟩ := VA.out.box
    go_wp2_with fail
    refine (HM.out _ _ VA.out.at_).mono ?_
    rintro e u3 ⟨L13, s13, A13, n13, c13, F13, m13, k13, rfl, hd, hb⟩
    have VA := Lib.hid (VA.out.on hb)
    have Z := Lib.hid (Z.out.on hb)
    have B := Lib.hid (B.out.trans (hb.mono B.out.size))
    clear hb  p0 p1 p2 p3 p4 HM
    obtain ⟨x3, hx3, hb, Vn⟩ := var_new u3 hd.out
    have HX := Lib.hid hx3
    have Vn := Lib.hid Vn
    have VA := Lib.hid (VA.out.on hb)
    have Z := Lib.hid (Z.out.on hb)
    have B := Lib.hid (B.out.trans (hb.mono B.out.size))
    clear hb hd hx3
    go_wp2_with fail
    rw [← HX.out]
    clear HX
    have VM := Vn
    clear Vn
    refine (HAm.out _ _ VM.out.at_ Z.out).mono ?_
    rintro e u4 ⟨rfl, hb⟩
    have VA := Lib.hid (VA.out.on hb)
    have VM := Lib.hid (VM.out.on hb)
    have Z := Lib.hid (Z.out.on hb)
    have B := Lib.hid (B.out.trans (hb.mono B.out.size))
    clear hb  HAm
    have hn9 := VM.out.at_.eqs.2.2.1
    have hle : (n13 : Int) ≤ (n0 : Int) := by have := HSt.out; have := HN0.out; omega
    clear hn9 HSt HN0
    obtain ⟨p0, p1, p2, p3, p4⟩ := VM.out.box
    go_wp2_with fail
    refine (HMm.out _ _ VM.out.at_).mono ?_
    rintro e u5 ⟨L15, s15, A15, n15, c15, F15, m15, k15, rfl, hd, hb⟩
    have VA := Lib.hid (VA.out.on hb)
    have VM := Lib.hid (VM.out.on hb)
    have Z := Lib.hid (Z.out.on hb)
    have B := Lib.hid (B.out.trans (hb.mono B.out.size))
    clear hb  p0 p1 p2 p3 p4 HMm
    obtain ⟨p0, p1, p2, p3, p4⟩ := VA.out.box
    obtain ⟨q0, q1, q2, q3, q4⟩ := VM.out.box
    obtain ⟨x5, hx5, hb, Vn⟩ := var_new u5 hd.out
    have HX := Lib.hid hx5
    have Vn := Lib.hid Vn
    have VA := Lib.hid (VA.out.on hb)
    have VM := Lib.hid (VM.out.on hb)
    have Z := Lib.hid (Z.out.on hb)
    have B := Lib.hid (B.out.trans (hb.mono B.out.size))
    clear hb hd hx5
    go_wp2_with fail
    rw [← HX.out]
    clear HX
    have VG := Vn
    clear Vn
    refine (HS.out _ _ _ VA.out.at_ VM.out.at_).mono ?_
    rintro e u6 ⟨Au, cu, rfl, hb⟩
    have VA := Lib.hid (VA.out.on hb)
    have VM := Lib.hid (VM.out.on hb)
    have VG := Lib.hid (VG.out.on hb)
    have Z := Lib.hid (Z.out.on hb)
    have B := Lib.hid (B.out.trans (hb.mono B.out.size))
    clear hb  p0 p1 p2 p3 p4 q0 q1 q2 q3 q4 HS
    obtain ⟨p0, p1, p2, p3, p4⟩ := VG.out.box
    obtain ⟨q0, q1, q2, q3, q4⟩ := VM.out.box
    obtain ⟨r0, r1, r2, r3, r4⟩ := VA.out.box
    go_wp2_with fail
    refine (HSm.out _ _ _ VG.out.at_ VM.out.at_).mono ?_
    rintro e u7 ⟨rfl, hb⟩
    have VA := Lib.hid (VA.out.on hb)
    have VM := Lib.hid (VM.out.on hb)
    have VG := Lib.hid (VG.out.on hb)
    have Z := Lib.hid (Z.out.on hb)
    have B := Lib.hid (B.out.trans (hb.mono B.out.size))
    clear hb  p0 p1 p2 p3 p4 q0 q1 q2 q3 q4 r0 r1 r2 r3 r4 HSm
    go_wp2
    go_ret
    exact ⟨rfl, B.out⟩
  · obtain ⟨E, hE⟩ := errV_bad ga
    have HA := Lib.hid (fun W v (h : DfaAt W W.heap.size v d0) (hZ : IntsAt W W.heap.size A1 z1) => acc_gives (cz := c1) h hZ hr (b := accOut d0 z1) rfl hE)
    clear ga hE hr
    generalize accOut d0 z1 = b at *
    obtain ⟨L0, s0, A0, n0, c0, F0, m0, k0, rfl⟩ := h0.form
    have hN0 := h0.eqs.2.2.1
    obtain ⟨u0, hu0, hb0, VA0⟩ := var_new w h0
    have VA := Lib.hid VA0
    have B := Lib.hid hb0
    have W0 := Lib.hid hu0
    have Z := Lib.hid (v1.on hb0)
    have HN0 := Lib.hid hN0
    clear VA0 hb0 hu0 h0 v1 r1 m1 hN0
    go_enter Try.func10, Try.ntmps10
    go_wp2_with fail
    rw [← W0.out]
    refine (known_any _).mono ?_
    rintro e u1 ⟨rfl, hb⟩
    have VA := Lib.hid (VA.out.on hb)
    have Z := Lib.hid (Z.out.on hb)
    have B := Lib.hid (B.out.trans (hb.mono B.out.size))
    clear hb W0
    obtain ⟨p0, p1, p2, p3, p4⟩ := VA.out.box
    go_wp2_with fail
    refine (HA.out _ _ VA.out.at_ Z.out).mono ?_
    rintro e u2 ⟨rfl, hb⟩
    have VA := Lib.hid (VA.out.on hb)
    have Z := Lib.hid (Z.out.on hb)
    have B := Lib.hid (B.out.trans (hb.mono B.out.size))
    clear hb  p0 p1 p2 p3 p4 HA
    go_wp2
    go_ret
    exact ⟨rfl, B.out⟩


set_option maxRecDepth 100000 in
theorem lifted (os : Os) (started : os.Started) (H : Type) (enc : TypeId × Value → H) :
    ReturnsInHanded {} Try.checked os 10 .any (Rows.smallMeansSpec.pre6 enc Try.prog Try.f10 Rows.smallMeansRow.domain false) (Rows.smallMeansSpec.post enc Try.prog Try.f10 false true false false) := by
  refine returnsInHanded_of_change_sized (C := Try.checked) own started (by kernel_rfl) Try.func10
    (ChangeSpec.witness6 (enc := enc) (C := Try.checked) false ⟨#[], #[.agg #[.int .i64 0, .int .i64 0, .slice none 0 0, .slice none 0 0], .slice none 0 0], []⟩ 8 (by kernel_rfl) (by kernel_rfl) (by kernel_rfl) (by kernel_rfl)) ?_
  intro W base args ds gs before hval0 hW hcnd hsz0 _
  have hval : ∀ (j : Nat) t v, Try.f10.params[j]? = some t → args[j]? = some v → Value.okWide Try.prog W .any base t v := hval0
  have hsz : (DataW.weightsEach Try.prog (Try.f10.params.toList ++ Rows.smallMeansSpec.plain.varTypes Try.prog) (ds ++ gs)).all (· ≤ reachBytes) = true := hsz0
  have hW' := hW
  obtain ⟨p, q, hA0, hV0, rfl, hfz, hnd⟩ := hW
  have hV : DataW.TrodVars enc Try.prog W (fun _ => true) [] gs q := hV0
  have hA : DataW.TrodAll enc Try.prog W 0 (fun _ => true) true Try.f10.params.toList args.toList ds p := hA0
  rw [Try.params10] at hA hval hsz
  obtain ⟨v0, vs0, d0, ds0, p0, q0, hargs, rfl, rfl, h0, rr0⟩ := trodAll_cons hA
  obtain ⟨v1, vs1, d1, ds1, p1, q1, rfl, rfl, rfl, h1, rr1⟩ := trodAll_cons rr0
  obtain ⟨rfl, rfl, rfl⟩ := trodAll_nil rr1
  obtain rfl : args = #[v0, v1] := by cases args; simp_all
  obtain ⟨rfl, rfl⟩ := trodVars_none hV
  have k0 := h0
  have lt0 : ∀ x ∈ p0, x.block < W.heap.size := by obtain ⟨m, hm⟩ := k0; exact DataW.trod_lt m _ _ _ hm
  have k1 := h1
  have lt1 : ∀ x ∈ p1, x.block < W.heap.size := by obtain ⟨m, hm⟩ := k1; exact DataW.trod_lt m _ _ _ hm
  obtain ⟨D0, x0⟩ : ∃ d : Df.Aut, Df.DfaAt W W.heap.size v0 d := Df.dfa_open (hval 0 25 v0 rfl rfl) h0
  obtain ⟨A1, len1, c1, rfl⟩ := okWide_slice Try.underlying26 (hval 1 26 v1 rfl rfl)
  obtain ⟨z1, rfl, x1, r1, m1⟩ : ∃ zs : List Int, len1 = zs.length ∧ IntsAt W W.heap.size A1 zs ∧ zs.length ≤ 17592186043904 ∧ zs.length ≤ c1 := by
    obtain ⟨fuel, hf⟩ := h1
    rcases open_ints Try.underlying26 Try.underlying3 (by kernel_rfl) hf with ⟨hcs, _⟩ | ⟨x, l, c, zs, hcs, _, hl, hm, hz, hx, hcell, hwz⟩
    · simp [Value.cells] at hcs
      obtain ⟨rfl, rfl, rfl⟩ := hcs
      exact ⟨[], rfl, IntsAt.nil _ _ _, by simp, by simp⟩
    · simp [Value.cells] at hcs
      obtain ⟨rfl, rfl, rfl⟩ := hcs
      have hd := congrArg Prod.fst hx
      simp only at hd
      have := sized_slice hsz (j := 1) (t := 26) (e := 3) rfl (by rw [hd]; rfl) Try.underlying26
      rw [(show Try.prog.bytesOf 3 = 8 by kernel_rfl)] at this
      simp only [reachBytes, lits, List.length_map, List.length_take, List.length_drop] at this
      have hz' : zs.length = c1 := by simpa using hz
      exact ⟨zs.take len1, by rw [List.length_take]; omega, intsAt_of_open hcell hwz len1, by rw [List.length_take]; omega, by rw [List.length_take]; omega⟩
  clear hA0 hval0
  refine (walk v0 D0 A1 c1 z1 W x0 x1 r1 m1).mono fun e W' ⟨he, bel⟩ => ?_
  subst he
  exact ⟨_, rfl, _, _, _, [], _, [], hW', trodAll_mk1 (shut_bool Try.underlying4 _), (trodAll_cons_mk (Below.trod laidOut (by kernel_rfl) (of_decide_eq_true (by kernel_rfl)) k0 bel lt0) (trodAll_cons_mk (Below.trod laidOut (by kernel_rfl) (of_decide_eq_true (by kernel_rfl)) k1 bel lt1) trodAll_mk0)), rfl, bel.frame _, fun h => by cases h⟩

theorem over : Rows.smallMeansRow.holds Try.pinned (OpenSpec.ofChange Rows.smallMeansSpec) :=
  OpenClaim.holds_of_wide 10 Try.f10 rfl rfl rfl rfl rfl rfl rfl ⟨rfl, rfl, rfl, rfl, rfl⟩ rfl rfl rfl rfl rfl (by kernel_rfl) Try.func10 (by kernel_rfl)
    (of_decide_eq_true (by kernel_rfl)) (by unfold Func.isWrapper; rw [if_neg (of_decide_eq_false (by kernel_rfl))]; exact ⟨rfl, rfl⟩)
    (fun os started H enc _ => lifted os started H enc)
theorem proved : Rows.SmallMeansSaid := over
#print axioms proved
end Go.Proofs.Ytinehjfanabegaa.smallMeans
