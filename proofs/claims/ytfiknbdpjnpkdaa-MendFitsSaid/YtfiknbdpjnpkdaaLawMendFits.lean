/-
  The statement MendFitsSaid of this seat, proved: for every input the law returns true and its arguments read behind the call as before. Conditions: none but the row's own (each argument within the reach).
-/
import Derived.Test.YtfiknbdpjnpkdaaRows
import Derived.Test.YtfiknbdpjnpkdaaWords
import Derived.WalkKit
import Derived.ProofKit
import Derived.OpenShut
import Derived.ShutString
import Derived.ChangeOld
import Derived.Below
import Derived.SizedLaws
import Derived.Lib.Hide
import Derived.Test.YtfiknbdpjnpkdaaMendV
import Derived.Test.YtfiknbdpjnpkdaaNearK
import Derived.Test.YtfiknbdpjnpkdaaDfaV
namespace Go.Proofs.Ytfiknbdpjnpkdaa.mendFits
open Go.ChangeShapes Go.WideShapes Go.ChangeAt Go.RowKit Go.IntWalk Go.Proofs.Ytfiknbdpjnpkdaa.Wd
open Go.ChangeMaps (open_string shut_string)
set_option linter.unusedVariables false

theorem own : ownKnob Try.prog.godebug = none := by kernel_rfl
theorem laidOut : laidOutB Try.prog = true := by kernel_rfl
open Go.Proofs.Ytfiknbdpjnpkdaa.Wo Go.Proofs.Ytfiknbdpjnpkdaa.Df Go.Proofs.Ytfiknbdpjnpkdaa.Rc Go.Proofs.Ytfiknbdpjnpkdaa.Ne Go.Proofs.Ytfiknbdpjnpkdaa.Me

set_option maxRecDepth 100000 in
set_option maxHeartbeats 4000000 in
theorem walk (v0 : Value) (d0 : Df.Aut) (A1 : Option Addr) (c1 : Nat) (z1 : List Int) (w : World) (h0 : Df.DfaAt w w.heap.size v0 d0) (v1 : IntsAt w w.heap.size A1 z1) (r1 : z1.length ≤ 17592186043904) (m1 : z1.length ≤ c1) :
    Calls Try.prog 3 #[v0, .slice A1 z1.length c1] w fun e w' => e = .returned (.bool true) ∧ Below w.heap.size w w' := by
  have hr : z1.length ≤ 17592186044416 := by omega
  obtain ⟨L0, s0, A0, n0, c0, F0, m0, k0, rfl⟩ := h0.form
  have hN0 := h0.eqs.2.2.1
  obtain ⟨u0, hu0, hb0, VA0⟩ := var_new w h0
  have VA := Lib.hid VA0
  have B := Lib.hid hb0
  have W0 := Lib.hid hu0
  have HN0 := Lib.hid hN0
  have Z := Lib.hid (v1.on hb0)
  clear VA0 hb0 hu0 h0 hN0 v1
  clear HN0
  have HF := Lib.hid mendFact_any
  have hL0 : d0.L = L0 := VA.out.at_.eqs.1
  rcases mendO2_ways d0 z1 with ⟨e, ha, hm, hc⟩ | ⟨ha, hx, hm, hc⟩ | ⟨x, ha, hx, hl, hm, hc⟩ | ⟨x, ha, hx, hl, hm, hc⟩
  · obtain ⟨E, hE⟩ := errV_bad (k := e + 1) (by omega)
    have HM := Lib.hid (fun W v Z cz (h : DfaAt W W.heap.size v d0) (hZ : IntsAt W W.heap.size Z z1) => mend_gives (cz := cz) (C := 0) (E := errI E) (l := []) h hZ hr hm rfl hE (fun x hx => by simp at hx))
    clear ha hm hc hE hL0 hr m1 r1 
    go_enter Try.func3, Try.ntmps3
    go_wp2_with fail
    rw [← W0.out]
    clear W0
    refine (HF.out _).mono ?_
    rintro e u1 ⟨rfl, hb⟩
    have Z := Lib.hid (Z.out.on hb)
    have VA := Lib.hid (VA.out.on hb)
    have B := Lib.hid (B.out.trans (hb.mono B.out.size))
    clear hb  HF
    obtain ⟨p0, p1, p2, p3, p4⟩ := VA.out.box
    go_wp2_with fail
    refine (HM.out _ _ _ _ VA.out.at_ Z.out).mono ?_
    rintro e u2 ⟨AI, cI, rfl, hI, hb⟩
    have Z := Lib.hid (Z.out.on hb)
    have VA := Lib.hid (VA.out.on hb)
    have B := Lib.hid (B.out.trans (hb.mono B.out.size))
    clear hb p0 p1 p2 p3 p4 HM
    clear hI
    go_wp2
    go_ret
    exact ⟨rfl, B.out⟩
  · obtain ⟨E, hE⟩ := errV_bad (k := 5) (by omega)
    have HM := Lib.hid (fun W v Z cz (h : DfaAt W W.heap.size v d0) (hZ : IntsAt W W.heap.size Z z1) => mend_gives (cz := cz) (C := 0) (E := errI E) (l := []) h hZ hr hm rfl hE (fun x hx => by simp at hx))
    clear ha hm hc hE hL0 hr m1 r1 hx 
    go_enter Try.func3, Try.ntmps3
    go_wp2_with fail
    rw [← W0.out]
    clear W0
    refine (HF.out _).mono ?_
    rintro e u1 ⟨rfl, hb⟩
    have Z := Lib.hid (Z.out.on hb)
    have VA := Lib.hid (VA.out.on hb)
    have B := Lib.hid (B.out.trans (hb.mono B.out.size))
    clear hb  HF
    obtain ⟨p0, p1, p2, p3, p4⟩ := VA.out.box
    go_wp2_with fail
    refine (HM.out _ _ _ _ VA.out.at_ Z.out).mono ?_
    rintro e u2 ⟨AI, cI, rfl, hI, hb⟩
    have Z := Lib.hid (Z.out.on hb)
    have VA := Lib.hid (VA.out.on hb)
    have B := Lib.hid (B.out.trans (hb.mono B.out.size))
    clear hb p0 p1 p2 p3 p4 HM
    clear hI
    go_wp2
    go_ret
    exact ⟨rfl, B.out⟩
  · obtain ⟨E, hE⟩ := errV_bad (k := 4) (by omega)
    have HM := Lib.hid (fun W v Z cz (h : DfaAt W W.heap.size v d0) (hZ : IntsAt W W.heap.size Z z1) => mend_gives (cz := cz) (C := 0) (E := errI E) (l := []) h hZ hr hm rfl hE (fun x hx => by simp at hx))
    clear ha hm hc hE hL0 hr m1 r1 hx hl 
    go_enter Try.func3, Try.ntmps3
    go_wp2_with fail
    rw [← W0.out]
    clear W0
    refine (HF.out _).mono ?_
    rintro e u1 ⟨rfl, hb⟩
    have Z := Lib.hid (Z.out.on hb)
    have VA := Lib.hid (VA.out.on hb)
    have B := Lib.hid (B.out.trans (hb.mono B.out.size))
    clear hb  HF
    obtain ⟨p0, p1, p2, p3, p4⟩ := VA.out.box
    go_wp2_with fail
    refine (HM.out _ _ _ _ VA.out.at_ Z.out).mono ?_
    rintro e u2 ⟨AI, cI, rfl, hI, hb⟩
    have Z := Lib.hid (Z.out.on hb)
    have VA := Lib.hid (VA.out.on hb)
    have B := Lib.hid (B.out.trans (hb.mono B.out.size))
    clear hb p0 p1 p2 p3 p4 HM
    clear hI
    go_wp2
    go_ret
    exact ⟨rfl, B.out⟩
  · obtain ⟨c, l⟩ := x
    obtain ⟨h1, h2, h3, _⟩ := mend_some hx
    simp only at hl hm hc h1 h2 h3
    obtain ⟨g1, g2⟩ := aErr_good ha
    have gd := dchk_iff.1 g1
    have hfz1 := chk_iff.1 g2
    have hLs : Small d0.L := ⟨by have := gd.l1; omega, by have := gd.l6; omega⟩
    have hfl : Fine d0.L l := ⟨hfz1.1, hl, h1⟩
    have hsm := word_small6 gd.l6 h1
    have HM := Lib.hid (fun W v Z cz (h : DfaAt W W.heap.size v d0) (hZ : IntsAt W W.heap.size Z z1) => mend_gives (cz := cz) (C := (c : Int)) (E := .nilIface) (l := l) h hZ hr hm rfl rfl hsm)
    have HA : Hid (∀ W v B cb, DfaAt W W.heap.size v d0 → IntsAt W W.heap.size B l → Calls Try.prog 8 #[v, .slice B l.length cb] W fun e w' => e = .returned (.tuple #[.bool true, .nilIface]) ∧ Below W.heap.size W w') := fun W v B cb h hB => acc_gives (cz := cb) (b := true) (E := .nilIface) h hB (by omega) (by rw [(acc_fine gd hfl).2, h2]) (by rw [(acc_fine gd hfl).1]; rfl)
    have HD : Hid (∀ W A B ca cb, IntsAt W W.heap.size A z1 → IntsAt W W.heap.size B l → Calls Try.prog 9 #[.int .i64 L0, .slice A z1.length ca, .slice B l.length cb] W fun e w' => e = .returned (.tuple #[.int .i64 ((c : Nat) : Int), .nilIface]) ∧ Below W.heap.size W w') := fun W A B ca cb hA hB => by
      have h := dist_ok (c := ca) (d := cb) hLs hA hB hfz1 hfl
      rw [hL0, h3] at h
      exact h
    have HC := Lib.hid (fun W v Z cz (h : DfaAt W W.heap.size v d0) (hZ : IntsAt W W.heap.size Z z1) => cost_gives (cz := cz) (C := (c : Int)) (E := .nilIface) h hZ hr hc rfl rfl)
    clear ha hx hl hm hc h1 h2 h3 g1 g2 gd hfz1 hLs hfl hsm hr m1 r1 hL0
    generalize l.length = n at *
    go_enter Try.func3, Try.ntmps3
    go_wp2_with fail
    rw [← W0.out]
    clear W0
    refine (HF.out _).mono ?_
    rintro e u1 ⟨rfl, hb⟩
    have Z := Lib.hid (Z.out.on hb)
    have VA := Lib.hid (VA.out.on hb)
    have B := Lib.hid (B.out.trans (hb.mono B.out.size))
    clear hb  HF
    obtain ⟨p0, p1, p2, p3, p4⟩ := VA.out.box
    go_wp2_with fail
    refine (HM.out _ _ _ _ VA.out.at_ Z.out).mono ?_
    rintro e u2 ⟨AI, cI, rfl, hI, hb⟩
    have Z := Lib.hid (Z.out.on hb)
    have VA := Lib.hid (VA.out.on hb)
    have B := Lib.hid (B.out.trans (hb.mono B.out.size))
    clear hb p0 p1 p2 p3 p4 HM
    have I := Lib.hid hI.out
    clear hI
    obtain ⟨p0, p1, p2, p3, p4⟩ := VA.out.box
    go_wp2_with fail
    refine (HA.out _ _ _ _ VA.out.at_ I.out).mono ?_
    rintro e u3 ⟨rfl, hb⟩
    have Z := Lib.hid (Z.out.on hb)
    have I := Lib.hid (I.out.on hb)
    have VA := Lib.hid (VA.out.on hb)
    have B := Lib.hid (B.out.trans (hb.mono B.out.size))
    clear hb p0 p1 p2 p3 p4 HA
    obtain ⟨p0, p1, p2, p3, p4⟩ := VA.out.box
    go_wp2_with fail
    refine (HD.out _ _ _ _ _ Z.out I.out).mono ?_
    rintro e u4 ⟨rfl, hb⟩
    have Z := Lib.hid (Z.out.on hb)
    have I := Lib.hid (I.out.on hb)
    have VA := Lib.hid (VA.out.on hb)
    have B := Lib.hid (B.out.trans (hb.mono B.out.size))
    clear hb p0 p1 p2 p3 p4 HD
    obtain ⟨p0, p1, p2, p3, p4⟩ := VA.out.box
    go_wp2_with fail
    refine (HC.out _ _ _ _ VA.out.at_ Z.out).mono ?_
    rintro e u5 ⟨rfl, hb⟩
    have Z := Lib.hid (Z.out.on hb)
    have I := Lib.hid (I.out.on hb)
    have VA := Lib.hid (VA.out.on hb)
    have B := Lib.hid (B.out.trans (hb.mono B.out.size))
    clear hb p0 p1 p2 p3 p4 HC
    go_wp2
    go_ret
    exact ⟨rfl, B.out⟩


set_option maxRecDepth 100000 in
theorem lifted (os : Os) (started : os.Started) (H : Type) (enc : TypeId × Value → H) :
    ReturnsInHanded {} Try.checked os 3 .any (Rows.mendFitsSpec.pre6 enc Try.prog Try.f3 Rows.mendFitsRow.domain false) (Rows.mendFitsSpec.post enc Try.prog Try.f3 false true false false) := by
  refine returnsInHanded_of_change_sized (C := Try.checked) own started (by kernel_rfl) Try.func3
    (ChangeSpec.witness6 (enc := enc) (C := Try.checked) false ⟨#[], #[.agg #[.int .i64 0, .int .i64 0, .slice none 0 0, .slice none 0 0], .slice none 0 0], []⟩ 8 (by kernel_rfl) (by kernel_rfl) (by kernel_rfl) (by kernel_rfl)) ?_
  intro W base args ds gs before hval0 hW hcnd hsz0 _
  have hval : ∀ (j : Nat) t v, Try.f3.params[j]? = some t → args[j]? = some v → Value.okWide Try.prog W .any base t v := hval0
  have hsz : (DataW.weightsEach Try.prog (Try.f3.params.toList ++ Rows.mendFitsSpec.plain.varTypes Try.prog) (ds ++ gs)).all (· ≤ reachBytes) = true := hsz0
  have hW' := hW
  obtain ⟨p, q, hA0, hV0, rfl, hfz, hnd⟩ := hW
  have hV : DataW.TrodVars enc Try.prog W (fun _ => true) [] gs q := hV0
  have hA : DataW.TrodAll enc Try.prog W 0 (fun _ => true) true Try.f3.params.toList args.toList ds p := hA0
  rw [Try.params3] at hA hval hsz
  obtain ⟨v0, vs0, d0, ds0, p0, q0, hargs, rfl, rfl, h0, rr0⟩ := trodAll_cons hA
  obtain ⟨v1, vs1, d1, ds1, p1, q1, rfl, rfl, rfl, h1, rr1⟩ := trodAll_cons rr0
  obtain ⟨rfl, rfl, rfl⟩ := trodAll_nil rr1
  obtain rfl : args = #[v0, v1] := by cases args; simp_all
  obtain ⟨rfl, rfl⟩ := trodVars_none hV
  have k0 := h0
  have lt0 : ∀ x ∈ p0, x.block < W.heap.size := by obtain ⟨m, hm⟩ := k0; exact DataW.trod_lt m _ _ _ hm
  have k1 := h1
  have lt1 : ∀ x ∈ p1, x.block < W.heap.size := by obtain ⟨m, hm⟩ := k1; exact DataW.trod_lt m _ _ _ hm
  obtain ⟨D0, x0⟩ : ∃ d : Df.Aut, Df.DfaAt W W.heap.size v0 d := Df.dfa_open (hval 0 25 v0 rfl rfl) h0
  obtain ⟨A1, len1, c1, rfl⟩ := okWide_slice Try.underlying26 (hval 1 26 v1 rfl rfl)
  obtain ⟨z1, rfl, x1, r1, m1⟩ : ∃ zs : List Int, len1 = zs.length ∧ IntsAt W W.heap.size A1 zs ∧ zs.length ≤ 17592186043904 ∧ zs.length ≤ c1 := by
    obtain ⟨fuel, hf⟩ := h1
    rcases open_ints Try.underlying26 Try.underlying3 (by kernel_rfl) hf with ⟨hcs, _⟩ | ⟨x, l, c, zs, hcs, _, hl, hm, hz, hx, hcell, hwz⟩
    · simp [Value.cells] at hcs
      obtain ⟨rfl, rfl, rfl⟩ := hcs
      exact ⟨[], rfl, IntsAt.nil _ _ _, by simp, by simp⟩
    · simp [Value.cells] at hcs
      obtain ⟨rfl, rfl, rfl⟩ := hcs
      have hd := congrArg Prod.fst hx
      simp only at hd
      have := sized_slice hsz (j := 1) (t := 26) (e := 3) rfl (by rw [hd]; rfl) Try.underlying26
      rw [(show Try.prog.bytesOf 3 = 8 by kernel_rfl)] at this
      simp only [reachBytes, lits, List.length_map, List.length_take, List.length_drop] at this
      have hz' : zs.length = c1 := by simpa using hz
      exact ⟨zs.take len1, by rw [List.length_take]; omega, intsAt_of_open hcell hwz len1, by rw [List.length_take]; omega, by rw [List.length_take]; omega⟩
  clear hA0 hval0
  refine (walk v0 D0 A1 c1 z1 W x0 x1 r1 m1).mono fun e W' ⟨he, bel⟩ => ?_
  subst he
  exact ⟨_, rfl, _, _, _, [], _, [], hW', trodAll_mk1 (shut_bool Try.underlying4 _), (trodAll_cons_mk (Below.trod laidOut (by kernel_rfl) (of_decide_eq_true (by kernel_rfl)) k0 bel lt0) (trodAll_cons_mk (Below.trod laidOut (by kernel_rfl) (of_decide_eq_true (by kernel_rfl)) k1 bel lt1) trodAll_mk0)), rfl, bel.frame _, fun h => by cases h⟩

theorem over : Rows.mendFitsRow.holds Try.pinned (OpenSpec.ofChange Rows.mendFitsSpec) :=
  OpenClaim.holds_of_wide 3 Try.f3 rfl rfl rfl rfl rfl rfl rfl ⟨rfl, rfl, rfl, rfl, rfl⟩ rfl rfl rfl rfl rfl (by kernel_rfl) Try.func3 (by kernel_rfl)
    (of_decide_eq_true (by kernel_rfl)) (by unfold Func.isWrapper; rw [if_neg (of_decide_eq_false (by kernel_rfl))]; exact ⟨rfl, rfl⟩)
    (fun os started H enc _ => lifted os started H enc)
theorem proved : Rows.MendFitsSaid := over
#print axioms proved
end Go.Proofs.Ytfiknbdpjnpkdaa.mendFits
