/-
  The statement SafeAlwaysSaid of this seat, proved: for every input the law returns true and its arguments read behind the call as before. Conditions: none but the row's own (each argument within the reach).
-/
import Derived.Test.YtloihkoamccacaaRows
import Derived.Test.YtloihkoamccacaaWords
import Derived.WalkKit
import Derived.ProofKit
import Derived.OpenShut
import Derived.ShutString
import Derived.ChangeOld
import Derived.Below
import Derived.SizedLaws
import Derived.Lib.Hide
import Derived.Test.YtloihkoamccacaaSafeL
import Derived.Test.YtloihkoamccacaaFew
namespace Go.Proofs.Ytloihkoamccacaa.safeAlways
open Go.ChangeShapes Go.WideShapes Go.ChangeAt Go.RowKit Go.IntWalk Go.Proofs.Ytloihkoamccacaa.Wd
open Go.ChangeMaps (open_string shut_string)
set_option linter.unusedVariables false

theorem own : ownKnob Try.prog.godebug = none := by kernel_rfl
theorem laidOut : laidOutB Try.prog = true := by kernel_rfl
open Go.Proofs.Ytloihkoamccacaa.Wo Go.Proofs.Ytloihkoamccacaa.Df Go.Proofs.Ytloihkoamccacaa.Rc Go.Proofs.Ytloihkoamccacaa.Sm Go.Proofs.Ytloihkoamccacaa.Mp Go.Proofs.Ytloihkoamccacaa.Sa
theorem ints_take {w : World} {B : Nat} {A : Option Addr} {z : List Int} (h : IntsAt w B A z) (k : Nat) : IntsAt w B A (z.take k) :=
  ⟨fun j u hj => h.1 j u (by
    rw [List.map_take] at hj
    rw [List.getElem?_take] at hj
    split at hj
    · exact hj
    · simp at hj), fun x hx => h.2 x (List.mem_of_mem_take hx)⟩
theorem fine_take {L : Int} {z : List Int} (h : Wo.Fine L z) (k : Nat) : Wo.Fine L (z.take k) := ⟨h.1, by have := h.2.1; rw [List.length_take]; omega, fun a ha => h.2.2 a (List.mem_of_mem_take ha)⟩

set_option maxRecDepth 100000 in
set_option maxHeartbeats 4000000 in
theorem walk (v0 : Value) (d0 : Df.Aut) (A1 : Option Addr) (c1 : Nat) (z1 : List Int) (w : World) (h0 : Df.DfaAt w w.heap.size v0 d0) (v1 : IntsAt w w.heap.size A1 z1) (r1 : z1.length ≤ 17592186043904) (m1 : z1.length ≤ c1) :
    Calls Try.prog 9 #[v0, .slice A1 z1.length c1] w fun e w' => e = .returned (.bool true) ∧ Below w.heap.size w w' := by
  have hr : z1.length ≤ 17592186044416 := by omega
  obtain ⟨L0, s0, A0, n0, c0, F0, m0, k0, rfl⟩ := h0.form
  have hN0 := h0.eqs.2.2.1
  obtain ⟨u0, hu0, hb0, VA0⟩ := var_new w h0
  have VA := Lib.hid VA0
  have B := Lib.hid hb0
  have W0 := Lib.hid hu0
  have HN0 := Lib.hid hN0
  have Z := Lib.hid (v1.on hb0)
  clear VA0 hb0 hu0 h0 hN0 v1
  clear r1
  have HK := Lib.hid Sa.known_any
  by_cases ga : accErr d0 z1 = 0
  · obtain ⟨Ga, fa⟩ := accErr_good ga
    have fw := fine_word fa
    have gs := stop_good (b := false) Ga
    have ge := stop_good (b := true) Ga
    have fs : Wo.Fine (stopA false d0).L z1 := fa
    have fe : Wo.Fine (stopA true d0).L z1 := fa
    have HA := Lib.hid (fun W v (h : DfaAt W W.heap.size v d0) (hZ : IntsAt W W.heap.size A1 z1) => acc_gives (cz := c1) (E := .nilIface) h hZ hr (accOut_ok Ga fa) (congrArg errV (accErr_ok Ga fa)))
    have HAl := Lib.hid (fun W v (h : DfaAt W W.heap.size v d0) => always_gives (E := .nilIface) h (mkO_ok Ga) rfl)
    have HEv := Lib.hid (fun W v (h : DfaAt W W.heap.size v d0) => ever_gives (E := .nilIface) h (mkO_ok Ga) rfl)
    have HX := Lib.hid (fun W v (h : DfaAt W W.heap.size v (stopA false d0)) (hZ : IntsAt W W.heap.size A1 z1) => acc_gives (cz := c1) (E := .nilIface) h hZ hr ((accOut_ok gs fs).trans (always_all Ga fw)) (congrArg errV (accErr_ok gs fs)))
    have HY := Lib.hid (fun W v (h : DfaAt W W.heap.size v (stopA true d0)) (hZ : IntsAt W W.heap.size A1 z1) => acc_gives (cz := c1) (E := .nilIface) h hZ hr ((accOut_ok ge fe).trans (ever_some Ga fw)) (congrArg errV (accErr_ok ge fe)))
    have HAi := Lib.hid (fun (k : Nat) (hk : k ≤ z1.length) W v (h : DfaAt W W.heap.size v d0) (hZ : IntsAt W W.heap.size A1 z1) => by
      have h9 := acc_gives (cz := c1) (E := .nilIface) h (ints_take hZ k) (by rw [List.length_take]; omega) (accOut_ok Ga (fine_take fa k)) (congrArg errV (accErr_ok Ga (fine_take fa k)))
      rw [List.length_take, Nat.min_eq_left hk] at h9
      exact h9)
    clear ga Ga fa fw gs ge fs fe HN0
    generalize stopA false d0 = AL at *
    generalize stopA true d0 = EV at *
    obtain ⟨N, hN⟩ : ∃ N, z1.length = N := ⟨_, rfl⟩
    rw [hN] at HA HX HY HAi m1 hr
    rw [hN]
    clear hN
    go_enter Try.func9, Try.ntmps9
    go_wp2_with fail
    rw [← W0.out]
    clear W0
    refine (HK.out _).mono ?_
    rintro e u1 ⟨rfl, hb⟩
    have Z := Lib.hid (Z.out.on hb)
    have VA := Lib.hid (VA.out.on hb)
    have B := Lib.hid (B.out.trans (hb.mono B.out.size))
    clear hb  HK
    obtain ⟨p0, p1, p2, p3, p4⟩ := VA.out.box
    go_wp2_with fail
    refine (HA.out _ _ VA.out.at_ Z.out).mono ?_
    rintro e u2 ⟨rfl, hb⟩
    have Z := Lib.hid (Z.out.on hb)
    have VA := Lib.hid (VA.out.on hb)
    have B := Lib.hid (B.out.trans (hb.mono B.out.size))
    clear hb p0 p1 p2 p3 p4 HA
    obtain ⟨p0, p1, p2, p3, p4⟩ := VA.out.box
    go_wp2_with fail
    refine (HAl.out _ _ VA.out.at_).mono ?_
    rintro e u3 ⟨L13, s13, A13, n13, c13, F13, m13, k13, rfl, hd, hb⟩
    have Z := Lib.hid (Z.out.on hb)
    have VA := Lib.hid (VA.out.on hb)
    have B := Lib.hid (B.out.trans (hb.mono B.out.size))
    clear hb p0 p1 p2 p3 p4 HAl
    obtain ⟨x3, hx3, hbn, Vn⟩ := var_new u3 hd.out
    have VL := Lib.hid Vn
    have Z := Lib.hid (Z.out.on hbn)
    have VA := Lib.hid (VA.out.on hbn)
    have B := Lib.hid (B.out.trans (hbn.mono B.out.size))
    clear hbn Vn hd
    obtain ⟨p0, p1, p2, p3, p4⟩ := VA.out.box
    rw [hx3] at p1 p2 p3 p4
    have HX := Lib.hid hx3
    clear hx3
    go_wp2_with fail
    rw [← HX.out]
    clear HX
    refine (HEv.out _ _ VA.out.at_).mono ?_
    rintro e u4 ⟨L14, s14, A14, n14, c14, F14, m14, k14, rfl, hd, hb⟩
    have Z := Lib.hid (Z.out.on hb)
    have VA := Lib.hid (VA.out.on hb)
    have VL := Lib.hid (VL.out.on hb)
    have B := Lib.hid (B.out.trans (hb.mono B.out.size))
    clear hb p0 p1 p2 p3 p4 HEv
    obtain ⟨x4, hx4, hbn, Vn⟩ := var_new u4 hd.out
    have VE := Lib.hid Vn
    have Z := Lib.hid (Z.out.on hbn)
    have VA := Lib.hid (VA.out.on hbn)
    have VL := Lib.hid (VL.out.on hbn)
    have B := Lib.hid (B.out.trans (hbn.mono B.out.size))
    clear hbn Vn hd
    have HX9 := Lib.hid hx4
    clear hx4
    go_wp2
    rw [← HX9.out]
    clear HX9
    go_loopw [12, 13, 14] (fun a s i wr => ∃ (k : Nat), k ≤ N + 1 ∧ a = .bool (allB d0 z1 k) ∧ s = .bool (someB d0 z1 k) ∧ i = .int .i64 k ∧ Hid (Below x4.heap.size x4 wr)) (fun _ _ i _ => N + 1 - (intOf i).toNat)
    case atStart => exact ⟨0, by omega, rfl, rfl, rfl, Lib.hid (Below.refl _ _)⟩
    case round =>
      obtain ⟨k, hk, rfl, rfl, rfl, HBw⟩ := hrel
      have VA := Lib.hid (VA.out.on HBw.out)
      have VL := Lib.hid (VL.out.on HBw.out)
      have VE := Lib.hid (VE.out.on HBw.out)
      have Z := Lib.hid (Z.out.on HBw.out)
      have B := Lib.hid (B.out.trans (HBw.out.mono B.out.size))
      by_cases hlt : k ≤ N
      · obtain ⟨q0, q1, q2, q3, q4⟩ := VA.out.box
        have HC := Lib.hid (HAi.out k hlt _ _ (VA.out.at_.on (Below.refl _ _).drew) (Z.out.on (Below.refl _ _).drew))
        have HAll := Lib.hid (allB_succ d0 z1 k)
        have HSome := Lib.hid (someB_succ d0 z1 k)
        generalize accA d0 (z1.take k) = is at *
        generalize allB d0 z1 k = p at *
        generalize someB d0 z1 k = q at *
        have e1 : (k : Int) ≤ (N : Int) := by omega
        have e2 : k ≤ c1 := by omega
        have e3 : (k : Int) ≤ (c1 : Int) := by omega
        clear HAi HX HY VL VE VA Z
        go_wp2_with fail
        go_region_with ((go_at_call 13; refine HC.out.mono ?_; rintro e w5 ⟨rfl, hb5⟩))
        all_goals
          have hdr : Below wr.heap.size wr wr.drew := (Below.refl _ _).drew
          have HB5 := Lib.hid (HBw.out.trans ((hdr.trans (hb5.mono hdr.size)).mono HBw.out.size))
          clear hb5 HC q0 q1 q2 q3 q4
          rcases is with _ | _ <;> rcases p with _ | _ <;> rcases q with _ | _
          all_goals
            go_wp2
            go_roundw
            case rel => exact ⟨k + 1, by omega, by rw [HAll.out]; rfl, by rw [HSome.out]; rfl, by go_num, HB5⟩
            case measure => simp [intOf]; omega
      · obtain rfl : k = N + 1 := by omega
        have e1 : ¬ ((N + 1 : Nat) : Int) ≤ (N : Int) := by omega
        clear HAi
        generalize allB d0 z1 (N + 1) = p at *
        generalize someB d0 z1 (N + 1) = q at *
        have hpp : (p == p) = true := beq_self_eq_true _
        have hqq : (q == q) = true := beq_self_eq_true _
        clear VA
        obtain ⟨p0, p1, p2, p3, p4⟩ := VL.out.box
        go_wp2_with fail
        refine (HX.out _ _ VL.out.at_ Z.out).mono ?_
        rintro e u21 ⟨rfl, hb⟩
        have Z := Lib.hid (Z.out.on hb)
        have VL := Lib.hid (VL.out.on hb)
        have VE := Lib.hid (VE.out.on hb)
        have B := Lib.hid (B.out.trans (hb.mono B.out.size))
        clear hb p0 p1 p2 p3 p4 HX
        obtain ⟨p0, p1, p2, p3, p4⟩ := VE.out.box
        go_wp2_with fail
        refine (HY.out _ _ VE.out.at_ Z.out).mono ?_
        rintro e u22 ⟨rfl, hb⟩
        have Z := Lib.hid (Z.out.on hb)
        have VL := Lib.hid (VL.out.on hb)
        have VE := Lib.hid (VE.out.on hb)
        have B := Lib.hid (B.out.trans (hb.mono B.out.size))
        clear hb p0 p1 p2 p3 p4 HY
        go_wp2
        go_ret
        exact ⟨rfl, B.out⟩
  · obtain ⟨E, hE⟩ := errV_bad ga
    have HA := Lib.hid (fun W v (h : DfaAt W W.heap.size v d0) (hZ : IntsAt W W.heap.size A1 z1) => acc_gives (cz := c1) h hZ hr (b := accOut d0 z1) rfl hE)
    clear ga hE hr
    generalize accOut d0 z1 = b at *
    go_enter Try.func9, Try.ntmps9
    go_wp2_with fail
    rw [← W0.out]
    clear W0
    refine (HK.out _).mono ?_
    rintro e u1 ⟨rfl, hb⟩
    have Z := Lib.hid (Z.out.on hb)
    have VA := Lib.hid (VA.out.on hb)
    have B := Lib.hid (B.out.trans (hb.mono B.out.size))
    clear hb  HK
    obtain ⟨p0, p1, p2, p3, p4⟩ := VA.out.box
    go_wp2_with fail
    refine (HA.out _ _ VA.out.at_ Z.out).mono ?_
    rintro e u2 ⟨rfl, hb⟩
    have Z := Lib.hid (Z.out.on hb)
    have VA := Lib.hid (VA.out.on hb)
    have B := Lib.hid (B.out.trans (hb.mono B.out.size))
    clear hb p0 p1 p2 p3 p4 HA
    go_wp2
    go_ret
    exact ⟨rfl, B.out⟩


set_option maxRecDepth 100000 in
theorem lifted (os : Os) (started : os.Started) (H : Type) (enc : TypeId × Value → H) :
    ReturnsInHanded {} Try.checked os 9 .any (Rows.safeAlwaysSpec.pre6 enc Try.prog Try.f9 Rows.safeAlwaysRow.domain false) (Rows.safeAlwaysSpec.post enc Try.prog Try.f9 false true false false) := by
  refine returnsInHanded_of_change_sized (C := Try.checked) own started (by kernel_rfl) Try.func9
    (ChangeSpec.witness6 (enc := enc) (C := Try.checked) false ⟨#[], #[.agg #[.int .i64 0, .int .i64 0, .slice none 0 0, .slice none 0 0], .slice none 0 0], []⟩ 8 (by kernel_rfl) (by kernel_rfl) (by kernel_rfl) (by kernel_rfl)) ?_
  intro W base args ds gs before hval0 hW hcnd hsz0 _
  have hval : ∀ (j : Nat) t v, Try.f9.params[j]? = some t → args[j]? = some v → Value.okWide Try.prog W .any base t v := hval0
  have hsz : (DataW.weightsEach Try.prog (Try.f9.params.toList ++ Rows.safeAlwaysSpec.plain.varTypes Try.prog) (ds ++ gs)).all (· ≤ reachBytes) = true := hsz0
  have hW' := hW
  obtain ⟨p, q, hA0, hV0, rfl, hfz, hnd⟩ := hW
  have hV : DataW.TrodVars enc Try.prog W (fun _ => true) [] gs q := hV0
  have hA : DataW.TrodAll enc Try.prog W 0 (fun _ => true) true Try.f9.params.toList args.toList ds p := hA0
  rw [Try.params9] at hA hval hsz
  obtain ⟨v0, vs0, d0, ds0, p0, q0, hargs, rfl, rfl, h0, rr0⟩ := trodAll_cons hA
  obtain ⟨v1, vs1, d1, ds1, p1, q1, rfl, rfl, rfl, h1, rr1⟩ := trodAll_cons rr0
  obtain ⟨rfl, rfl, rfl⟩ := trodAll_nil rr1
  obtain rfl : args = #[v0, v1] := by cases args; simp_all
  obtain ⟨rfl, rfl⟩ := trodVars_none hV
  have k0 := h0
  have lt0 : ∀ x ∈ p0, x.block < W.heap.size := by obtain ⟨m, hm⟩ := k0; exact DataW.trod_lt m _ _ _ hm
  have k1 := h1
  have lt1 : ∀ x ∈ p1, x.block < W.heap.size := by obtain ⟨m, hm⟩ := k1; exact DataW.trod_lt m _ _ _ hm
  obtain ⟨D0, x0⟩ : ∃ d : Df.Aut, Df.DfaAt W W.heap.size v0 d := Df.dfa_open (hval 0 25 v0 rfl rfl) h0
  obtain ⟨A1, len1, c1, rfl⟩ := okWide_slice Try.underlying26 (hval 1 26 v1 rfl rfl)
  obtain ⟨z1, rfl, x1, r1, m1⟩ : ∃ zs : List Int, len1 = zs.length ∧ IntsAt W W.heap.size A1 zs ∧ zs.length ≤ 17592186043904 ∧ zs.length ≤ c1 := by
    obtain ⟨fuel, hf⟩ := h1
    rcases open_ints Try.underlying26 Try.underlying3 (by kernel_rfl) hf with ⟨hcs, _⟩ | ⟨x, l, c, zs, hcs, _, hl, hm, hz, hx, hcell, hwz⟩
    · simp [Value.cells] at hcs
      obtain ⟨rfl, rfl, rfl⟩ := hcs
      exact ⟨[], rfl, IntsAt.nil _ _ _, by simp, by simp⟩
    · simp [Value.cells] at hcs
      obtain ⟨rfl, rfl, rfl⟩ := hcs
      have hd := congrArg Prod.fst hx
      simp only at hd
      have := sized_slice hsz (j := 1) (t := 26) (e := 3) rfl (by rw [hd]; rfl) Try.underlying26
      rw [(show Try.prog.bytesOf 3 = 8 by kernel_rfl)] at this
      simp only [reachBytes, lits, List.length_map, List.length_take, List.length_drop] at this
      have hz' : zs.length = c1 := by simpa using hz
      exact ⟨zs.take len1, by rw [List.length_take]; omega, intsAt_of_open hcell hwz len1, by rw [List.length_take]; omega, by rw [List.length_take]; omega⟩
  clear hA0 hval0
  refine (walk v0 D0 A1 c1 z1 W x0 x1 r1 m1).mono fun e W' ⟨he, bel⟩ => ?_
  subst he
  exact ⟨_, rfl, _, _, _, [], _, [], hW', trodAll_mk1 (shut_bool Try.underlying4 _), (trodAll_cons_mk (Below.trod laidOut (by kernel_rfl) (of_decide_eq_true (by kernel_rfl)) k0 bel lt0) (trodAll_cons_mk (Below.trod laidOut (by kernel_rfl) (of_decide_eq_true (by kernel_rfl)) k1 bel lt1) trodAll_mk0)), rfl, bel.frame _, fun h => by cases h⟩

theorem over : Rows.safeAlwaysRow.holds Try.pinned (OpenSpec.ofChange Rows.safeAlwaysSpec) :=
  OpenClaim.holds_of_wide 9 Try.f9 rfl rfl rfl rfl rfl rfl rfl ⟨rfl, rfl, rfl, rfl, rfl⟩ rfl rfl rfl rfl rfl (by kernel_rfl) Try.func9 (by kernel_rfl)
    (of_decide_eq_true (by kernel_rfl)) (by unfold Func.isWrapper; rw [if_neg (of_decide_eq_false (by kernel_rfl))]; exact ⟨rfl, rfl⟩)
    (fun os started H enc _ => lifted os started H enc)
theorem proved : Rows.SafeAlwaysSaid := over
#print axioms proved
end Go.Proofs.Ytloihkoamccacaa.safeAlways
