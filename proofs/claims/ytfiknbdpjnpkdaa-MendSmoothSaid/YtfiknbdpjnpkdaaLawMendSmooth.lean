/-
  The statement MendSmoothSaid of this seat, proved: for every input the law returns true and its arguments read behind the call as before. Conditions: none but the row's own (each argument within the reach).
-/
import Derived.Test.YtfiknbdpjnpkdaaRows
import Derived.Test.YtfiknbdpjnpkdaaWords
import Derived.WalkKit
import Derived.ProofKit
import Derived.OpenShut
import Derived.ShutString
import Derived.ChangeOld
import Derived.Below
import Derived.SizedLaws
import Derived.Lib.Hide
import Derived.Test.YtfiknbdpjnpkdaaMendV
import Derived.Test.YtfiknbdpjnpkdaaNearK
import Derived.Test.YtfiknbdpjnpkdaaDfaV
namespace Go.Proofs.Ytfiknbdpjnpkdaa.mendSmooth
open Go.ChangeShapes Go.WideShapes Go.ChangeAt Go.RowKit Go.IntWalk Go.Proofs.Ytfiknbdpjnpkdaa.Wd
open Go.ChangeMaps (open_string shut_string)
set_option linter.unusedVariables false

theorem own : ownKnob Try.prog.godebug = none := by kernel_rfl
theorem laidOut : laidOutB Try.prog = true := by kernel_rfl
open Go.Proofs.Ytfiknbdpjnpkdaa.Wo Go.Proofs.Ytfiknbdpjnpkdaa.Df Go.Proofs.Ytfiknbdpjnpkdaa.Rc Go.Proofs.Ytfiknbdpjnpkdaa.Ne Go.Proofs.Ytfiknbdpjnpkdaa.Me

set_option maxRecDepth 100000 in
set_option maxHeartbeats 4000000 in
theorem walk (v0 : Value) (d0 : Df.Aut) (A1 : Option Addr) (c1 : Nat) (z1 : List Int) (A2 : Option Addr) (c2 : Nat) (z2 : List Int) (w : World) (h0 : Df.DfaAt w w.heap.size v0 d0) (v1 : IntsAt w w.heap.size A1 z1) (r1 : z1.length ≤ 17592186043904) (m1 : z1.length ≤ c1) (v2 : IntsAt w w.heap.size A2 z2) (r2 : z2.length ≤ 17592186043904) (m2 : z2.length ≤ c2) :
    Calls Try.prog 4 #[v0, .slice A1 z1.length c1, .slice A2 z2.length c2] w fun e w' => e = .returned (.bool true) ∧ Below w.heap.size w w' := by
  have hr : z1.length ≤ 17592186044416 := by omega
  have hr2 : z2.length ≤ 17592186044416 := by omega
  obtain ⟨L0, s0, A0, n0, c0, F0, m0, k0, rfl⟩ := h0.form
  have hN0 := h0.eqs.2.2.1
  obtain ⟨u0, hu0, hb0, VA0⟩ := var_new w h0
  have VA := Lib.hid VA0
  have B := Lib.hid hb0
  have W0 := Lib.hid hu0
  have HN0 := Lib.hid hN0
  have Z := Lib.hid (v1.on hb0)
  have Y := Lib.hid (v2.on hb0)
  clear VA0 hb0 hu0 h0 hN0 v1 v2
  clear HN0 m1 m2
  have HF := Lib.hid mendFact_any
  have hL0 : d0.L = L0 := VA.out.at_.eqs.1
  have way : ∀ z, (∃ e, aErr d0 z = e + 1 ∧ costO2 d0 z = (0, e + 1)) ∨ (aErr d0 z = 0 ∧ mendW d0 z = none ∧ costO2 d0 z = (0, 4 + 1)) ∨ ∃ x, aErr d0 z = 0 ∧ mendW d0 z = some x ∧ costO2 d0 z = (x.1, 0) := fun z => by
    rcases mendO2_ways d0 z with ⟨e, ha, hm, hc⟩ | ⟨ha, hx, hm, hc⟩ | ⟨x, ha, hx, hl, hm, hc⟩ | ⟨x, ha, hx, hl, hm, hc⟩
    · exact .inl ⟨e, ha, hc⟩
    · exact .inr (.inl ⟨ha, hx, hc⟩)
    · exact .inr (.inr ⟨x, ha, hx, hc⟩)
    · exact .inr (.inr ⟨x, ha, hx, hc⟩)
  have two : ∀ z, (∃ e, costO2 d0 z = (0, e + 1)) ∨ ∃ x, aErr d0 z = 0 ∧ mendW d0 z = some x ∧ costO2 d0 z = (x.1, 0) := fun z => by
    rcases way z with ⟨e, _, hc⟩ | ⟨_, _, hc⟩ | h
    · exact .inl ⟨e, hc⟩
    · exact .inl ⟨4, hc⟩
    · exact .inr h
  rcases two z1 with ⟨e, hc⟩ | ⟨x, ha, hx, hc⟩
  · obtain ⟨E, hE⟩ := errV_bad (k := e + 1) (by omega)
    have HC := Lib.hid (fun W v Z cz (h : DfaAt W W.heap.size v d0) (hZ : IntsAt W W.heap.size Z z1) => cost_gives (cz := cz) (C := 0) (E := errI E) h hZ hr hc rfl hE)
    rcases two z2 with ⟨e2, hc2⟩ | ⟨x2, ha2, hx2, hc2⟩
    · obtain ⟨E2, hE2⟩ := errV_bad (k := e2 + 1) (by omega)
      have HC2 := Lib.hid (fun W v Z cz (h : DfaAt W W.heap.size v d0) (hZ : IntsAt W W.heap.size Z z2) => cost_gives (cz := cz) (C := 0) (E := errI E2) h hZ hr2 hc2 rfl hE2)
      clear hc hE hc2 hE2 hL0 hr hr2 r1 r2 way two
      go_enter Try.func4, Try.ntmps4
      go_wp2_with fail
      rw [← W0.out]
      clear W0
      refine (HF.out _).mono ?_
      rintro e u1 ⟨rfl, hb⟩
      have Z := Lib.hid (Z.out.on hb)
      have Y := Lib.hid (Y.out.on hb)
      have VA := Lib.hid (VA.out.on hb)
      have B := Lib.hid (B.out.trans (hb.mono B.out.size))
      clear hb  HF
      obtain ⟨p0, p1, p2, p3, p4⟩ := VA.out.box
      go_wp2_with fail
      refine (HC.out _ _ _ _ VA.out.at_ Z.out).mono ?_
      rintro e u2 ⟨rfl, hb⟩
      have Z := Lib.hid (Z.out.on hb)
      have Y := Lib.hid (Y.out.on hb)
      have VA := Lib.hid (VA.out.on hb)
      have B := Lib.hid (B.out.trans (hb.mono B.out.size))
      clear hb p0 p1 p2 p3 p4 HC
      obtain ⟨p0, p1, p2, p3, p4⟩ := VA.out.box
      go_wp2_with fail
      refine (HC2.out _ _ _ _ VA.out.at_ Y.out).mono ?_
      rintro e u3 ⟨rfl, hb⟩
      have Z := Lib.hid (Z.out.on hb)
      have Y := Lib.hid (Y.out.on hb)
      have VA := Lib.hid (VA.out.on hb)
      have B := Lib.hid (B.out.trans (hb.mono B.out.size))
      clear hb p0 p1 p2 p3 p4 HC2
      go_wp2
      go_ret
      exact ⟨rfl, B.out⟩
    · obtain ⟨c2, l2⟩ := x2
      have HC2 := Lib.hid (fun W v Z cz (h : DfaAt W W.heap.size v d0) (hZ : IntsAt W W.heap.size Z z2) => cost_gives (cz := cz) (C := (c2 : Int)) (E := .nilIface) h hZ hr2 hc2 rfl rfl)
      clear hc hE hc2 ha2 hx2 hL0 hr hr2 r1 r2 way two
      go_enter Try.func4, Try.ntmps4
      go_wp2_with fail
      rw [← W0.out]
      clear W0
      refine (HF.out _).mono ?_
      rintro e u1 ⟨rfl, hb⟩
      have Z := Lib.hid (Z.out.on hb)
      have Y := Lib.hid (Y.out.on hb)
      have VA := Lib.hid (VA.out.on hb)
      have B := Lib.hid (B.out.trans (hb.mono B.out.size))
      clear hb  HF
      obtain ⟨p0, p1, p2, p3, p4⟩ := VA.out.box
      go_wp2_with fail
      refine (HC.out _ _ _ _ VA.out.at_ Z.out).mono ?_
      rintro e u2 ⟨rfl, hb⟩
      have Z := Lib.hid (Z.out.on hb)
      have Y := Lib.hid (Y.out.on hb)
      have VA := Lib.hid (VA.out.on hb)
      have B := Lib.hid (B.out.trans (hb.mono B.out.size))
      clear hb p0 p1 p2 p3 p4 HC
      obtain ⟨p0, p1, p2, p3, p4⟩ := VA.out.box
      go_wp2_with fail
      refine (HC2.out _ _ _ _ VA.out.at_ Y.out).mono ?_
      rintro e u3 ⟨rfl, hb⟩
      have Z := Lib.hid (Z.out.on hb)
      have Y := Lib.hid (Y.out.on hb)
      have VA := Lib.hid (VA.out.on hb)
      have B := Lib.hid (B.out.trans (hb.mono B.out.size))
      clear hb p0 p1 p2 p3 p4 HC2
      go_wp2
      go_ret
      exact ⟨rfl, B.out⟩
  · rcases two z2 with ⟨e2, hc2⟩ | ⟨x2, ha2, hx2, hc2⟩
    · obtain ⟨c, l⟩ := x
      obtain ⟨E2, hE2⟩ := errV_bad (k := e2 + 1) (by omega)
      have HC := Lib.hid (fun W v Z cz (h : DfaAt W W.heap.size v d0) (hZ : IntsAt W W.heap.size Z z1) => cost_gives (cz := cz) (C := (c : Int)) (E := .nilIface) h hZ hr hc rfl rfl)
      have HC2 := Lib.hid (fun W v Z cz (h : DfaAt W W.heap.size v d0) (hZ : IntsAt W W.heap.size Z z2) => cost_gives (cz := cz) (C := 0) (E := errI E2) h hZ hr2 hc2 rfl hE2)
      clear ha hx hc hc2 hE2 hL0 hr hr2 r1 r2 way two
      have hcb : c ≤ 0 ∨ ¬ c ≤ 0 := Classical.em _
      obtain ⟨b, hb0⟩ : ∃ b : Bool, (((c : Nat) : Int) == 0) = b := ⟨_, rfl⟩
      rcases b with _ | _
      · clear hcb
        go_enter Try.func4, Try.ntmps4
        go_wp2_with fail
        rw [← W0.out]
        clear W0
        refine (HF.out _).mono ?_
        rintro e u1 ⟨rfl, hb⟩
        have Z := Lib.hid (Z.out.on hb)
        have Y := Lib.hid (Y.out.on hb)
        have VA := Lib.hid (VA.out.on hb)
        have B := Lib.hid (B.out.trans (hb.mono B.out.size))
        clear hb  HF
        obtain ⟨p0, p1, p2, p3, p4⟩ := VA.out.box
        go_wp2_with fail
        refine (HC.out _ _ _ _ VA.out.at_ Z.out).mono ?_
        rintro e u2 ⟨rfl, hb⟩
        have Z := Lib.hid (Z.out.on hb)
        have Y := Lib.hid (Y.out.on hb)
        have VA := Lib.hid (VA.out.on hb)
        have B := Lib.hid (B.out.trans (hb.mono B.out.size))
        clear hb p0 p1 p2 p3 p4 HC
        obtain ⟨p0, p1, p2, p3, p4⟩ := VA.out.box
        go_wp2_with fail
        refine (HC2.out _ _ _ _ VA.out.at_ Y.out).mono ?_
        rintro e u3 ⟨rfl, hb⟩
        have Z := Lib.hid (Z.out.on hb)
        have Y := Lib.hid (Y.out.on hb)
        have VA := Lib.hid (VA.out.on hb)
        have B := Lib.hid (B.out.trans (hb.mono B.out.size))
        clear hb p0 p1 p2 p3 p4 HC2
        go_wp2
        go_ret
        exact ⟨rfl, B.out⟩
      · clear hcb
        go_enter Try.func4, Try.ntmps4
        go_wp2_with fail
        rw [← W0.out]
        clear W0
        refine (HF.out _).mono ?_
        rintro e u1 ⟨rfl, hb⟩
        have Z := Lib.hid (Z.out.on hb)
        have Y := Lib.hid (Y.out.on hb)
        have VA := Lib.hid (VA.out.on hb)
        have B := Lib.hid (B.out.trans (hb.mono B.out.size))
        clear hb  HF
        obtain ⟨p0, p1, p2, p3, p4⟩ := VA.out.box
        go_wp2_with fail
        refine (HC.out _ _ _ _ VA.out.at_ Z.out).mono ?_
        rintro e u2 ⟨rfl, hb⟩
        have Z := Lib.hid (Z.out.on hb)
        have Y := Lib.hid (Y.out.on hb)
        have VA := Lib.hid (VA.out.on hb)
        have B := Lib.hid (B.out.trans (hb.mono B.out.size))
        clear hb p0 p1 p2 p3 p4 HC
        obtain ⟨p0, p1, p2, p3, p4⟩ := VA.out.box
        go_wp2_with fail
        refine (HC2.out _ _ _ _ VA.out.at_ Y.out).mono ?_
        rintro e u3 ⟨rfl, hb⟩
        have Z := Lib.hid (Z.out.on hb)
        have Y := Lib.hid (Y.out.on hb)
        have VA := Lib.hid (VA.out.on hb)
        have B := Lib.hid (B.out.trans (hb.mono B.out.size))
        clear hb p0 p1 p2 p3 p4 HC2
        go_wp2
        go_ret
        exact ⟨rfl, B.out⟩
    · obtain ⟨c, l⟩ := x
      obtain ⟨c2, l2⟩ := x2
      have s1 := mend_smooth hx hx2
      have s2 := mend_smooth hx2 hx
      rw [lev_symm z2 z1] at s2
      simp only at s1 s2
      have hg2 := (aErr_good ha2).2
      obtain ⟨g1, g2⟩ := aErr_good ha
      have gd := dchk_iff.1 g1
      have hfz1 := chk_iff.1 g2
      have hLs : Small d0.L := ⟨by have := gd.l1; omega, by have := gd.l6; omega⟩
      have hfz2 := chk_iff.1 hg2
      have HD : Hid (∀ W A B ca cb, IntsAt W W.heap.size A z1 → IntsAt W W.heap.size B z2 → Calls Try.prog 9 #[.int .i64 L0, .slice A z1.length ca, .slice B z2.length cb] W fun e w' => e = .returned (.tuple #[.int .i64 ((lev z1 z2 : Nat) : Int), .nilIface]) ∧ Below W.heap.size W w') := fun W A B ca cb hA hB => by
        have h := dist_ok (c := ca) (d := cb) hLs hA hB hfz1 hfz2
        rw [hL0] at h
        exact h
      have HC := Lib.hid (fun W v Z cz (h : DfaAt W W.heap.size v d0) (hZ : IntsAt W W.heap.size Z z1) => cost_gives (cz := cz) (C := (c : Int)) (E := .nilIface) h hZ hr hc rfl rfl)
      have HC2 := Lib.hid (fun W v Z cz (h : DfaAt W W.heap.size v d0) (hZ : IntsAt W W.heap.size Z z2) => cost_gives (cz := cz) (C := (c2 : Int)) (E := .nilIface) h hZ hr2 hc2 rfl rfl)
      obtain ⟨k, hk⟩ : ∃ k, lev z1 z2 = k := ⟨_, rfl⟩
      rw [hk] at HD s1 s2
      have hk8 : k ≤ 80 := by have h1 := lev_max z1 z2; have h2 := hfz1.2.1; have h3 := hfz2.2.1; omega
      have hc8 : c ≤ 80 := (mend_far gd hfz1.2.1 hx).1
      have hc28 : c2 ≤ 80 := (mend_far gd hfz2.2.1 hx2).1
      have e1 : ((c : Nat) : Int) - ((c2 : Nat) : Int) ≤ ((k : Nat) : Int) := by omega
      have e2 : ((c2 : Nat) : Int) - ((c : Nat) : Int) ≤ ((k : Nat) : Int) := by omega
      clear ha ha2 hx hx2 hc hc2 s1 s2 hg2 g1 g2 gd hfz1 hfz2 hLs hk hL0 hr hr2 r1 r2 way two
      go_enter Try.func4, Try.ntmps4
      go_wp2_with fail
      rw [← W0.out]
      clear W0
      refine (HF.out _).mono ?_
      rintro e u1 ⟨rfl, hb⟩
      have Z := Lib.hid (Z.out.on hb)
      have Y := Lib.hid (Y.out.on hb)
      have VA := Lib.hid (VA.out.on hb)
      have B := Lib.hid (B.out.trans (hb.mono B.out.size))
      clear hb  HF
      obtain ⟨p0, p1, p2, p3, p4⟩ := VA.out.box
      go_wp2_with fail
      refine (HC.out _ _ _ _ VA.out.at_ Z.out).mono ?_
      rintro e u2 ⟨rfl, hb⟩
      have Z := Lib.hid (Z.out.on hb)
      have Y := Lib.hid (Y.out.on hb)
      have VA := Lib.hid (VA.out.on hb)
      have B := Lib.hid (B.out.trans (hb.mono B.out.size))
      clear hb p0 p1 p2 p3 p4 HC
      obtain ⟨p0, p1, p2, p3, p4⟩ := VA.out.box
      go_wp2_with fail
      refine (HC2.out _ _ _ _ VA.out.at_ Y.out).mono ?_
      rintro e u3 ⟨rfl, hb⟩
      have Z := Lib.hid (Z.out.on hb)
      have Y := Lib.hid (Y.out.on hb)
      have VA := Lib.hid (VA.out.on hb)
      have B := Lib.hid (B.out.trans (hb.mono B.out.size))
      clear hb p0 p1 p2 p3 p4 HC2
      obtain ⟨p0, p1, p2, p3, p4⟩ := VA.out.box
      go_wp2_with fail
      refine (HD.out _ _ _ _ _ Z.out Y.out).mono ?_
      rintro e u4 ⟨rfl, hb⟩
      have Z := Lib.hid (Z.out.on hb)
      have Y := Lib.hid (Y.out.on hb)
      have VA := Lib.hid (VA.out.on hb)
      have B := Lib.hid (B.out.trans (hb.mono B.out.size))
      clear hb p0 p1 p2 p3 p4 HD
      go_wp2
      go_ret
      exact ⟨rfl, B.out⟩


set_option maxRecDepth 100000 in
theorem lifted (os : Os) (started : os.Started) (H : Type) (enc : TypeId × Value → H) :
    ReturnsInHanded {} Try.checked os 4 .any (Rows.mendSmoothSpec.pre6 enc Try.prog Try.f4 Rows.mendSmoothRow.domain false) (Rows.mendSmoothSpec.post enc Try.prog Try.f4 false true false false) := by
  refine returnsInHanded_of_change_sized (C := Try.checked) own started (by kernel_rfl) Try.func4
    (ChangeSpec.witness6 (enc := enc) (C := Try.checked) false ⟨#[], #[.agg #[.int .i64 0, .int .i64 0, .slice none 0 0, .slice none 0 0], .slice none 0 0, .slice none 0 0], []⟩ 8 (by kernel_rfl) (by kernel_rfl) (by kernel_rfl) (by kernel_rfl)) ?_
  intro W base args ds gs before hval0 hW hcnd hsz0 _
  have hval : ∀ (j : Nat) t v, Try.f4.params[j]? = some t → args[j]? = some v → Value.okWide Try.prog W .any base t v := hval0
  have hsz : (DataW.weightsEach Try.prog (Try.f4.params.toList ++ Rows.mendSmoothSpec.plain.varTypes Try.prog) (ds ++ gs)).all (· ≤ reachBytes) = true := hsz0
  have hW' := hW
  obtain ⟨p, q, hA0, hV0, rfl, hfz, hnd⟩ := hW
  have hV : DataW.TrodVars enc Try.prog W (fun _ => true) [] gs q := hV0
  have hA : DataW.TrodAll enc Try.prog W 0 (fun _ => true) true Try.f4.params.toList args.toList ds p := hA0
  rw [Try.params4] at hA hval hsz
  obtain ⟨v0, vs0, d0, ds0, p0, q0, hargs, rfl, rfl, h0, rr0⟩ := trodAll_cons hA
  obtain ⟨v1, vs1, d1, ds1, p1, q1, rfl, rfl, rfl, h1, rr1⟩ := trodAll_cons rr0
  obtain ⟨v2, vs2, d2, ds2, p2, q2, rfl, rfl, rfl, h2, rr2⟩ := trodAll_cons rr1
  obtain ⟨rfl, rfl, rfl⟩ := trodAll_nil rr2
  obtain rfl : args = #[v0, v1, v2] := by cases args; simp_all
  obtain ⟨rfl, rfl⟩ := trodVars_none hV
  have k0 := h0
  have lt0 : ∀ x ∈ p0, x.block < W.heap.size := by obtain ⟨m, hm⟩ := k0; exact DataW.trod_lt m _ _ _ hm
  have k1 := h1
  have lt1 : ∀ x ∈ p1, x.block < W.heap.size := by obtain ⟨m, hm⟩ := k1; exact DataW.trod_lt m _ _ _ hm
  have k2 := h2
  have lt2 : ∀ x ∈ p2, x.block < W.heap.size := by obtain ⟨m, hm⟩ := k2; exact DataW.trod_lt m _ _ _ hm
  obtain ⟨D0, x0⟩ : ∃ d : Df.Aut, Df.DfaAt W W.heap.size v0 d := Df.dfa_open (hval 0 25 v0 rfl rfl) h0
  obtain ⟨A1, len1, c1, rfl⟩ := okWide_slice Try.underlying26 (hval 1 26 v1 rfl rfl)
  obtain ⟨z1, rfl, x1, r1, m1⟩ : ∃ zs : List Int, len1 = zs.length ∧ IntsAt W W.heap.size A1 zs ∧ zs.length ≤ 17592186043904 ∧ zs.length ≤ c1 := by
    obtain ⟨fuel, hf⟩ := h1
    rcases open_ints Try.underlying26 Try.underlying3 (by kernel_rfl) hf with ⟨hcs, _⟩ | ⟨x, l, c, zs, hcs, _, hl, hm, hz, hx, hcell, hwz⟩
    · simp [Value.cells] at hcs
      obtain ⟨rfl, rfl, rfl⟩ := hcs
      exact ⟨[], rfl, IntsAt.nil _ _ _, by simp, by simp⟩
    · simp [Value.cells] at hcs
      obtain ⟨rfl, rfl, rfl⟩ := hcs
      have hd := congrArg Prod.fst hx
      simp only at hd
      have := sized_slice hsz (j := 1) (t := 26) (e := 3) rfl (by rw [hd]; rfl) Try.underlying26
      rw [(show Try.prog.bytesOf 3 = 8 by kernel_rfl)] at this
      simp only [reachBytes, lits, List.length_map, List.length_take, List.length_drop] at this
      have hz' : zs.length = c1 := by simpa using hz
      exact ⟨zs.take len1, by rw [List.length_take]; omega, intsAt_of_open hcell hwz len1, by rw [List.length_take]; omega, by rw [List.length_take]; omega⟩
  obtain ⟨A2, len2, c2, rfl⟩ := okWide_slice Try.underlying26 (hval 2 26 v2 rfl rfl)
  obtain ⟨z2, rfl, x2, r2, m2⟩ : ∃ zs : List Int, len2 = zs.length ∧ IntsAt W W.heap.size A2 zs ∧ zs.length ≤ 17592186043904 ∧ zs.length ≤ c2 := by
    obtain ⟨fuel, hf⟩ := h2
    rcases open_ints Try.underlying26 Try.underlying3 (by kernel_rfl) hf with ⟨hcs, _⟩ | ⟨x, l, c, zs, hcs, _, hl, hm, hz, hx, hcell, hwz⟩
    · simp [Value.cells] at hcs
      obtain ⟨rfl, rfl, rfl⟩ := hcs
      exact ⟨[], rfl, IntsAt.nil _ _ _, by simp, by simp⟩
    · simp [Value.cells] at hcs
      obtain ⟨rfl, rfl, rfl⟩ := hcs
      have hd := congrArg Prod.fst hx
      simp only at hd
      have := sized_slice hsz (j := 2) (t := 26) (e := 3) rfl (by rw [hd]; rfl) Try.underlying26
      rw [(show Try.prog.bytesOf 3 = 8 by kernel_rfl)] at this
      simp only [reachBytes, lits, List.length_map, List.length_take, List.length_drop] at this
      have hz' : zs.length = c2 := by simpa using hz
      exact ⟨zs.take len2, by rw [List.length_take]; omega, intsAt_of_open hcell hwz len2, by rw [List.length_take]; omega, by rw [List.length_take]; omega⟩
  clear hA0 hval0
  refine (walk v0 D0 A1 c1 z1 A2 c2 z2 W x0 x1 r1 m1 x2 r2 m2).mono fun e W' ⟨he, bel⟩ => ?_
  subst he
  exact ⟨_, rfl, _, _, _, [], _, [], hW', trodAll_mk1 (shut_bool Try.underlying4 _), (trodAll_cons_mk (Below.trod laidOut (by kernel_rfl) (of_decide_eq_true (by kernel_rfl)) k0 bel lt0) (trodAll_cons_mk (Below.trod laidOut (by kernel_rfl) (of_decide_eq_true (by kernel_rfl)) k1 bel lt1) (trodAll_cons_mk (Below.trod laidOut (by kernel_rfl) (of_decide_eq_true (by kernel_rfl)) k2 bel lt2) trodAll_mk0))), rfl, bel.frame _, fun h => by cases h⟩

theorem over : Rows.mendSmoothRow.holds Try.pinned (OpenSpec.ofChange Rows.mendSmoothSpec) :=
  OpenClaim.holds_of_wide 4 Try.f4 rfl rfl rfl rfl rfl rfl rfl ⟨rfl, rfl, rfl, rfl, rfl⟩ rfl rfl rfl rfl rfl (by kernel_rfl) Try.func4 (by kernel_rfl)
    (of_decide_eq_true (by kernel_rfl)) (by unfold Func.isWrapper; rw [if_neg (of_decide_eq_false (by kernel_rfl))]; exact ⟨rfl, rfl⟩)
    (fun os started H enc _ => lifted os started H enc)
theorem proved : Rows.MendSmoothSaid := over
#print axioms proved
end Go.Proofs.Ytfiknbdpjnpkdaa.mendSmooth
