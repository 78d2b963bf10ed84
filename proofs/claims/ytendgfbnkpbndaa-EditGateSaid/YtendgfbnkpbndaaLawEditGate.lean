/-
  The statement EditGateSaid of this seat, proved: for every input the law returns true and its arguments read behind the call as before. Conditions: none but the row's own (each argument within the reach).
-/
import Derived.Test.YtendgfbnkpbndaaRows
import Derived.Test.YtendgfbnkpbndaaWords
import Derived.WalkKit
import Derived.ProofKit
import Derived.OpenShut
import Derived.ShutString
import Derived.ChangeOld
import Derived.Below
import Derived.SizedLaws
import Derived.Lib.Hide
import Derived.Test.YtendgfbnkpbndaaEditL
import Derived.Test.YtendgfbnkpbndaaGateL
namespace Go.Proofs.Ytendgfbnkpbndaa.editGate
open Go.ChangeShapes Go.WideShapes Go.ChangeAt Go.RowKit Go.IntWalk Go.Proofs.Ytendgfbnkpbndaa.Wd
open Go.ChangeMaps (open_string shut_string)
set_option linter.unusedVariables false

theorem own : ownKnob Try.prog.godebug = none := by kernel_rfl
theorem laidOut : laidOutB Try.prog = true := by kernel_rfl
open Go.Proofs.Ytendgfbnkpbndaa.Wo Go.Proofs.Ytendgfbnkpbndaa.Df Go.Proofs.Ytendgfbnkpbndaa.Rc Go.Proofs.Ytendgfbnkpbndaa.Sm Go.Proofs.Ytendgfbnkpbndaa.Sa Go.Proofs.Ytendgfbnkpbndaa.Ga Go.Proofs.Ytendgfbnkpbndaa.Ed

set_option maxRecDepth 100000 in
set_option maxHeartbeats 4000000 in
theorem walk (v0 : Value) (d0 : Df.Aut) (A1 : Option Addr) (c1 : Nat) (z1 : List Int) (w : World) (h0 : Df.DfaAt w w.heap.size v0 d0) (v1 : IntsAt w w.heap.size A1 z1) (r1 : z1.length ≤ 17592186043904) (m1 : z1.length ≤ c1) :
    Calls Try.prog 7 #[v0, .slice A1 z1.length c1] w fun e w' => e = .returned (.bool true) ∧ Below w.heap.size w w' := by
  have hr : z1.length ≤ 17592186044416 := by omega
  obtain ⟨L0, s0, A0, n0, c0, F0, m0, k0, rfl⟩ := h0.form
  have hN0 := h0.eqs.2.2.1
  obtain ⟨b0, hu0, hb0, VA0⟩ := var_new w h0
  have VA := Lib.hid VA0
  have B := Lib.hid hb0
  have W0 := Lib.hid hu0
  have HN0 := Lib.hid hN0
  have Z := Lib.hid (v1.on hb0)
  clear VA0 hb0 hu0 h0 hN0 v1
  clear HN0
  have HF := Lib.hid editFact_any
  obtain ⟨zl, hzl⟩ : ∃ zl, z1.length = zl := ⟨_, rfl⟩
  rw [hzl] at m1
  by_cases hg : gchk d0 = 0
  · have gg := gchk_iff.1 hg
    have he : echk d0 = 0 := echk_iff.2 ⟨gg.good, gg.empty⟩
    have h8 : (z1.take 80).length ≤ 80 := by rw [List.length_take]; omega
    have hok := eok_offers (p := (edit0 d0, [])) (eok_start gg.empty) (z1.take 80)
    have hle := eoffers_lets d0 (z1.take 80) (p := (edit0 d0, [])) (eok_start gg.empty) (by show ([] : List Int).length + _ ≤ 80; simpa using h8)
    change (eoffers d0 (edit0 d0, []) (z1.take 80)).2 = [] ++ lets d0 (z1.take 80) at hle
    rw [List.nil_append] at hle
    have hpo := eok_gate gg hok
    rw [hle] at hpo hok
    have HGa := Lib.hid (fun W v A c (h : DfaAt W W.heap.size v d0) (hZ : IntsAt W W.heap.size A z1) => gated_o (c := c) h hZ hr gg)
    have HED : Hid (∀ W v A c, DfaAt W W.heap.size v d0 → IntsAt W W.heap.size A (z1.take 80) → Calls Try.prog 13 #[v, .slice A (z1.take 80).length c] W fun e w' => ∃ g A' n' c', e = .returned (.tuple #[.pointer (some ⟨g, 0, none⟩), .slice A' n' c', .bool true]) ∧ Hid (EditR w' g d0 (eoffers d0 (edit0 d0, []) (z1.take 80)).1 (lets d0 (z1.take 80))) ∧ Below W.heap.size W w') := fun W v A c h hZ => (edited_gives (c := c) (E := (eoffers d0 (edit0 d0, []) (z1.take 80)).1) (wd := lets d0 (z1.take 80)) h hZ (by omega) he (by rw [List.take_of_length_le (by omega), ← hle])).mono fun e w' ⟨g, A', c', k1, k2, _, _, k3⟩ => ⟨g, A', _, c', k1, k2, k3⟩
    generalize hEE : (eoffers d0 (edit0 d0, []) (z1.take 80)).1 = E at *
    clear hEE hle
    generalize hwd : lets d0 (z1.take 80) = wd at *
    generalize wd.take (pass d0 d0.s.toNat wd) = T at *
    have hT8 : T.length ≤ 80 := by
      have h1 := hok.len
      have h2 := hok.all
      rw [← h2, List.length_append, hpo] at h1
      omega
    have HOe : Hid (∀ W g, EditR W g d0 E wd → Calls Try.prog 11 #[.pointer (some ⟨g, 0, none⟩)] W fun e w' => ∃ A c, e = .returned (.slice A T.length c) ∧ Hid (IntsAt w' w'.heap.size A T) ∧ Below W.heap.size W w') := fun W g h => (rout_e h).mono fun e w' ⟨A, c, k1, k2, _, k3⟩ => by
      rw [hpo] at k1 k2
      exact ⟨A, c, k1, k2, k3⟩
    have HOg := Lib.hid (fun W g (h : GateO W g T) => oout_gives h)
    have HSm := Lib.hid (fun W A B ca cb (h1 : IntsAt W W.heap.size A T) (h2 : IntsAt W W.heap.size B T) => eints_same (ca := ca) (cb := cb) h1 h2 (by omega))
    rw [hzl] at HGa ⊢
    have HL := Lib.hid hzl
    clear hg gg he h8 hok hpo hwd hzl hT8 hr
    generalize T.length = nT at *
    go_enter Try.func7, Try.ntmps7
    go_wp2_with fail
    rw [← W0.out]
    clear W0
    refine (HF.out _).mono ?_
    rintro e b1 ⟨rfl, hb⟩
    have Z := Lib.hid (Z.out.on hb)
    have VA := Lib.hid (VA.out.on hb)
    have B := Lib.hid (B.out.trans (hb.mono B.out.size))
    clear hb  HF
    obtain ⟨p0, p1, p2, p3, p4⟩ := VA.out.box
    go_wp2_with fail
    refine (HGa.out _ _ _ _ VA.out.at_ Z.out).mono ?_
    rintro e b2 ⟨gg, Ai, ni, ci, rfl, HGo, hb⟩
    have Z := Lib.hid (Z.out.on hb)
    have VA := Lib.hid (VA.out.on hb)
    have B := Lib.hid (B.out.trans (hb.mono B.out.size))
    clear hb p0 p1 p2 p3 p4 HGa
    have HS : Hid (Own b2 b2 [eInts (.slice none 0 0) (z1.take 0)] []) := (own_start _).nil 3 1
    go_wp2
    go_loopw [9, 10] (fun x i wr => ∃ k : Nat, k ≤ zl ∧ k ≤ 80 ∧ i = .int .i64 k ∧ Hid (Own b2 wr [eInts x (z1.take k)] [])) (fun _ i _ => 80 - (intOf i).toNat)
    case atStart => exact ⟨0, by omega, by omega, rfl, HS⟩
    case round =>
      clear HS
      obtain ⟨k, hk, hk8, rfl, HS⟩ := hrel
      have hkl : (z1.take k).length = k := by rw [List.length_take, HL.out]; omega
      have HEnd : Hid (k = zl ∨ k = 80 → z1.take k = z1.take 80) := fun h => by
        rcases h with h | h
        · rw [List.take_of_length_le (by rw [HL.out]; omega), List.take_of_length_le (by rw [HL.out]; omega)]
        · rw [h]
      by_cases hlt : k < zl
      · by_cases h8 : k < 80
        · have hkz : k < z1.length := by rw [HL.out]; exact hlt
          have hZ := Z.out.on HS.out.below
          obtain ⟨ada, rfl, hab, hac, _⟩ := hZ.get (List.getElem?_eq_getElem hkz)
          have e1 : (k : Int) < (zl : Int) := by omega
          have e2 : (k : Int) < 80 := by omega
          have HT : Hid (z1.take (k + 1) = z1.take k ++ [z1[k]]) := (List.take_append_getElem hkz).symm
          clear hZ hab
          generalize z1[k] = a at *
          clear hkz
          skip
          go_wp2_with (at_builtin; refine own_int rfl _ _ rfl rfl HS.out rfl (by omega) ?_)
          intro g2 cap w4 ho
          have HG : Hid (Own b2 w4 [eInts (.slice (some ⟨g2, 0, none⟩) (k + 1) cap) (z1.take (k + 1))] []) := by unfold Hid; rw [HT.out]; simpa [hkl] using ho
          clear ho HS hac
          try rw [hkl]
          go_wp2
          go_roundw
          case rel => exact ⟨k + 1, by omega, by omega, by go_num, HG⟩
          case measure => simp [intOf]; omega
        · obtain rfl : k = 80 := by omega
          have e1 : ((80 : Nat) : Int) < (zl : Int) := by omega
          have hend := HEnd.out (.inr rfl)
          obtain ⟨Ax, cx, rfl, hxc, _, hxi⟩ := own_ints_at HS.out (l := z1.take 80) (List.mem_append_left _ List.mem_cons_self) (fun y hy => Z.out.2 y (List.mem_of_mem_take hy))
          have B := Lib.hid (B.out.trans (HS.out.below.mono B.out.size))
          have VA := Lib.hid (VA.out.on HS.out.below)
          have HGo := Lib.hid (HGo.out.on HS.out.below)
          have HX := Lib.hid hxi
          rw [hend] at HX
          have HED2 : Hid (∀ W v A c, DfaAt W W.heap.size v d0 → IntsAt W W.heap.size A (z1.take 80) → Calls Try.prog 13 #[v, .slice A 80 c] W fun e w' => ∃ g A' n' c', e = .returned (.tuple #[.pointer (some ⟨g, 0, none⟩), .slice A' n' c', .bool true]) ∧ Hid (EditR w' g d0 E wd) ∧ Below W.heap.size W w') := fun W v A c h hZ => by
            have h2 := HED.out W v A c h hZ
            rwa [← hend, hkl] at h2
          rw [hkl] at hxc ⊢
          clear HED HS Z hend hkl HEnd hxi
          obtain ⟨t0, t1, t2, t3, t4⟩ := VA.out.box
          go_wp2_with fail
          refine (HED2.out _ _ _ _ VA.out.at_ HX.out).mono ?_
          rintro e b31 ⟨ge, Ae, ne, ce, rfl, HR, hb⟩
          have B := Lib.hid (B.out.trans (hb.mono B.out.size))
          have HGo := Lib.hid (HGo.out.on hb)
          clear hb HED2 VA HX t0 t1 t2 t3 t4
          go_wp2_with fail
          refine (HOe.out _ _ HR.out).mono ?_
          rintro e b32 ⟨Ao, co, rfl, HI, hb⟩
          have B := Lib.hid (B.out.trans (hb.mono B.out.size))
          have HGo := Lib.hid (HGo.out.on hb)
          clear hb HOe HR
          go_wp2_with fail
          refine (HOg.out _ _ HGo.out).mono ?_
          rintro e b33 ⟨Ap, cp, rfl, HI2, hb⟩
          have B := Lib.hid (B.out.trans (hb.mono B.out.size))
          have HI := Lib.hid (HI.out.on hb)
          clear hb HOg HGo
          go_wp2_with fail
          refine (HSm.out _ _ _ _ _ HI.out HI2.out).mono ?_
          rintro e b34 ⟨rfl, hb⟩
          have B := Lib.hid (B.out.trans (hb.mono B.out.size))
          clear hb HSm HI HI2
          go_wp2
          go_ret
          exact ⟨rfl, B.out⟩
      · obtain rfl : k = zl := by omega
        have hend := HEnd.out (.inl rfl)
        obtain ⟨Ax, cx, rfl, hxc, _, hxi⟩ := own_ints_at HS.out (l := z1.take k) (List.mem_append_left _ List.mem_cons_self) (fun y hy => Z.out.2 y (List.mem_of_mem_take hy))
        have B := Lib.hid (B.out.trans (HS.out.below.mono B.out.size))
        have VA := Lib.hid (VA.out.on HS.out.below)
        have HGo := Lib.hid (HGo.out.on HS.out.below)
        have HX := Lib.hid hxi
        rw [hend] at HX
        have HED2 : Hid (∀ W v A c, DfaAt W W.heap.size v d0 → IntsAt W W.heap.size A (z1.take 80) → Calls Try.prog 13 #[v, .slice A k c] W fun e w' => ∃ g A' n' c', e = .returned (.tuple #[.pointer (some ⟨g, 0, none⟩), .slice A' n' c', .bool true]) ∧ Hid (EditR w' g d0 E wd) ∧ Below W.heap.size W w') := fun W v A c h hZ => by
          have h2 := HED.out W v A c h hZ
          rwa [← hend, hkl] at h2
        rw [hkl] at hxc ⊢
        clear HED HS Z hend hkl HEnd hxi
        obtain ⟨t0, t1, t2, t3, t4⟩ := VA.out.box
        go_wp2_with fail
        refine (HED2.out _ _ _ _ VA.out.at_ HX.out).mono ?_
        rintro e b31 ⟨ge, Ae, ne, ce, rfl, HR, hb⟩
        have B := Lib.hid (B.out.trans (hb.mono B.out.size))
        have HGo := Lib.hid (HGo.out.on hb)
        clear hb HED2 VA HX t0 t1 t2 t3 t4
        go_wp2_with fail
        refine (HOe.out _ _ HR.out).mono ?_
        rintro e b32 ⟨Ao, co, rfl, HI, hb⟩
        have B := Lib.hid (B.out.trans (hb.mono B.out.size))
        have HGo := Lib.hid (HGo.out.on hb)
        clear hb HOe HR
        go_wp2_with fail
        refine (HOg.out _ _ HGo.out).mono ?_
        rintro e b33 ⟨Ap, cp, rfl, HI2, hb⟩
        have B := Lib.hid (B.out.trans (hb.mono B.out.size))
        have HI := Lib.hid (HI.out.on hb)
        clear hb HOg HGo
        go_wp2_with fail
        refine (HSm.out _ _ _ _ _ HI.out HI2.out).mono ?_
        rintro e b34 ⟨rfl, hb⟩
        have B := Lib.hid (B.out.trans (hb.mono B.out.size))
        clear hb HSm HI HI2
        go_wp2
        go_ret
        exact ⟨rfl, B.out⟩
  · have HGB := Lib.hid (fun W v A n c (h : DfaAt W W.heap.size v d0) => gated_bad v d0 A n c W h hg)
    clear hg hr m1
    rw [hzl]
    clear hzl
    go_enter Try.func7, Try.ntmps7
    go_wp2_with fail
    rw [← W0.out]
    clear W0
    refine (HF.out _).mono ?_
    rintro e b1 ⟨rfl, hb⟩
    have Z := Lib.hid (Z.out.on hb)
    have VA := Lib.hid (VA.out.on hb)
    have B := Lib.hid (B.out.trans (hb.mono B.out.size))
    clear hb  HF
    obtain ⟨p0, p1, p2, p3, p4⟩ := VA.out.box
    go_wp2_with fail
    refine (HGB.out _ _ _ _ _ VA.out.at_).mono ?_
    rintro e b2 ⟨rfl, hb⟩
    have Z := Lib.hid (Z.out.on hb)
    have VA := Lib.hid (VA.out.on hb)
    have B := Lib.hid (B.out.trans (hb.mono B.out.size))
    clear hb p0 p1 p2 p3 p4 HGB
    go_wp2
    go_ret
    exact ⟨rfl, B.out⟩


set_option maxRecDepth 100000 in
theorem lifted (os : Os) (started : os.Started) (H : Type) (enc : TypeId × Value → H) :
    ReturnsInHanded {} Try.checked os 7 .any (Rows.editGateSpec.pre6 enc Try.prog Try.f7 Rows.editGateRow.domain false) (Rows.editGateSpec.post enc Try.prog Try.f7 false true false false) := by
  refine returnsInHanded_of_change_sized (C := Try.checked) own started (by kernel_rfl) Try.func7
    (ChangeSpec.witness6 (enc := enc) (C := Try.checked) false ⟨#[], #[.agg #[.int .i64 0, .int .i64 0, .slice none 0 0, .slice none 0 0], .slice none 0 0], []⟩ 8 (by kernel_rfl) (by kernel_rfl) (by kernel_rfl) (by kernel_rfl)) ?_
  intro W base args ds gs before hval0 hW hcnd hsz0 _
  have hval : ∀ (j : Nat) t v, Try.f7.params[j]? = some t → args[j]? = some v → Value.okWide Try.prog W .any base t v := hval0
  have hsz : (DataW.weightsEach Try.prog (Try.f7.params.toList ++ Rows.editGateSpec.plain.varTypes Try.prog) (ds ++ gs)).all (· ≤ reachBytes) = true := hsz0
  have hW' := hW
  obtain ⟨p, q, hA0, hV0, rfl, hfz, hnd⟩ := hW
  have hV : DataW.TrodVars enc Try.prog W (fun _ => true) [] gs q := hV0
  have hA : DataW.TrodAll enc Try.prog W 0 (fun _ => true) true Try.f7.params.toList args.toList ds p := hA0
  rw [Try.params7] at hA hval hsz
  obtain ⟨v0, vs0, d0, ds0, p0, q0, hargs, rfl, rfl, h0, rr0⟩ := trodAll_cons hA
  obtain ⟨v1, vs1, d1, ds1, p1, q1, rfl, rfl, rfl, h1, rr1⟩ := trodAll_cons rr0
  obtain ⟨rfl, rfl, rfl⟩ := trodAll_nil rr1
  obtain rfl : args = #[v0, v1] := by cases args; simp_all
  obtain ⟨rfl, rfl⟩ := trodVars_none hV
  have k0 := h0
  have lt0 : ∀ x ∈ p0, x.block < W.heap.size := by obtain ⟨m, hm⟩ := k0; exact DataW.trod_lt m _ _ _ hm
  have k1 := h1
  have lt1 : ∀ x ∈ p1, x.block < W.heap.size := by obtain ⟨m, hm⟩ := k1; exact DataW.trod_lt m _ _ _ hm
  obtain ⟨D0, x0⟩ : ∃ d : Df.Aut, Df.DfaAt W W.heap.size v0 d := Df.dfa_open (hval 0 25 v0 rfl rfl) h0
  obtain ⟨A1, len1, c1, rfl⟩ := okWide_slice Try.underlying26 (hval 1 26 v1 rfl rfl)
  obtain ⟨z1, rfl, x1, r1, m1⟩ : ∃ zs : List Int, len1 = zs.length ∧ IntsAt W W.heap.size A1 zs ∧ zs.length ≤ 17592186043904 ∧ zs.length ≤ c1 := by
    obtain ⟨fuel, hf⟩ := h1
    rcases open_ints Try.underlying26 Try.underlying3 (by kernel_rfl) hf with ⟨hcs, _⟩ | ⟨x, l, c, zs, hcs, _, hl, hm, hz, hx, hcell, hwz⟩
    · simp [Value.cells] at hcs
      obtain ⟨rfl, rfl, rfl⟩ := hcs
      exact ⟨[], rfl, IntsAt.nil _ _ _, by simp, by simp⟩
    · simp [Value.cells] at hcs
      obtain ⟨rfl, rfl, rfl⟩ := hcs
      have hd := congrArg Prod.fst hx
      simp only at hd
      have := sized_slice hsz (j := 1) (t := 26) (e := 3) rfl (by rw [hd]; rfl) Try.underlying26
      rw [(show Try.prog.bytesOf 3 = 8 by kernel_rfl)] at this
      simp only [reachBytes, lits, List.length_map, List.length_take, List.length_drop] at this
      have hz' : zs.length = c1 := by simpa using hz
      exact ⟨zs.take len1, by rw [List.length_take]; omega, intsAt_of_open hcell hwz len1, by rw [List.length_take]; omega, by rw [List.length_take]; omega⟩
  clear hA0 hval0
  refine (walk v0 D0 A1 c1 z1 W x0 x1 r1 m1).mono fun e W' ⟨he, bel⟩ => ?_
  subst he
  exact ⟨_, rfl, _, _, _, [], _, [], hW', trodAll_mk1 (shut_bool Try.underlying4 _), (trodAll_cons_mk (Below.trod laidOut (by kernel_rfl) (of_decide_eq_true (by kernel_rfl)) k0 bel lt0) (trodAll_cons_mk (Below.trod laidOut (by kernel_rfl) (of_decide_eq_true (by kernel_rfl)) k1 bel lt1) trodAll_mk0)), rfl, bel.frame _, fun h => by cases h⟩

theorem over : Rows.editGateRow.holds Try.pinned (OpenSpec.ofChange Rows.editGateSpec) :=
  OpenClaim.holds_of_wide 7 Try.f7 rfl rfl rfl rfl rfl rfl rfl ⟨rfl, rfl, rfl, rfl, rfl⟩ rfl rfl rfl rfl rfl (by kernel_rfl) Try.func7 (by kernel_rfl)
    (of_decide_eq_true (by kernel_rfl)) (by unfold Func.isWrapper; rw [if_neg (of_decide_eq_false (by kernel_rfl))]; exact ⟨rfl, rfl⟩)
    (fun os started H enc _ => lifted os started H enc)
theorem proved : Rows.EditGateSaid := over
#print axioms proved
end Go.Proofs.Ytendgfbnkpbndaa.editGate
