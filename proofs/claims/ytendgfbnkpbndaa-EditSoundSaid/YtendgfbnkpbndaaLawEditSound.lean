/-
  The statement EditSoundSaid of this seat, proved: for every input the law returns true and its arguments read behind the call as before. Conditions: none but the row's own (each argument within the reach).
-/
import Derived.Test.YtendgfbnkpbndaaRows
import Derived.Test.YtendgfbnkpbndaaWords
import Derived.WalkKit
import Derived.ProofKit
import Derived.OpenShut
import Derived.ShutString
import Derived.ChangeOld
import Derived.Below
import Derived.SizedLaws
import Derived.Lib.Hide
import Derived.Test.YtendgfbnkpbndaaEditL
import Derived.Test.YtendgfbnkpbndaaGateL
namespace Go.Proofs.Ytendgfbnkpbndaa.editSound
open Go.ChangeShapes Go.WideShapes Go.ChangeAt Go.RowKit Go.IntWalk Go.Proofs.Ytendgfbnkpbndaa.Wd
open Go.ChangeMaps (open_string shut_string)
set_option linter.unusedVariables false

theorem own : ownKnob Try.prog.godebug = none := by kernel_rfl
theorem laidOut : laidOutB Try.prog = true := by kernel_rfl
open Go.Proofs.Ytendgfbnkpbndaa.Wo Go.Proofs.Ytendgfbnkpbndaa.Df Go.Proofs.Ytendgfbnkpbndaa.Rc Go.Proofs.Ytendgfbnkpbndaa.Sm Go.Proofs.Ytendgfbnkpbndaa.Sa Go.Proofs.Ytendgfbnkpbndaa.Ga Go.Proofs.Ytendgfbnkpbndaa.Ed

set_option maxRecDepth 100000 in
set_option maxHeartbeats 4000000 in
theorem walk (v0 : Value) (d0 : Df.Aut) (A1 : Option Addr) (c1 : Nat) (z1 : List Int) (w : World) (h0 : Df.DfaAt w w.heap.size v0 d0) (v1 : IntsAt w w.heap.size A1 z1) (r1 : z1.length ≤ 17592186043904) (m1 : z1.length ≤ c1) :
    Calls Try.prog 3 #[v0, .slice A1 z1.length c1] w fun e w' => e = .returned (.bool true) ∧ Below w.heap.size w w' := by
  have hr : z1.length ≤ 17592186044416 := by omega
  obtain ⟨L0, s0, A0, n0, c0, F0, m0, k0, rfl⟩ := h0.form
  have hN0 := h0.eqs.2.2.1
  obtain ⟨b0, hu0, hb0, VA0⟩ := var_new w h0
  have VA := Lib.hid VA0
  have B := Lib.hid hb0
  have W0 := Lib.hid hu0
  have HN0 := Lib.hid hN0
  have Z := Lib.hid (v1.on hb0)
  clear VA0 hb0 hu0 h0 hN0 v1
  clear HN0
  have HF := Lib.hid editFact_any
  obtain ⟨zl, hzl⟩ : ∃ zl, z1.length = zl := ⟨_, rfl⟩
  rw [hzl] at m1
  by_cases hg : echk d0 = 0
  · obtain ⟨hd, hem⟩ := echk_iff.1 hg
    have HNw := Lib.hid (fun W v (h : DfaAt W W.heap.size v d0) => enew_ok v d0 W h hd hem)
    have HOK : Hid (∀ l, Eok d0 (eoffers d0 (edit0 d0, []) l).1 (eoffers d0 (edit0 d0, []) l).2) := fun l => eok_offers (p := (edit0 d0, [])) (eok_start hem) l
    have HGd := Lib.hid hd
    rw [hzl]
    have HL := Lib.hid hzl
    clear hg hd hem hzl
    go_enter Try.func3, Try.ntmps3
    go_wp2_with fail
    rw [← W0.out]
    clear W0
    refine (HF.out _).mono ?_
    rintro e b1 ⟨rfl, hb⟩
    have Z := Lib.hid (Z.out.on hb)
    have VA := Lib.hid (VA.out.on hb)
    have B := Lib.hid (B.out.trans (hb.mono B.out.size))
    clear hb  HF
    obtain ⟨p0, p1, p2, p3, p4⟩ := VA.out.box
    go_wp2_with fail
    refine (HNw.out _ _ VA.out.at_).mono ?_
    rintro e x1 he
    obtain ⟨g, rfl, hG⟩ := he.out
    have HS : Hid (EditW b1 x1 g d0 (eoffers d0 (edit0 d0, []) (z1.take 0)).1 [] []) := hG
    clear he hG HNw p0 p1 p2 p3 p4
    go_wp2
    go_loopw [8] (fun i wr => ∃ k : Nat, k ≤ zl + 1 ∧ k ≤ 200 ∧ i = .int .i64 k ∧ Hid (EditW b1 wr g d0 (eoffers d0 (edit0 d0, []) (z1.take k)).1 [] [])) (fun i _ => 200 - (intOf i).toNat)
    case atStart => exact ⟨0, by omega, by omega, rfl, HS⟩
    case round =>
      clear HS
      obtain ⟨k, hk, hk2, rfl, HS⟩ := hrel
      have hok := HOK.out (z1.take k)
      by_cases hlt : k ≤ zl
      · by_cases h8 : k < 200
        · have e1 : (k : Int) ≤ (zl : Int) := by omega
          have e2 : (k : Int) < 200 := by omega
          have HT : Hid (∀ (h : k < z1.length), (eoffers d0 (edit0 d0, []) (z1.take (k + 1))).1 = (eoffer d0 (eoffers d0 (edit0 d0, []) (z1.take k)).1 z1[k]).2.2) := fun h => by rw [eoffers_take _ _ _ h]
          have HT2 : Hid (k = zl → (eoffers d0 (edit0 d0, []) (z1.take (k + 1))).1 = (eoffers d0 (edit0 d0, []) (z1.take k)).1) := fun h => by rw [List.take_of_length_le (by rw [HL.out]; omega), List.take_of_length_le (by rw [HL.out]; omega)]
          have HK := Lib.hid hok
          clear hok
          generalize (eoffers d0 (edit0 d0, []) (z1.take k)).2 = wd at *
          generalize (eoffers d0 (edit0 d0, []) (z1.take k)).1 = E at *
          obtain ⟨p, hp⟩ : ∃ p, E.out.length = p := ⟨_, rfl⟩
          have hacc := HK.out.acc
          have hw : Word d0.L E.out := fun a ha => HK.out.word a (by rw [← HK.out.all]; exact List.mem_append_left _ ha)
          have hp80 : E.out.length ≤ 80 := by have h1 := HK.out.len; rw [← HK.out.all, List.length_append] at h1; omega
          have HO : Hid (∀ W, EditW b1 W g d0 E [] [] → Calls Try.prog 11 #[.pointer (some ⟨g, 0, none⟩)] W fun e w' => ∃ A c, e = .returned (.slice A p c) ∧ Hid (IntsAt w' w'.heap.size A E.out) ∧ Below W.heap.size W w') := fun W h => (eout_gives h HGd.out HK.out).mono fun e w' ⟨A, c, k1, k2, _, k3⟩ => by
            rw [hp] at k1
            exact ⟨A, c, k1, k2, k3⟩
          have HAC : Hid (∀ W v Z cz, DfaAt W W.heap.size v d0 → IntsAt W W.heap.size Z E.out → Calls Try.prog 10 #[v, .slice Z p cz] W fun e w' => e = .returned (.tuple #[.bool true, .nilIface]) ∧ Below W.heap.size W w') := fun W v Z cz k1 k2 => by
            have h := acc_is (cz := cz) k1 k2 HGd.out hw hp80
            rwa [hp, hacc] at h
          clear hacc hw hp80 hp
          have VAw := Lib.hid (VA.out.on HS.out.below)
          have HK4 : Hid (∀ W, Below wr.heap.size wr W → W.cell? ⟨w.heap.size, 0, none⟩ = some (.int .i64 L0) ∧ W.cell? ⟨w.heap.size, 1, none⟩ = some (.int .i64 s0) ∧ W.cell? ⟨w.heap.size, 2, none⟩ = some (.slice A0 n0 c0) ∧ W.cell? ⟨w.heap.size, 3, none⟩ = some (.slice F0 m0 k0)) := fun W hW => ⟨(VAw.out.box.on hW).c0, (VAw.out.box.on hW).c1, (VAw.out.box.on hW).c2, (VAw.out.box.on hW).c3⟩
          have HD : Hid (Below wr.heap.size wr wr.drew) := (Below.refl _ _).drew
          go_wp2_with fail
          go_region_held3 (fun W => W.cell? ⟨w.heap.size, 0, none⟩ = some (.int .i64 L0) ∧ W.cell? ⟨w.heap.size, 1, none⟩ = some (.int .i64 s0) ∧ W.cell? ⟨w.heap.size, 2, none⟩ = some (.slice A0 n0 c0) ∧ W.cell? ⟨w.heap.size, 3, none⟩ = some (.slice F0 m0 k0))
            (first | exact HK4.out _ HB6.out | exact HK4.out _ HB5.out | exact HK4.out _ HD.out)
            (first | (go_at_call 10; refine (HAC.out _ _ _ _ (VAw.out.at_.on HB5.out) HI.out).mono ?_; rintro e w6 ⟨rfl, hb⟩; have HB6 := Lib.hid (HB5.out.trans (hb.mono HB5.out.size)); clear hb) | (go_at_call 11; refine (HO.out _ (HS.out.on HD.out)).mono ?_; rintro e w5 ⟨Ao, co, rfl, HI, hb⟩; have HB5 := Lib.hid (HD.out.trans (hb.mono HD.out.size)); clear hb))
          all_goals
            have HS := Lib.hid (HS.out.on HB6.out)
            clear HK4 HD HO HAC VAw HB6 HB5 HI
            by_cases hl2 : k < zl
            · have hkz : k < z1.length := by rw [HL.out]; exact hl2
              have e3 : (k : Int) < (zl : Int) := by omega
              have hZ := Z.out.on HS.out.below
              obtain ⟨ada, rfl, hab, hac, _⟩ := hZ.get (List.getElem?_eq_getElem hkz)
              have HOf := Lib.hid (eoffer_any b1 w6 g d0 E wd [] [] z1[k] HS.out HGd.out HK.out (hZ.2 _ (List.getElem_mem hkz)))
              have HT := Lib.hid (HT.out hkz)
              clear HS hZ hab HK
              generalize z1[k] = a at *
              clear hkz
              generalize eoffer d0 E a = R at *
              go_wp2_with fail
              refine HOf.out.mono ?_
              rintro e w7 he
              obtain ⟨A3, c3, he2, _, hG⟩ := he.out
              have HG : Hid (EditW b1 w7 g d0 (eoffers d0 (edit0 d0, []) (z1.take (k + 1))).1 [] []) := by unfold Hid; rw [HT.out]; exact hG
              clear he HOf hac hG HT
              generalize R.2.1.length = n3 at *
              generalize errV R.1 = E3 at *
              subst he2
              go_wp2
              go_roundw
              case rel => exact ⟨k + 1, by omega, by omega, by go_num, HG⟩
              case measure => simp [intOf]; omega
            · obtain rfl : k = zl := by omega
              have HG : Hid (EditW b1 w6 g d0 (eoffers d0 (edit0 d0, []) (z1.take (k + 1))).1 [] []) := by unfold Hid; rw [HT2.out rfl]; exact HS.out
              clear HS
              go_wp2
              go_roundw
              case rel => exact ⟨k + 1, by omega, by omega, by go_num, HG⟩
              case measure => simp [intOf]; omega
        · obtain rfl : k = 200 := by omega
          have e1 : ((200 : Nat) : Int) ≤ (zl : Int) := by omega
          have HE := Lib.hid (B.out.trans (HS.out.below.mono B.out.size))
          clear HS hok
          go_wp2
          go_ret
          exact ⟨rfl, HE.out⟩
      · have e1 : ¬ (k : Int) ≤ (zl : Int) := by omega
        have HE := Lib.hid (B.out.trans (HS.out.below.mono B.out.size))
        clear HS hok
        go_wp2
        go_ret
        exact ⟨rfl, HE.out⟩
  · have HGB := Lib.hid (fun W v (h : DfaAt W W.heap.size v d0) => enew_bad v d0 W h hg)
    obtain ⟨E0, hE0⟩ := errV_bad hg
    rw [hE0] at HGB
    rw [hzl]
    clear hg hr m1 hzl hE0
    go_enter Try.func3, Try.ntmps3
    go_wp2_with fail
    rw [← W0.out]
    clear W0
    refine (HF.out _).mono ?_
    rintro e b1 ⟨rfl, hb⟩
    have Z := Lib.hid (Z.out.on hb)
    have VA := Lib.hid (VA.out.on hb)
    have B := Lib.hid (B.out.trans (hb.mono B.out.size))
    clear hb  HF
    obtain ⟨p0, p1, p2, p3, p4⟩ := VA.out.box
    go_wp2_with fail
    refine (HGB.out _ _ VA.out.at_).mono ?_
    rintro e b9 ⟨he, hb⟩
    obtain rfl := he.out
    have B := Lib.hid (B.out.trans (hb.mono B.out.size))
    clear he hb HGB p0 p1 p2 p3 p4
    go_wp2
    go_ret
    exact ⟨rfl, B.out⟩


set_option maxRecDepth 100000 in
theorem lifted (os : Os) (started : os.Started) (H : Type) (enc : TypeId × Value → H) :
    ReturnsInHanded {} Try.checked os 3 .any (Rows.editSoundSpec.pre6 enc Try.prog Try.f3 Rows.editSoundRow.domain false) (Rows.editSoundSpec.post enc Try.prog Try.f3 false true false false) := by
  refine returnsInHanded_of_change_sized (C := Try.checked) own started (by kernel_rfl) Try.func3
    (ChangeSpec.witness6 (enc := enc) (C := Try.checked) false ⟨#[], #[.agg #[.int .i64 0, .int .i64 0, .slice none 0 0, .slice none 0 0], .slice none 0 0], []⟩ 8 (by kernel_rfl) (by kernel_rfl) (by kernel_rfl) (by kernel_rfl)) ?_
  intro W base args ds gs before hval0 hW hcnd hsz0 _
  have hval : ∀ (j : Nat) t v, Try.f3.params[j]? = some t → args[j]? = some v → Value.okWide Try.prog W .any base t v := hval0
  have hsz : (DataW.weightsEach Try.prog (Try.f3.params.toList ++ Rows.editSoundSpec.plain.varTypes Try.prog) (ds ++ gs)).all (· ≤ reachBytes) = true := hsz0
  have hW' := hW
  obtain ⟨p, q, hA0, hV0, rfl, hfz, hnd⟩ := hW
  have hV : DataW.TrodVars enc Try.prog W (fun _ => true) [] gs q := hV0
  have hA : DataW.TrodAll enc Try.prog W 0 (fun _ => true) true Try.f3.params.toList args.toList ds p := hA0
  rw [Try.params3] at hA hval hsz
  obtain ⟨v0, vs0, d0, ds0, p0, q0, hargs, rfl, rfl, h0, rr0⟩ := trodAll_cons hA
  obtain ⟨v1, vs1, d1, ds1, p1, q1, rfl, rfl, rfl, h1, rr1⟩ := trodAll_cons rr0
  obtain ⟨rfl, rfl, rfl⟩ := trodAll_nil rr1
  obtain rfl : args = #[v0, v1] := by cases args; simp_all
  obtain ⟨rfl, rfl⟩ := trodVars_none hV
  have k0 := h0
  have lt0 : ∀ x ∈ p0, x.block < W.heap.size := by obtain ⟨m, hm⟩ := k0; exact DataW.trod_lt m _ _ _ hm
  have k1 := h1
  have lt1 : ∀ x ∈ p1, x.block < W.heap.size := by obtain ⟨m, hm⟩ := k1; exact DataW.trod_lt m _ _ _ hm
  obtain ⟨D0, x0⟩ : ∃ d : Df.Aut, Df.DfaAt W W.heap.size v0 d := Df.dfa_open (hval 0 25 v0 rfl rfl) h0
  obtain ⟨A1, len1, c1, rfl⟩ := okWide_slice Try.underlying26 (hval 1 26 v1 rfl rfl)
  obtain ⟨z1, rfl, x1, r1, m1⟩ : ∃ zs : List Int, len1 = zs.length ∧ IntsAt W W.heap.size A1 zs ∧ zs.length ≤ 17592186043904 ∧ zs.length ≤ c1 := by
    obtain ⟨fuel, hf⟩ := h1
    rcases open_ints Try.underlying26 Try.underlying3 (by kernel_rfl) hf with ⟨hcs, _⟩ | ⟨x, l, c, zs, hcs, _, hl, hm, hz, hx, hcell, hwz⟩
    · simp [Value.cells] at hcs
      obtain ⟨rfl, rfl, rfl⟩ := hcs
      exact ⟨[], rfl, IntsAt.nil _ _ _, by simp, by simp⟩
    · simp [Value.cells] at hcs
      obtain ⟨rfl, rfl, rfl⟩ := hcs
      have hd := congrArg Prod.fst hx
      simp only at hd
      have := sized_slice hsz (j := 1) (t := 26) (e := 3) rfl (by rw [hd]; rfl) Try.underlying26
      rw [(show Try.prog.bytesOf 3 = 8 by kernel_rfl)] at this
      simp only [reachBytes, lits, List.length_map, List.length_take, List.length_drop] at this
      have hz' : zs.length = c1 := by simpa using hz
      exact ⟨zs.take len1, by rw [List.length_take]; omega, intsAt_of_open hcell hwz len1, by rw [List.length_take]; omega, by rw [List.length_take]; omega⟩
  clear hA0 hval0
  refine (walk v0 D0 A1 c1 z1 W x0 x1 r1 m1).mono fun e W' ⟨he, bel⟩ => ?_
  subst he
  exact ⟨_, rfl, _, _, _, [], _, [], hW', trodAll_mk1 (shut_bool Try.underlying4 _), (trodAll_cons_mk (Below.trod laidOut (by kernel_rfl) (of_decide_eq_true (by kernel_rfl)) k0 bel lt0) (trodAll_cons_mk (Below.trod laidOut (by kernel_rfl) (of_decide_eq_true (by kernel_rfl)) k1 bel lt1) trodAll_mk0)), rfl, bel.frame _, fun h => by cases h⟩

theorem over : Rows.editSoundRow.holds Try.pinned (OpenSpec.ofChange Rows.editSoundSpec) :=
  OpenClaim.holds_of_wide 3 Try.f3 rfl rfl rfl rfl rfl rfl rfl ⟨rfl, rfl, rfl, rfl, rfl⟩ rfl rfl rfl rfl rfl (by kernel_rfl) Try.func3 (by kernel_rfl)
    (of_decide_eq_true (by kernel_rfl)) (by unfold Func.isWrapper; rw [if_neg (of_decide_eq_false (by kernel_rfl))]; exact ⟨rfl, rfl⟩)
    (fun os started H enc _ => lifted os started H enc)
theorem proved : Rows.EditSoundSaid := over
#print axioms proved
end Go.Proofs.Ytendgfbnkpbndaa.editSound
