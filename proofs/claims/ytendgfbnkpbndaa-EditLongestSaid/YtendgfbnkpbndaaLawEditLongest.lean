/-
  The statement EditLongestSaid of this seat, proved: for every input the law returns true and its arguments read behind the call as before. Conditions: none but the row's own (each argument within the reach).
-/
import Derived.Test.YtendgfbnkpbndaaRows
import Derived.Test.YtendgfbnkpbndaaWords
import Derived.WalkKit
import Derived.ProofKit
import Derived.OpenShut
import Derived.ShutString
import Derived.ChangeOld
import Derived.Below
import Derived.SizedLaws
import Derived.Lib.Hide
import Derived.Test.YtendgfbnkpbndaaEditL
import Derived.Test.YtendgfbnkpbndaaGateL
namespace Go.Proofs.Ytendgfbnkpbndaa.editLongest
open Go.ChangeShapes Go.WideShapes Go.ChangeAt Go.RowKit Go.IntWalk Go.Proofs.Ytendgfbnkpbndaa.Wd
open Go.ChangeMaps (open_string shut_string)
set_option linter.unusedVariables false

theorem own : ownKnob Try.prog.godebug = none := by kernel_rfl
theorem laidOut : laidOutB Try.prog = true := by kernel_rfl
open Go.Proofs.Ytendgfbnkpbndaa.Wo Go.Proofs.Ytendgfbnkpbndaa.Df Go.Proofs.Ytendgfbnkpbndaa.Rc Go.Proofs.Ytendgfbnkpbndaa.Sm Go.Proofs.Ytendgfbnkpbndaa.Sa Go.Proofs.Ytendgfbnkpbndaa.Ga Go.Proofs.Ytendgfbnkpbndaa.Ed

set_option maxRecDepth 100000 in
set_option maxHeartbeats 4000000 in
theorem walk (v0 : Value) (d0 : Df.Aut) (A1 : Option Addr) (c1 : Nat) (z1 : List Int) (w : World) (h0 : Df.DfaAt w w.heap.size v0 d0) (v1 : IntsAt w w.heap.size A1 z1) (r1 : z1.length ≤ 17592186043904) (m1 : z1.length ≤ c1) :
    Calls Try.prog 6 #[v0, .slice A1 z1.length c1] w fun e w' => e = .returned (.bool true) ∧ Below w.heap.size w w' := by
  have hr : z1.length ≤ 17592186044416 := by omega
  obtain ⟨L0, s0, A0, n0, c0, F0, m0, k0, rfl⟩ := h0.form
  have hN0 := h0.eqs.2.2.1
  obtain ⟨b0, hu0, hb0, VA0⟩ := var_new w h0
  have VA := Lib.hid VA0
  have B := Lib.hid hb0
  have W0 := Lib.hid hu0
  have HN0 := Lib.hid hN0
  have Z := Lib.hid (v1.on hb0)
  clear VA0 hb0 hu0 h0 hN0 v1
  clear HN0
  have HF := Lib.hid editFact_any
  obtain ⟨zl, hzl⟩ : ∃ zl, z1.length = zl := ⟨_, rfl⟩
  rw [hzl] at m1
  by_cases hg : echk d0 = 0
  · obtain ⟨hd, hem⟩ := echk_iff.1 hg
    obtain ⟨E, wd, hEE⟩ : ∃ E wd, eoffers d0 (edit0 d0, []) (z1.take 200) = (E, wd) := ⟨_, _, rfl⟩
    have hok := eok_offers (p := (edit0 d0, [])) (eok_start hem) (z1.take 200)
    rw [hEE] at hok
    change Eok d0 E wd at hok
    have HED := Lib.hid (fun W v A c (h : DfaAt W W.heap.size v d0) (hZ : IntsAt W W.heap.size A z1) => edited_gives (c := c) h hZ hr hg hEE)
    clear hEE
    obtain ⟨n, hn⟩ : ∃ n, wd.length = n := ⟨_, rfl⟩
    have hlen : E.out.length + E.held.length = wd.length := by rw [← hok.all, List.length_append]
    rw [hzl, hn] at HED
    rw [hn] at hlen
    rw [hzl]
    have hw80 := hok.len
    rw [hn] at hw80
    obtain ⟨p, hp⟩ : ∃ p, E.out.length = p := ⟨_, rfl⟩
    obtain ⟨hbeg, hle⟩ := eok_out hok
    rw [hp] at hbeg hlen hle
    rw [hn] at hle
    have hno := hok.no
    rw [hp, hn] at hno
    have HBe : Hid (∀ W A B ca cb, IntsAt W W.heap.size A E.out → IntsAt W W.heap.size B wd → n ≤ cb → Calls Try.prog 17 #[.slice A p ca, .slice B n cb] W fun e w' => e = .returned (.bool true) ∧ Below W.heap.size W w') := fun W A B ca cb k1 k2 k3 => by
      have h := begins_any A B ca cb E.out wd W k1 k2 (by rw [hp]; omega) (by omega)
      rw [hp, hn] at h
      exact h.mono fun e w' ⟨k4, k5⟩ => ⟨by rw [k4.out, decide_eq_true hbeg], k5⟩
    have HAu : Hid (∀ k, p + 1 ≤ k → k ≤ n → ∀ W v B cb, DfaAt W W.heap.size v d0 → IntsAt W W.heap.size B wd → Calls Try.prog 10 #[v, .slice B k cb] W fun e w' => e = .returned (.tuple #[.bool false, .nilIface]) ∧ Below W.heap.size W w') := fun k h1 h2 W v B cb k1 k2 => by
      have h := acc_upto (cz := cb) (k := k) k1 k2 hd hok.word hok.len (by omega)
      rwa [hno k (by omega) h2] at h
    have HOu : Hid (∀ W g, EditR W g d0 E wd → Calls Try.prog 11 #[.pointer (some ⟨g, 0, none⟩)] W fun e w' => ∃ A c, e = .returned (.slice A p c) ∧ Hid (IntsAt w' w'.heap.size A E.out) ∧ Below W.heap.size W w') := fun W g h => (rout_e h).mono fun e w' ⟨A, c, k1, k2, _, k3⟩ => by
      rw [hp] at k1
      exact ⟨A, c, k1, k2, k3⟩
    clear hg hd hem hok hzl hp hn hbeg hno
    go_enter Try.func6, Try.ntmps6
    go_wp2_with fail
    rw [← W0.out]
    clear W0
    refine (HF.out _).mono ?_
    rintro e b1 ⟨rfl, hb⟩
    have Z := Lib.hid (Z.out.on hb)
    have VA := Lib.hid (VA.out.on hb)
    have B := Lib.hid (B.out.trans (hb.mono B.out.size))
    clear hb  HF
    obtain ⟨p0, p1, p2, p3, p4⟩ := VA.out.box
    go_wp2_with fail
    refine (HED.out _ _ _ _ VA.out.at_ Z.out).mono ?_
    rintro e b2 ⟨g, Ai, ci, rfl, HR, HIn, hci, hb⟩
    have Z := Lib.hid (Z.out.on hb)
    have VA := Lib.hid (VA.out.on hb)
    have B := Lib.hid (B.out.trans (hb.mono B.out.size))
    clear hb p0 p1 p2 p3 p4 HED
    have HCi := Lib.hid hci.out
    clear hci
    clear Z
    go_wp2_with fail
    refine (HOu.out _ _ HR.out).mono ?_
    rintro e b3 ⟨Ao, co, rfl, HO, hb⟩
    have HR := Lib.hid (HR.out.on hb)
    have HIn := Lib.hid (HIn.out.on hb)
    have VA := Lib.hid (VA.out.on hb)
    have B := Lib.hid (B.out.trans (hb.mono B.out.size))
    clear hb  HOu
    clear HR
    go_wp2
    go_loopw [10] (fun i wr => ∃ k : Nat, p + 1 ≤ k ∧ k ≤ n + 1 ∧ i = .int .i64 k ∧ Hid (Below b3.heap.size b3 wr)) (fun i _ => n + 1 - (intOf i).toNat)
    case atStart => exact ⟨p + 1, by omega, by omega, by go_num, Lib.hid (Below.refl _ _)⟩
    case round =>
      obtain ⟨k, hk1, hk2, rfl, HBw⟩ := hrel
      have VA := Lib.hid (VA.out.on HBw.out)
      have HIn := Lib.hid (HIn.out.on HBw.out)
      have HO := Lib.hid (HO.out.on HBw.out)
      have B := Lib.hid (B.out.trans (HBw.out.mono B.out.size))
      by_cases hlt : k ≤ n
      · have hcc := HCi.out
        obtain ⟨q0, q1, q2, q3, q4⟩ := VA.out.box
        have HC := Lib.hid (HAu.out k hk1 hlt _ _ _ ci (VA.out.at_.on (Below.refl _ _).drew) (HIn.out.on (Below.refl _ _).drew))
        have e1 : (k : Int) ≤ (n : Int) := by omega
        have e2 : k ≤ ci := by omega
        have e3 : (k : Int) ≤ (ci : Int) := by omega
        clear VA HIn HO B
        go_wp2_with fail
        go_region_with ((go_at_call 10; refine HC.out.mono ?_; rintro e w5 ⟨rfl, hb5⟩))
        all_goals
          have hdr : Below wr.heap.size wr wr.drew := (Below.refl _ _).drew
          have HB5 := Lib.hid (HBw.out.trans ((hdr.trans (hb5.mono hdr.size)).mono HBw.out.size))
          clear hb5 HC q0 q1 q2 q3 q4
          go_wp2
          go_roundw
          case rel => exact ⟨k + 1, by omega, by omega, by go_num, HB5⟩
          case measure => simp [intOf]; omega
      · obtain rfl : k = n + 1 := by omega
        have e1 : ¬ ((n + 1 : Nat) : Int) ≤ (n : Int) := by omega
        clear HBw VA
        go_wp2_with fail
        refine (HBe.out _ _ _ _ _ HO.out HIn.out HCi.out).mono ?_
        rintro e b20 ⟨rfl, hb⟩
        have B := Lib.hid (B.out.trans (hb.mono B.out.size))
        clear hb HO HIn HBe
        go_wp2
        go_ret
        exact ⟨rfl, B.out⟩
  · have HGB := Lib.hid (fun W v A n c (h : DfaAt W W.heap.size v d0) => edited_bad v d0 A n c W h hg)
    clear hg hr m1
    rw [hzl]
    clear hzl
    go_enter Try.func6, Try.ntmps6
    go_wp2_with fail
    rw [← W0.out]
    clear W0
    refine (HF.out _).mono ?_
    rintro e b1 ⟨rfl, hb⟩
    have Z := Lib.hid (Z.out.on hb)
    have VA := Lib.hid (VA.out.on hb)
    have B := Lib.hid (B.out.trans (hb.mono B.out.size))
    clear hb  HF
    obtain ⟨p0, p1, p2, p3, p4⟩ := VA.out.box
    go_wp2_with fail
    refine (HGB.out _ _ _ _ _ VA.out.at_).mono ?_
    rintro e b2 ⟨rfl, hb⟩
    have Z := Lib.hid (Z.out.on hb)
    have VA := Lib.hid (VA.out.on hb)
    have B := Lib.hid (B.out.trans (hb.mono B.out.size))
    clear hb p0 p1 p2 p3 p4 HGB
    go_wp2
    go_ret
    exact ⟨rfl, B.out⟩


set_option maxRecDepth 100000 in
theorem lifted (os : Os) (started : os.Started) (H : Type) (enc : TypeId × Value → H) :
    ReturnsInHanded {} Try.checked os 6 .any (Rows.editLongestSpec.pre6 enc Try.prog Try.f6 Rows.editLongestRow.domain false) (Rows.editLongestSpec.post enc Try.prog Try.f6 false true false false) := by
  refine returnsInHanded_of_change_sized (C := Try.checked) own started (by kernel_rfl) Try.func6
    (ChangeSpec.witness6 (enc := enc) (C := Try.checked) false ⟨#[], #[.agg #[.int .i64 0, .int .i64 0, .slice none 0 0, .slice none 0 0], .slice none 0 0], []⟩ 8 (by kernel_rfl) (by kernel_rfl) (by kernel_rfl) (by kernel_rfl)) ?_
  intro W base args ds gs before hval0 hW hcnd hsz0 _
  have hval : ∀ (j : Nat) t v, Try.f6.params[j]? = some t → args[j]? = some v → Value.okWide Try.prog W .any base t v := hval0
  have hsz : (DataW.weightsEach Try.prog (Try.f6.params.toList ++ Rows.editLongestSpec.plain.varTypes Try.prog) (ds ++ gs)).all (· ≤ reachBytes) = true := hsz0
  have hW' := hW
  obtain ⟨p, q, hA0, hV0, rfl, hfz, hnd⟩ := hW
  have hV : DataW.TrodVars enc Try.prog W (fun _ => true) [] gs q := hV0
  have hA : DataW.TrodAll enc Try.prog W 0 (fun _ => true) true Try.f6.params.toList args.toList ds p := hA0
  rw [Try.params6] at hA hval hsz
  obtain ⟨v0, vs0, d0, ds0, p0, q0, hargs, rfl, rfl, h0, rr0⟩ := trodAll_cons hA
  obtain ⟨v1, vs1, d1, ds1, p1, q1, rfl, rfl, rfl, h1, rr1⟩ := trodAll_cons rr0
  obtain ⟨rfl, rfl, rfl⟩ := trodAll_nil rr1
  obtain rfl : args = #[v0, v1] := by cases args; simp_all
  obtain ⟨rfl, rfl⟩ := trodVars_none hV
  have k0 := h0
  have lt0 : ∀ x ∈ p0, x.block < W.heap.size := by obtain ⟨m, hm⟩ := k0; exact DataW.trod_lt m _ _ _ hm
  have k1 := h1
  have lt1 : ∀ x ∈ p1, x.block < W.heap.size := by obtain ⟨m, hm⟩ := k1; exact DataW.trod_lt m _ _ _ hm
  obtain ⟨D0, x0⟩ : ∃ d : Df.Aut, Df.DfaAt W W.heap.size v0 d := Df.dfa_open (hval 0 25 v0 rfl rfl) h0
  obtain ⟨A1, len1, c1, rfl⟩ := okWide_slice Try.underlying26 (hval 1 26 v1 rfl rfl)
  obtain ⟨z1, rfl, x1, r1, m1⟩ : ∃ zs : List Int, len1 = zs.length ∧ IntsAt W W.heap.size A1 zs ∧ zs.length ≤ 17592186043904 ∧ zs.length ≤ c1 := by
    obtain ⟨fuel, hf⟩ := h1
    rcases open_ints Try.underlying26 Try.underlying3 (by kernel_rfl) hf with ⟨hcs, _⟩ | ⟨x, l, c, zs, hcs, _, hl, hm, hz, hx, hcell, hwz⟩
    · simp [Value.cells] at hcs
      obtain ⟨rfl, rfl, rfl⟩ := hcs
      exact ⟨[], rfl, IntsAt.nil _ _ _, by simp, by simp⟩
    · simp [Value.cells] at hcs
      obtain ⟨rfl, rfl, rfl⟩ := hcs
      have hd := congrArg Prod.fst hx
      simp only at hd
      have := sized_slice hsz (j := 1) (t := 26) (e := 3) rfl (by rw [hd]; rfl) Try.underlying26
      rw [(show Try.prog.bytesOf 3 = 8 by kernel_rfl)] at this
      simp only [reachBytes, lits, List.length_map, List.length_take, List.length_drop] at this
      have hz' : zs.length = c1 := by simpa using hz
      exact ⟨zs.take len1, by rw [List.length_take]; omega, intsAt_of_open hcell hwz len1, by rw [List.length_take]; omega, by rw [List.length_take]; omega⟩
  clear hA0 hval0
  refine (walk v0 D0 A1 c1 z1 W x0 x1 r1 m1).mono fun e W' ⟨he, bel⟩ => ?_
  subst he
  exact ⟨_, rfl, _, _, _, [], _, [], hW', trodAll_mk1 (shut_bool Try.underlying4 _), (trodAll_cons_mk (Below.trod laidOut (by kernel_rfl) (of_decide_eq_true (by kernel_rfl)) k0 bel lt0) (trodAll_cons_mk (Below.trod laidOut (by kernel_rfl) (of_decide_eq_true (by kernel_rfl)) k1 bel lt1) trodAll_mk0)), rfl, bel.frame _, fun h => by cases h⟩

theorem over : Rows.editLongestRow.holds Try.pinned (OpenSpec.ofChange Rows.editLongestSpec) :=
  OpenClaim.holds_of_wide 6 Try.f6 rfl rfl rfl rfl rfl rfl rfl ⟨rfl, rfl, rfl, rfl, rfl⟩ rfl rfl rfl rfl rfl (by kernel_rfl) Try.func6 (by kernel_rfl)
    (of_decide_eq_true (by kernel_rfl)) (by unfold Func.isWrapper; rw [if_neg (of_decide_eq_false (by kernel_rfl))]; exact ⟨rfl, rfl⟩)
    (fun os started H enc _ => lifted os started H enc)
theorem proved : Rows.EditLongestSaid := over
#print axioms proved
end Go.Proofs.Ytendgfbnkpbndaa.editLongest
