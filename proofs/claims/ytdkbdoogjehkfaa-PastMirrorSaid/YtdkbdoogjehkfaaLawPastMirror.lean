/-
  The statement PastMirrorSaid of this seat, proved: for every input the law returns true and its arguments read behind the call as before. Conditions: none but the row's own (each argument within the reach).
-/
import Derived.Test.YtdkbdoogjehkfaaRows
import Derived.Test.YtdkbdoogjehkfaaWords
import Derived.WalkKit
import Derived.ProofKit
import Derived.OpenShut
import Derived.ShutString
import Derived.ChangeOld
import Derived.Below
import Derived.SizedLaws
import Derived.Lib.Hide
import Derived.Test.YtdkbdoogjehkfaaPastW
namespace Go.Proofs.Ytdkbdoogjehkfaa.pastMirror
open Go.ChangeShapes Go.WideShapes Go.ChangeAt Go.RowKit Go.IntWalk Go.Proofs.Ytdkbdoogjehkfaa.Wd
open Go.ChangeMaps (open_string shut_string)
set_option linter.unusedVariables false

theorem own : ownKnob Try.prog.godebug = none := by kernel_rfl
theorem laidOut : laidOutB Try.prog = true := by kernel_rfl
open Go.Proofs.Ytdkbdoogjehkfaa.Wo Go.Proofs.Ytdkbdoogjehkfaa.Fm

set_option maxRecDepth 100000 in
set_option maxHeartbeats 4000000 in
theorem walk (a0 : Int) (A1 : Option Addr) (c1 : Nat) (z1 : List Fm.Nd) (A2 : Option Addr) (c2 : Nat) (z2 : List Int) (w : World) (l0 : -9223372036854775808 ≤ a0) (h0 : a0 ≤ 9223372036854775807) (v1 : Fm.NodesAt w w.heap.size A1 z1) (m1 : z1.length ≤ c1) (n1 : c1 ≤ 9223372036854775807) (r1 : z1.length ≤ 5864062014634) (v2 : IntsAt w w.heap.size A2 z2) (r2 : z2.length ≤ 17592186043904) (m2 : z2.length ≤ c2) :
    Calls Try.prog 4 #[.int .i64 a0, .slice A1 z1.length c1, .slice A2 z2.length c2] w fun e w' => e = .returned (.bool true) ∧ Below w.heap.size w w' := by
  have hL : Small a0 := ⟨l0, h0⟩
  have HK := Lib.hid known_any
  have HN1 := Lib.hid v1
  have HZ2 := Lib.hid v2
  obtain ⟨n, hn⟩ : ∃ n, z1.length = n := ⟨_, rfl⟩
  obtain ⟨M, hM⟩ : ∃ M, z2.length = M := ⟨_, rfl⟩
  have hz2 : z2.length ≤ 17592186044416 := by omega
  have hf63 : z1.length ≤ 9223372036854775807 := by omega
  have hc1 : n ≤ c1 := by omega
  by_cases hf : fchk a0 (mrF z1) = 0
  · have g := fchk_iff.1 hf
    have HM := Lib.hid (fun W hA => pmir_yes hL hn g A1 c1 hc1 W hA)
    by_cases hc : chk a0 z2 = 0
    · have hw := chk_iff.1 hc
      have hwr : Fine a0 z2.reverse := ⟨hw.1, by rw [List.length_reverse]; exact hw.2.1, fun c hc => hw.2.2 c (List.mem_reverse.1 hc)⟩
      have HF := Lib.hid (fun W hA hB => pholds_yes hL hn hM g hw A1 c1 hc1 A2 c2 W hA hB)
      have HMi := Lib.hid (fun W (hB : IntsAt W W.heap.size A2 z2) => mirror_ok (c := c2) hL hB hw)
      have HH := Lib.hid (fun A c B cb W hA hB => holds_ok a0 A c (mrF z1) B cb z2.reverse W hL hA hB g hwr)
      rw [mrF_length, hn] at HH
      rw [hM] at HMi
      rw [hn, hM]
      clear hn hM hL hf hc g hw hz2 hf63 hwr v1 v2
      generalize z2.reverse = R at *
      generalize fval (mrF z1) R = b at *
      generalize R.length = k at *
      have hbb : (b == b) = true := beq_self_eq_true _
      go_enter Try.func4, Try.ntmps4
      go_wp2_with fail
      refine (HK.out _).mono ?_
      rintro e w2 ⟨rfl, hb⟩
      have B2 := Lib.hid hb
      replace HN1 := Lib.hid (HN1.out.on hb)
      replace HZ2 := Lib.hid (HZ2.out.on hb)
      clear hb HK
      go_wp2_with fail
      refine (HF.out _ HN1.out HZ2.out).mono ?_
      rintro e w3 ⟨rfl, hb⟩
      have B3 := Lib.hid (B2.out.trans (hb.mono B2.out.size))
      replace HN1 := Lib.hid (HN1.out.on hb)
      replace HZ2 := Lib.hid (HZ2.out.on hb)
      clear hb HF
      go_wp2_with fail
      refine (HM.out _ HN1.out).mono ?_
      rintro e w4 ⟨he, hb⟩
      obtain ⟨A5, c5, rfl, _, _, N5⟩ := he.out
      have B4 := Lib.hid (B3.out.trans (hb.mono B3.out.size))
      replace HN1 := Lib.hid (HN1.out.on hb)
      replace HZ2 := Lib.hid (HZ2.out.on hb)
      clear hb he HM
      go_wp2_with fail
      refine (HMi.out _ HZ2.out).mono ?_
      rintro e w5 ⟨X, kx, rfl, hX, hb⟩
      have HX := Lib.hid hX
      have B5 := Lib.hid (B4.out.trans (hb.mono B4.out.size))
      replace HN1 := Lib.hid (HN1.out.on hb)
      replace HZ2 := Lib.hid (HZ2.out.on hb)
      replace N5 := Lib.hid (N5.out.on hb)
      clear hb hX HMi
      go_wp2_with fail
      refine (HH.out _ _ _ _ _ N5.out HX.out).mono ?_
      rintro e w6 ⟨rfl, hb⟩
      have B6 := Lib.hid (B5.out.trans (hb.mono B5.out.size))
      replace HN1 := Lib.hid (HN1.out.on hb)
      replace HZ2 := Lib.hid (HZ2.out.on hb)
      replace N5 := Lib.hid (N5.out.on hb)
      replace HX := Lib.hid (HX.out.on hb)
      clear hb HH
      go_wp2
      go_ret
      exact ⟨rfl, B6.out⟩
    · have hv : verr a0 (mrF z1) z2 ≠ 0 := by unfold verr; rw [if_pos hf]; exact hc
      have HF := Lib.hid (fun W hA hB => pholds_no hL hf63 hz2 hn hM hv A1 c1 hc1 A2 c2 W hA hB)
      rw [errV_pos hv] at HF
      generalize (verr a0 (mrF z1) z2 : Int) = q at *
      rw [hn, hM]
      clear hn hM hL hf hc g hz2 hf63 v1 v2 hv
      go_enter Try.func4, Try.ntmps4
      go_wp2_with fail
      refine (HK.out _).mono ?_
      rintro e w2 ⟨rfl, hb⟩
      have B2 := Lib.hid hb
      replace HN1 := Lib.hid (HN1.out.on hb)
      replace HZ2 := Lib.hid (HZ2.out.on hb)
      clear hb HK
      go_wp2_with fail
      refine (HF.out _ HN1.out HZ2.out).mono ?_
      rintro e w3 ⟨rfl, hb⟩
      have B3 := Lib.hid (B2.out.trans (hb.mono B2.out.size))
      replace HN1 := Lib.hid (HN1.out.on hb)
      replace HZ2 := Lib.hid (HZ2.out.on hb)
      clear hb HF
      go_wp2_with fail
      refine (HM.out _ HN1.out).mono ?_
      rintro e w4 ⟨he, hb⟩
      obtain ⟨A5, c5, rfl, _, _, N5⟩ := he.out
      have B4 := Lib.hid (B3.out.trans (hb.mono B3.out.size))
      replace HN1 := Lib.hid (HN1.out.on hb)
      replace HZ2 := Lib.hid (HZ2.out.on hb)
      clear hb he HM
      go_wp2
      go_ret
      exact ⟨rfl, B4.out⟩
  · have HM := Lib.hid (fun W hA => pmir_no hL hf63 hn hf A1 c1 hc1 W hA)
    have hv : verr a0 (mrF z1) z2 ≠ 0 := by unfold verr; rw [if_neg hf]; exact hf
    have HF := Lib.hid (fun W hA hB => pholds_no hL hf63 hz2 hn hM hv A1 c1 hc1 A2 c2 W hA hB)
    rw [errV_pos hv] at HF
    rw [errV_pos hf] at HM
    generalize (verr a0 (mrF z1) z2 : Int) = q at *
    generalize (fchk a0 (mrF z1) : Int) = q2 at *
    rw [hn, hM]
    clear hn hM hL hf hz2 hf63 v1 v2 hv
    go_enter Try.func4, Try.ntmps4
    go_wp2_with fail
    refine (HK.out _).mono ?_
    rintro e w2 ⟨rfl, hb⟩
    have B2 := Lib.hid hb
    replace HN1 := Lib.hid (HN1.out.on hb)
    replace HZ2 := Lib.hid (HZ2.out.on hb)
    clear hb HK
    go_wp2_with fail
    refine (HF.out _ HN1.out HZ2.out).mono ?_
    rintro e w3 ⟨rfl, hb⟩
    have B3 := Lib.hid (B2.out.trans (hb.mono B2.out.size))
    replace HN1 := Lib.hid (HN1.out.on hb)
    replace HZ2 := Lib.hid (HZ2.out.on hb)
    clear hb HF
    go_wp2_with fail
    refine (HM.out _ HN1.out).mono ?_
    rintro e w4 ⟨rfl, hb⟩
    have B4 := Lib.hid (B3.out.trans (hb.mono B3.out.size))
    replace HN1 := Lib.hid (HN1.out.on hb)
    replace HZ2 := Lib.hid (HZ2.out.on hb)
    clear hb HM
    go_wp2
    go_ret
    exact ⟨rfl, B4.out⟩


set_option maxRecDepth 100000 in
theorem lifted (os : Os) (started : os.Started) (H : Type) (enc : TypeId × Value → H) :
    ReturnsInHanded {} Try.checked os 4 .any (Rows.pastMirrorSpec.pre6 enc Try.prog Try.f4 Rows.pastMirrorRow.domain false) (Rows.pastMirrorSpec.post enc Try.prog Try.f4 false true false false) := by
  refine returnsInHanded_of_change_sized (C := Try.checked) own started (by kernel_rfl) Try.func4
    (ChangeSpec.witness6 (enc := enc) (C := Try.checked) false ⟨#[], #[.int .i64 0, .slice none 0 0, .slice none 0 0], []⟩ 8 (by kernel_rfl) (by kernel_rfl) (by kernel_rfl) (by kernel_rfl)) ?_
  intro W base args ds gs before hval0 hW hcnd hsz0 _
  have hval : ∀ (j : Nat) t v, Try.f4.params[j]? = some t → args[j]? = some v → Value.okWide Try.prog W .any base t v := hval0
  have hsz : (DataW.weightsEach Try.prog (Try.f4.params.toList ++ Rows.pastMirrorSpec.plain.varTypes Try.prog) (ds ++ gs)).all (· ≤ reachBytes) = true := hsz0
  have hW' := hW
  obtain ⟨p, q, hA0, hV0, rfl, hfz, hnd⟩ := hW
  have hV : DataW.TrodVars enc Try.prog W (fun _ => true) [] gs q := hV0
  have hA : DataW.TrodAll enc Try.prog W 0 (fun _ => true) true Try.f4.params.toList args.toList ds p := hA0
  rw [Try.params4] at hA hval hsz
  obtain ⟨v0, vs0, d0, ds0, p0, q0, hargs, rfl, rfl, h0, rr0⟩ := trodAll_cons hA
  obtain ⟨v1, vs1, d1, ds1, p1, q1, rfl, rfl, rfl, h1, rr1⟩ := trodAll_cons rr0
  obtain ⟨v2, vs2, d2, ds2, p2, q2, rfl, rfl, rfl, h2, rr2⟩ := trodAll_cons rr1
  obtain ⟨rfl, rfl, rfl⟩ := trodAll_nil rr2
  obtain rfl : args = #[v0, v1, v2] := by cases args; simp_all
  obtain ⟨rfl, rfl⟩ := trodVars_none hV
  have k0 := h0
  have lt0 : ∀ x ∈ p0, x.block < W.heap.size := by obtain ⟨m, hm⟩ := k0; exact DataW.trod_lt m _ _ _ hm
  have k1 := h1
  have lt1 : ∀ x ∈ p1, x.block < W.heap.size := by obtain ⟨m, hm⟩ := k1; exact DataW.trod_lt m _ _ _ hm
  have k2 := h2
  have lt2 : ∀ x ∈ p2, x.block < W.heap.size := by obtain ⟨m, hm⟩ := k2; exact DataW.trod_lt m _ _ _ hm
  obtain ⟨a0, rfl, rfl, rfl, w0⟩ := open_int Try.underlying3 (hval 0 3 v0 rfl rfl) h0
  obtain ⟨l0, hh0⟩ := bounds_i64 w0
  obtain ⟨A1, c1, z1, rfl, m1, n1, x1, r1⟩ : ∃ (A : Option Addr) (c : Nat) (l : List Fm.Nd), v1 = .slice A l.length c ∧ l.length ≤ c ∧ c ≤ 9223372036854775807 ∧ Fm.NodesAt W W.heap.size A l ∧ l.length ≤ 5864062014634 := by
    obtain ⟨A, len, c, rfl⟩ := okWide_slice Try.underlying22 (hval 1 22 v1 rfl rfl)
    obtain ⟨fuel, hf⟩ := h1
    obtain ⟨A2, c2, l, hcs, q1, q2, q3, q4⟩ := Fm.open_nodes hf
    simp [Value.cells] at hcs
    obtain ⟨rfl, rfl, rfl⟩ := hcs
    refine ⟨_, _, l, rfl, q1, q2, q3, ?_⟩
    rcases q4 with q4 | ⟨es, sp, hd, hl⟩
    · omega
    · have := sized_slice hsz (j := 1) (t := 22) (e := 29) (elems := es) (spare := sp) rfl (by rw [← hd]; rfl) Try.underlying22
      rw [(show Try.prog.bytesOf 29 = 24 by kernel_rfl)] at this
      simp only [reachBytes] at this
      omega
  obtain ⟨A2, len2, c2, rfl⟩ := okWide_slice Try.underlying23 (hval 2 23 v2 rfl rfl)
  obtain ⟨z2, rfl, x2, r2, m2⟩ : ∃ zs : List Int, len2 = zs.length ∧ IntsAt W W.heap.size A2 zs ∧ zs.length ≤ 17592186043904 ∧ zs.length ≤ c2 := by
    obtain ⟨fuel, hf⟩ := h2
    rcases open_ints Try.underlying23 Try.underlying3 (by kernel_rfl) hf with ⟨hcs, _⟩ | ⟨x, l, c, zs, hcs, _, hl, hm, hz, hx, hcell, hwz⟩
    · simp [Value.cells] at hcs
      obtain ⟨rfl, rfl, rfl⟩ := hcs
      exact ⟨[], rfl, IntsAt.nil _ _ _, by simp, by simp⟩
    · simp [Value.cells] at hcs
      obtain ⟨rfl, rfl, rfl⟩ := hcs
      have hd := congrArg Prod.fst hx
      simp only at hd
      have := sized_slice hsz (j := 2) (t := 23) (e := 3) rfl (by rw [hd]; rfl) Try.underlying23
      rw [(show Try.prog.bytesOf 3 = 8 by kernel_rfl)] at this
      simp only [reachBytes, lits, List.length_map, List.length_take, List.length_drop] at this
      have hz' : zs.length = c2 := by simpa using hz
      exact ⟨zs.take len2, by rw [List.length_take]; omega, intsAt_of_open hcell hwz len2, by rw [List.length_take]; omega, by rw [List.length_take]; omega⟩
  clear hA0 hval0
  refine (walk a0 A1 c1 z1 A2 c2 z2 W l0 hh0 x1 m1 n1 r1 x2 r2 m2).mono fun e W' ⟨he, bel⟩ => ?_
  subst he
  exact ⟨_, rfl, _, _, _, [], _, [], hW', trodAll_mk1 (shut_bool Try.underlying4 _), (trodAll_cons_mk (Below.trod laidOut (by kernel_rfl) (of_decide_eq_true (by kernel_rfl)) k0 bel lt0) (trodAll_cons_mk (Below.trod laidOut (by kernel_rfl) (of_decide_eq_true (by kernel_rfl)) k1 bel lt1) (trodAll_cons_mk (Below.trod laidOut (by kernel_rfl) (of_decide_eq_true (by kernel_rfl)) k2 bel lt2) trodAll_mk0))), rfl, bel.frame _, fun h => by cases h⟩

theorem over : Rows.pastMirrorRow.holds Try.pinned (OpenSpec.ofChange Rows.pastMirrorSpec) :=
  OpenClaim.holds_of_wide 4 Try.f4 rfl rfl rfl rfl rfl rfl rfl ⟨rfl, rfl, rfl, rfl, rfl⟩ rfl rfl rfl rfl rfl (by kernel_rfl) Try.func4 (by kernel_rfl)
    (of_decide_eq_true (by kernel_rfl)) (by unfold Func.isWrapper; rw [if_neg (of_decide_eq_false (by kernel_rfl))]; exact ⟨rfl, rfl⟩)
    (fun os started H enc _ => lifted os started H enc)
theorem proved : Rows.PastMirrorSaid := over
#print axioms proved
end Go.Proofs.Ytdkbdoogjehkfaa.pastMirror
