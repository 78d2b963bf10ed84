/-
  The statement FrameBackSaid of this seat, proved: for every input the law returns true and its arguments read behind the call as before. Conditions: none but the row's own (each argument within the reach).
-/
import Derived.Test.YtjebkipdooimbaaRows
import Derived.Test.YtjebkipdooimbaaTexts
import Derived.SliceStrings
import Derived.Test.YtjebkipdooimbaaWords
import Derived.WalkKit
import Derived.ProofKit
import Derived.OpenShut
import Derived.ShutString
import Derived.ChangeOld
import Derived.Below
import Derived.SizedLaws
import Derived.Lib.Hide
import Derived.Test.YtjebkipdooimbaaScan
import Derived.Test.YtjebkipdooimbaaFramed
namespace Go.Proofs.Ytjebkipdooimbaa.frameBack
open Go.ChangeShapes Go.WideShapes Go.ChangeAt Go.RowKit Go.IntWalk Go.Proofs.Ytjebkipdooimbaa.Wd
open Go.ChangeMaps (open_string shut_string)
set_option linter.unusedVariables false

theorem own : ownKnob Try.prog.godebug = none := by kernel_rfl
theorem laidOut : laidOutB Try.prog = true := by kernel_rfl
open Go.PlainAid Go.Proofs.Ytjebkipdooimbaa.Sm Go.Proofs.Ytjebkipdooimbaa.Pk Go.Proofs.Ytjebkipdooimbaa.Fr

set_option maxRecDepth 100000 in
set_option maxHeartbeats 4000000 in
theorem walk (A0 : Option Addr) (c0 : Nat) (z0 : List (List UInt8)) (w : World) (v0 : TextsAt w w.heap.size A0 z0) (r0 : z0.length ≤ 8796093021952) (t0 : ∀ b ∈ z0, b.length ≤ 9223372036854775807) :
    Calls Try.prog 3 #[.slice A0 z0.length c0] w fun e w' => e = .returned (.bool true) ∧ Below w.heap.size w w' := by
  have HV := Lib.hid v0
  have HT := Lib.hid t0
  clear t0
  by_cases hz : ∀ b ∈ z0, b.length ≤ 200
  · have HF := Lib.hid (framed_ok A0 c0 z0 w v0 (by omega) hz)
    have hf := (frames_le z0 hz).2
    have hx : scan (str (frames z0)).data.toList = (z0, (frames z0).length, 0) := by rw [str_data]; exact scan_whole z0 hz
    have hs : (str (frames z0)).size = (frames z0).length := str_size _
    have HS := Lib.hid (fun W => scan_ok (str (frames z0)) W (by unfold maxLen; omega) z0 (frames z0).length 0 hx (by omega))
    clear hx hz v0
    rw [← hs] at hf HS
    clear hs
    generalize str (frames z0) = X at *
    go_enter Try.func3, Try.ntmps3
    go_wp2_with fail
    refine HF.out.mono ?_
    rintro e w1 ⟨rfl, hb⟩
    have HB1 := Lib.hid hb
    clear hb HF
    go_wp2_with fail
    refine (HS.out _).mono ?_
    rintro e w2 ⟨A1, c1, rfl, ht, hb⟩
    have HB2 := Lib.hid (HB1.out.trans (hb.mono HB1.out.size))
    have HQ := Lib.hid (texts_same A1 A0 c1 c0 z0 z0 w2 rfl ht (HV.out.on HB2.out) (by omega))
    have hn : errV 0 = .nilIface := rfl
    clear hb ht HS
    go_wp2_with fail
    refine HQ.out.mono ?_
    rintro e w3 ⟨rfl, hb⟩
    have HB3 := Lib.hid (HB2.out.trans (hb.mono HB2.out.size))
    clear hb HQ
    go_wp2
    go_ret
    exact ⟨rfl, HB3.out⟩
  · have HF := Lib.hid (framed_bad A0 c0 z0 w v0 (by omega) HT.out hz)
    have HZ := Lib.hid hz
    clear hz v0
    go_enter Try.func3, Try.ntmps3
    go_wp2_with fail
    refine HF.out.mono ?_
    rintro e w1 ⟨rfl, hb⟩
    have HB1 := Lib.hid hb
    clear hb HF
    go_wp2
    go_loopw [5] (fun i wr => ∃ (k : Nat), k ≤ z0.length ∧ i = .int .i64 k ∧ Hid (∀ b ∈ z0.take k, b.length ≤ 200) ∧ Hid (Below w.heap.size w wr)) (fun i _ => z0.length - (intOf i).toNat)
    case atStart => exact ⟨0, by omega, rfl, by simp [Hid], HB1.out⟩
    case round =>
      obtain ⟨k, hk, rfl, HE, HB⟩ := hrel
      by_cases hlt : k < z0.length
      · obtain ⟨ad, rfl, hadb, hcell⟩ := (HV.out.on HB.out).at_ k hlt
        have hzk := HT.out z0[k] (List.getElem_mem hlt)
        by_cases hb : z0[k].length ≤ 200
        · have HN : Hid (∀ b ∈ z0.take (k + 1), b.length ≤ 200) := by
            intro b hm
            rw [← List.take_append_getElem hlt] at hm
            rcases List.mem_append.1 hm with hm | hm
            · exact HE.out b hm
            · simp at hm; subst hm; exact hb
          rw [← str_size] at hb hzk
          generalize str z0[k] = Z at *
          go_wp2
          go_roundw
          case rel => exact ⟨k + 1, by omega, by go_num, HN, HB⟩
          case measure => simp [intOf]; omega
        · rw [← str_size] at hb hzk
          generalize str z0[k] = Z at *
          go_wp2
          go_ret
          exact ⟨rfl, HB.out⟩
      · obtain rfl : k = z0.length := by omega
        have := HE.out
        rw [List.take_of_length_le (Nat.le_refl _)] at this
        exact absurd this HZ.out


set_option maxRecDepth 100000 in
theorem lifted (os : Os) (started : os.Started) (H : Type) (enc : TypeId × Value → H) :
    ReturnsInHanded {} Try.checked os 3 .any (Rows.frameBackSpec.pre6 enc Try.prog Try.f3 Rows.frameBackRow.domain false) (Rows.frameBackSpec.post enc Try.prog Try.f3 false true false false) := by
  refine returnsInHanded_of_change_sized (C := Try.checked) own started (by kernel_rfl) Try.func3
    (ChangeSpec.witness6 (enc := enc) (C := Try.checked) false ⟨#[], #[.slice none 0 0], []⟩ 8 (by kernel_rfl) (by kernel_rfl) (by kernel_rfl) (by kernel_rfl)) ?_
  intro W base args ds gs before hval0 hW hcnd hsz0 _
  have hval : ∀ (j : Nat) t v, Try.f3.params[j]? = some t → args[j]? = some v → Value.okWide Try.prog W .any base t v := hval0
  have hsz : (DataW.weightsEach Try.prog (Try.f3.params.toList ++ Rows.frameBackSpec.plain.varTypes Try.prog) (ds ++ gs)).all (· ≤ reachBytes) = true := hsz0
  have hW' := hW
  obtain ⟨p, q, hA0, hV0, rfl, hfz, hnd⟩ := hW
  have hV : DataW.TrodVars enc Try.prog W (fun _ => true) [] gs q := hV0
  have hA : DataW.TrodAll enc Try.prog W 0 (fun _ => true) true Try.f3.params.toList args.toList ds p := hA0
  rw [Try.params3] at hA hval hsz
  obtain ⟨v0, vs0, d0, ds0, p0, q0, hargs, rfl, rfl, h0, rr0⟩ := trodAll_cons hA
  obtain ⟨rfl, rfl, rfl⟩ := trodAll_nil rr0
  obtain rfl : args = #[v0] := by cases args; simp_all
  obtain ⟨rfl, rfl⟩ := trodVars_none hV
  have k0 := h0
  have lt0 : ∀ x ∈ p0, x.block < W.heap.size := by obtain ⟨m, hm⟩ := k0; exact DataW.trod_lt m _ _ _ hm
  obtain ⟨A0, len0, c0, rfl⟩ := okWide_slice Try.underlying22 (hval 0 22 v0 rfl rfl)
  obtain ⟨z0, rfl, x0, r0, t0⟩ : ∃ zs : List (List UInt8), len0 = zs.length ∧ TextsAt W W.heap.size A0 zs ∧ zs.length ≤ 8796093021952 ∧ ∀ b ∈ zs, b.length ≤ 9223372036854775807 := by
    obtain ⟨fuel, hf⟩ := h0
    rcases open_strings Try.underlying22 Try.underlying9 (by kernel_rfl) hf with ⟨hcs, _⟩ | ⟨x, l, c, zs, hcs, _, hl, hm, hz, hx, hcell, hwz⟩
    · simp [Value.cells] at hcs
      obtain ⟨rfl, rfl, rfl⟩ := hcs
      exact ⟨[], rfl, TextsAt.nil _ _ _, by simp, by simp⟩
    · simp [Value.cells] at hcs
      obtain ⟨rfl, rfl, rfl⟩ := hcs
      have hd := congrArg Prod.fst hx
      simp only at hd
      have := sized_slice hsz (j := 0) (t := 22) (e := 9) rfl (by rw [hd]; rfl) Try.underlying22
      rw [(show Try.prog.bytesOf 9 = 16 by kernel_rfl)] at this
      simp only [reachBytes, strs, List.length_map, List.length_take, List.length_drop] at this
      have hz' : zs.length = c0 := by simpa using hz
      refine ⟨(zs.take len0).map (fun s => s.data.toList), by rw [List.length_map, List.length_take]; omega, textsAt_of_open hcell len0, by rw [List.length_map, List.length_take]; omega, ?_⟩
      intro b hb
      obtain ⟨s, hs, rfl⟩ := List.mem_map.1 hb
      have := hwz s (List.mem_of_mem_take hs)
      rw [data_len]; unfold maxLen at this; omega
  clear hA0 hval0
  refine (walk A0 c0 z0 W x0 r0 t0).mono fun e W' ⟨he, bel⟩ => ?_
  subst he
  exact ⟨_, rfl, _, _, _, [], _, [], hW', trodAll_mk1 (shut_bool Try.underlying4 _), (trodAll_cons_mk (Below.trod laidOut (by kernel_rfl) (of_decide_eq_true (by kernel_rfl)) k0 bel lt0) trodAll_mk0), rfl, bel.frame _, fun h => by cases h⟩

theorem over : Rows.frameBackRow.holds Try.pinned (OpenSpec.ofChange Rows.frameBackSpec) :=
  OpenClaim.holds_of_wide 3 Try.f3 rfl rfl rfl rfl rfl rfl rfl ⟨rfl, rfl, rfl, rfl, rfl⟩ rfl rfl rfl rfl rfl (by kernel_rfl) Try.func3 (by kernel_rfl)
    (of_decide_eq_true (by kernel_rfl)) (by unfold Func.isWrapper; rw [if_neg (of_decide_eq_false (by kernel_rfl))]; exact ⟨rfl, rfl⟩)
    (fun os started H enc _ => lifted os started H enc)
theorem proved : Rows.FrameBackSaid := over
#print axioms proved
end Go.Proofs.Ytjebkipdooimbaa.frameBack
