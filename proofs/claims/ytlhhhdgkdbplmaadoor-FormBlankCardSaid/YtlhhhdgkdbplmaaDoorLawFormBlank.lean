/-
  The statement FormBlankCardSaid of this seat, proved: for every input the law returns true and its arguments read behind the call as before. Conditions: none but the row's own (each argument within the reach; the listed variable as the program lays it, tied by the given tie).
-/
import Derived.Test.YtlhhhdgkdbplmaaDoorRows
import Derived.Test.YtlhhhdgkdbplmaaDoorCards
import Derived.Test.YtlhhhdgkdbplmaaDoorTie
import Derived.SevenTiedAt
import Derived.LaidLaws
import Derived.LaidHandle
import Derived.LaidMore
import Derived.Lay
import Derived.MakeChecks
import Derived.Stop.Joined
import Derived.JoinedOf
import Derived.RowKit
import Derived.RowKitTokens
import Derived.ChangeSame
import Derived.ChangeVars
import Derived.Test.YtlhhhdgkdbplmaaDoorWords
import Derived.WalkKit
import Derived.ProofKit
import Derived.OpenShut
import Derived.ShutString
import Derived.ChangeOld
import Derived.Below
import Derived.SizedLaws
import Derived.Lib.Hide
import Derived.Test.YtlhhhdgkdbplmaaDoorRead
import Derived.Test.YtlhhhdgkdbplmaaDoorFormB
import Derived.Test.YtlhhhdgkdbplmaaDoorSameNodes
import Derived.Deep.RegionWith
namespace Go.Proofs.YtlhhhdgkdbplmaaDoor.formBlank
open Go.ChangeShapes Go.WideShapes Go.ChangeAt Go.RowKit Go.IntWalk Go.Proofs.YtlhhhdgkdbplmaaDoor.Wd
open Go.ChangeMaps (open_string shut_string)
set_option linter.unusedVariables false

theorem own : ownKnob Tryd.prog.godebug = none := by kernel_rfl
theorem laidOut : laidOutB Tryd.prog = true := by kernel_rfl
noncomputable def laidWorld (os : Os) : World := World.laidAll Tryd.prog os [("unicode/utf8.acceptRanges", Rows.laid_unicode_utf8_acceptRanges), ("unicode/utf8.first", Rows.laid_unicode_utf8_first)]
theorem laidWorld_met (os : Os) (args : Array Value) : laidMetH Tryd.prog [("unicode/utf8.acceptRanges", Rows.laid_unicode_utf8_acceptRanges), ("unicode/utf8.first", Rows.laid_unicode_utf8_first)] ((laidWorld os).forCall (fun _ _ => 0) ⟨#[], args, []⟩).memory := by
  rw [MakeChecks.laidMetH_plain _ _ _ (by kernel_rfl)]
  exact laidMet_laidAll _ (by kernel_rfl) (by kernel_rfl)
open Go.Proofs.YtlhhhdgkdbplmaaDoor.Wo
theorem errV_ne {n : Nat} (h : n ≠ 0) : ∃ m, n = m + 1 ∧ errV n = .iface 67 (.int .i64 (n : Int)) := by
  rcases n with _ | m
  · exact absurd rfl h
  · exact ⟨m, rfl, rfl⟩
/-- Read, for a law. -/
theorem read_gives {L : Int} {s : ByteArray} (hL : Small L) (hs : s.size ≤ 140737488351232) {n : Nat} {f : List Fm.Nd} (hr : Fm.Rd L s.data.toList n f) {E : Value} (hE : errV n = E) (W : World) :
    Calls Tryd.prog 24 #[.int .i64 L, .string s] W fun e w' => Hid (∃ A c, e = .returned (.tuple #[.slice A f.length c, E]) ∧ f.length ≤ c ∧ c ≤ 9223372036854775807 ∧ Hid (Fm.NodesAt w' w'.heap.size A f)) ∧ Below W.heap.size W w' := by
  subst hE
  exact (Fm.read_any L s W hL hs hr).mono fun e w' ⟨h, hb⟩ => ⟨h, hb⟩

set_option maxRecDepth 100000 in
set_option maxHeartbeats 4000000 in
theorem walk (a0 : Int) (s1 : ByteArray) (a2 : Int) (w : World) (l0 : -9223372036854775808 ≤ a0) (h0 : a0 ≤ 9223372036854775807) (r1 : s1.size ≤ 140737488351232) (l2 : -9223372036854775808 ≤ a2) (h2 : a2 ≤ 9223372036854775807) :
    Calls Tryd.prog 7 #[.int .i64 a0, .string s1, .int .i64 a2] w fun e w' => e = .returned (.bool true) ∧ Below w.heap.size w w' := by
  have hL : Small a0 := ⟨l0, h0⟩
  have HF := Lib.hid (fun W => read_gives (s := { data := #[91, 32, 48, 93] }) (L := 2) ⟨by decide, by decide⟩ (by decide) Fm.rd_fact2 (E := .nilIface) rfl W)
  by_cases g1 : a2 < 0
  · have q1 : decide (a2 < 0) = true := decide_eq_true g1
    clear r1 hL
    go_enter Tryd.func7, Tryd.ntmps7
    go_wp2_with fail
    refine (HF.out _).mono ?_
    rintro e w2 ⟨he, hb2⟩
    obtain ⟨A2, c2, rfl, _, _, _⟩ := he.out
    have B2 := Lib.hid hb2
    clear he hb2 HF
    go_wp2
    go_ret
    exact ⟨rfl, B2.out⟩
  have q1 : decide (a2 < 0) = false := decide_eq_false g1
  obtain ⟨i, rfl⟩ := Int.eq_ofNat_of_zero_le (show 0 ≤ a2 by omega)
  by_cases g2 : s1.size < i
  · have q2 : decide ((s1.size : Int) < (i : Int)) = true := decide_eq_true (by omega)
    clear r1 hL
    go_enter Tryd.func7, Tryd.ntmps7
    go_wp2_with fail
    refine (HF.out _).mono ?_
    rintro e w2 ⟨he, hb2⟩
    obtain ⟨A2, c2, rfl, _, _, _⟩ := he.out
    have B2 := Lib.hid hb2
    clear he hb2 HF
    go_wp2
    go_ret
    exact ⟨rfl, B2.out⟩
  have q2 : decide ((s1.size : Int) < (i : Int)) = false := decide_eq_false (by omega)
  by_cases g3 : 298 < s1.size
  · have q3 : decide ((298 : Int) < (s1.size : Int)) = true := decide_eq_true (by omega)
    clear r1 hL
    go_enter Tryd.func7, Tryd.ntmps7
    go_wp2_with fail
    refine (HF.out _).mono ?_
    rintro e w2 ⟨he, hb2⟩
    obtain ⟨A2, c2, rfl, _, _, _⟩ := he.out
    have B2 := Lib.hid hb2
    clear he hb2 HF
    go_wp2
    go_ret
    exact ⟨rfl, B2.out⟩
  have q3 : decide ((298 : Int) < (s1.size : Int)) = false := decide_eq_false (by omega)
  obtain ⟨n, f, hr⟩ := Fm.rd_total a0 s1.data.toList
  have hf40 := Fm.rd_len hr
  have hsl : s1.data.toList.length ≤ 298 := by rw [data_len]; omega
  have e0 : ({ data := #[32] } : ByteArray).size = 1 := rfl
  have e9 : ({ data := #[40] } : ByteArray).size = 1 := rfl
  have e8 : ({ data := #[41] } : ByteArray).size = 1 := rfl
  have hY : (s1.extract 0 i ++ { data := #[32] } ++ s1.extract i s1.size).data.toList = s1.data.toList.take i ++ [32] ++ s1.data.toList.drop i := by
    rw [ByteArray.data_append, ByteArray.data_append, Array.toList_append, Array.toList_append, Lib.extract_to_end, Lib.extract_data, List.drop_zero, Nat.sub_zero]
  have hYs : (s1.extract 0 i ++ { data := #[32] } ++ s1.extract i s1.size).size ≤ 140737488351232 := by rw [← data_len, hY]; simp; omega
  have hZ : ({ data := #[40] } ++ s1 ++ { data := #[41] } : ByteArray).data.toList = [40] ++ s1.data.toList ++ [41] := by
    rw [ByteArray.data_append, ByteArray.data_append, Array.toList_append, Array.toList_append]
  have hZs : ({ data := #[40] } ++ s1 ++ { data := #[41] } : ByteArray).size ≤ 140737488351232 := by rw [← data_len, hZ]; simp; omega
  have hrY := Fm.rd_blank hr hsl i
  rw [← hY] at hrY
  have b1 : (0 : Int) ≤ (i : Int) := by omega
  have b2 : (i : Int) ≤ (s1.size : Int) := by omega
  have b3 : i ≤ s1.size := by omega
  have b4 : s1.size ≤ 298 := by omega
  by_cases hn : n = 0
  · subst hn
    have hrZ := Fm.rd_par hr hsl
    rw [← hZ] at hrZ
    have HR := Lib.hid (fun W => read_gives hL r1 hr (E := .nilIface) rfl W)
    have HG := Lib.hid (fun W => read_gives hL hYs hrY (E := .nilIface) rfl W)
    have HH := Lib.hid (fun W => read_gives hL hZs hrZ (E := .nilIface) rfl W)
    have HS := Lib.hid (fun W A B c d (hA : Fm.NodesAt W W.heap.size A f) (hB : Fm.NodesAt W W.heap.size B f) => Fm.sameNodes_any A B c d f W hA hB (by omega))
    clear hr hrY hrZ hY hZ hYs hZs hsl hL g1 g2 g3 r1
    go_enter Tryd.func7, Tryd.ntmps7
    go_wp2_with fail
    refine (HF.out _).mono ?_
    rintro e w2 ⟨he, hb2⟩
    obtain ⟨A2, c2, rfl, _, _, _⟩ := he.out
    have B2 := Lib.hid hb2
    clear he hb2 HF
    go_wp2_with fail
    refine (HR.out _).mono ?_
    rintro e w3 ⟨he, hb3⟩
    obtain ⟨A3, c3, rfl, _, _, N3⟩ := he.out
    have B3 := Lib.hid (B2.out.trans (hb3.mono B2.out.size))
    clear he hb3 HR
    go_wp2_with fail
    go_region_with ((go_at_call 24; refine (HG.out _).mono ?_; rintro e w4 ⟨he, hb4⟩; obtain ⟨A4, c4, rfl, _, _, N4⟩ := he.out))
    have B4 := Lib.hid ((Go.Proofs.YtlhhhdgkdbplmaaDoor.Wd.below_drewN B3.out 1).trans (hb4.mono (Go.Proofs.YtlhhhdgkdbplmaaDoor.Wd.below_drewN B3.out 1).size))
    have N34 := Lib.hid ((N3.out.on (Go.Proofs.YtlhhhdgkdbplmaaDoor.Wd.below_drewN (Below.refl _ _) 1)).on hb4)
    clear he hb4 HG N3
    go_wp2_with fail
    refine (HH.out _).mono ?_
    rintro e w5 ⟨he, hb5⟩
    obtain ⟨A5, c5, rfl, _, _, N5⟩ := he.out
    have B5 := Lib.hid (B4.out.trans (hb5.mono B4.out.size))
    have N35 := Lib.hid (N34.out.on hb5)
    have N45 := Lib.hid (N4.out.on hb5)
    clear he hb5 HH N34 N4
    go_wp2_with fail
    refine (HS.out _ _ _ _ _ N35.out N45.out).mono ?_
    rintro e w6 ⟨rfl, hb6⟩
    have B6 := Lib.hid (B5.out.trans (hb6.mono B5.out.size))
    have N36 := Lib.hid (N35.out.on hb6)
    have N56 := Lib.hid (N5.out.on hb6)
    clear hb6 N35 N45 N5
    go_wp2_with fail
    refine (HS.out _ _ _ _ _ N36.out N56.out).mono ?_
    rintro e w7 ⟨rfl, hb7⟩
    have B7 := Lib.hid (B6.out.trans (hb7.mono B6.out.size))
    clear hb7 HS N36 N56
    go_wp2
    go_ret
    exact ⟨rfl, B7.out⟩
  · obtain rfl := Fm.rd_err hr hn
    obtain ⟨m, hm, hE⟩ := (errV_ne hn : ∃ m, n = m + 1 ∧ errV n = .iface 67 (.int .i64 (n : Int)))
    obtain ⟨n3, f3, hr3⟩ := Fm.rd_total a0 ({ data := #[40] } ++ s1 ++ { data := #[41] } : ByteArray).data.toList
    obtain ⟨E3, hE3⟩ : ∃ E, errV n3 = E := ⟨_, rfl⟩
    have HR := Lib.hid (fun W => read_gives hL r1 hr hE W)
    have HG := Lib.hid (fun W => read_gives hL hYs hrY hE W)
    have HH := Lib.hid (fun W => read_gives hL hZs hr3 hE3 W)
    clear hr hrY hr3 hY hZ hYs hZs hsl hL g1 g2 g3 r1 hE hE3 hm hn
    go_enter Tryd.func7, Tryd.ntmps7
    go_wp2_with fail
    refine (HF.out _).mono ?_
    rintro e w2 ⟨he, hb2⟩
    obtain ⟨A2, c2, rfl, _, _, _⟩ := he.out
    have B2 := Lib.hid hb2
    clear he hb2 HF
    go_wp2_with fail
    refine (HR.out _).mono ?_
    rintro e w3 ⟨he, hb3⟩
    obtain ⟨A3, c3, rfl, _, _, N3⟩ := he.out
    have B3 := Lib.hid (B2.out.trans (hb3.mono B2.out.size))
    clear he hb3 HR N3
    go_wp2_with fail
    go_region_with ((go_at_call 24; refine (HG.out _).mono ?_; rintro e w4 ⟨he, hb4⟩; obtain ⟨A4, c4, rfl, _, _, N4⟩ := he.out))
    have B4 := Lib.hid ((Go.Proofs.YtlhhhdgkdbplmaaDoor.Wd.below_drewN B3.out 1).trans (hb4.mono (Go.Proofs.YtlhhhdgkdbplmaaDoor.Wd.below_drewN B3.out 1).size))
    clear he hb4 HG N4
    go_wp2_with fail
    refine (HH.out _).mono ?_
    rintro e w5 ⟨he, hb5⟩
    obtain ⟨A5, c5, rfl, _, _, N5⟩ := he.out
    have B5 := Lib.hid (B4.out.trans (hb5.mono B4.out.size))
    clear he hb5 HH N5
    go_wp2
    go_ret
    exact ⟨rfl, B5.out⟩


set_option maxRecDepth 100000 in
theorem lifted (os : Os) (started : os.Started) (H : Type) (enc : TypeId × Value → H) :
    ReturnsInHanded {} Tryd.checked os 7 .any (fun w args => (Rows.formBlankSpec.pre enc Tryd.prog Tryd.f7 Rows.formBlankRow.domain false w args ∧ laidMetH Tryd.prog [("unicode/utf8.acceptRanges", Rows.laid_unicode_utf8_acceptRanges), ("unicode/utf8.first", Rows.laid_unicode_utf8_first)] w) ∧ sizedMet enc Tryd.prog Tryd.f7 (OpenSpec.ofChange Rows.formBlankSpec) false w args) (Rows.formBlankSpec.post enc Tryd.prog Tryd.f7 false true false false) := by
  refine returnsInHanded_of_change_and (C := Tryd.checked) (X := fun w _ => laidMetH Tryd.prog [("unicode/utf8.acceptRanges", Rows.laid_unicode_utf8_acceptRanges), ("unicode/utf8.first", Rows.laid_unicode_utf8_first)] w) (fun _ _ _ hh h => h.of_heap hh) own started (by kernel_rfl) Tryd.func7
    (ChangeSpec.witness_shaped (enc := enc) (C := Tryd.checked) (os := os) (X := fun w _ => laidMetH Tryd.prog [("unicode/utf8.acceptRanges", Rows.laid_unicode_utf8_acceptRanges), ("unicode/utf8.first", Rows.laid_unicode_utf8_first)] w) false (laidWorld os) #[.int .i64 0, .string ByteArray.empty, .int .i64 0] 8 (World.layVars_os _ _ _)
      (World.shaped_of_ZipB (by kernel_rfl) (by kernel_rfl)) (by kernel_rfl) (by kernel_rfl) (by kernel_rfl) (laidWorld_met os _)) ?_
  intro W base args ds gs before hval0 hW hcnd hsz0 hL _
  have hval : ∀ (j : Nat) t v, Tryd.f7.params[j]? = some t → args[j]? = some v → Value.okWide Tryd.prog W .any base t v := hval0
  have hsz : (DataW.weightsEach Tryd.prog (Tryd.f7.params.toList ++ Rows.formBlankSpec.plain.varTypes Tryd.prog) (ds ++ gs)).all (· ≤ reachBytes) = true := hsz0
  have hW' := hW
  obtain ⟨p, q, hA0, hV0, rfl, hfz, hnd⟩ := hW
  have hV : DataW.TrodVars enc Tryd.prog W (fun _ => true) [] gs q := hV0
  have hA : DataW.TrodAll enc Tryd.prog W 0 (fun _ => true) true Tryd.f7.params.toList args.toList ds p := hA0
  rw [Tryd.params7] at hA hval hsz
  obtain ⟨v0, vs0, d0, ds0, p0, q0, hargs, rfl, rfl, h0, rr0⟩ := trodAll_cons hA
  obtain ⟨v1, vs1, d1, ds1, p1, q1, rfl, rfl, rfl, h1, rr1⟩ := trodAll_cons rr0
  obtain ⟨v2, vs2, d2, ds2, p2, q2, rfl, rfl, rfl, h2, rr2⟩ := trodAll_cons rr1
  obtain ⟨rfl, rfl, rfl⟩ := trodAll_nil rr2
  obtain rfl : args = #[v0, v1, v2] := by cases args; simp_all
  obtain ⟨rfl, rfl⟩ := trodVars_none hV
  have k0 := h0
  have lt0 : ∀ x ∈ p0, x.block < W.heap.size := by obtain ⟨m, hm⟩ := k0; exact DataW.trod_lt m _ _ _ hm
  have k1 := h1
  have lt1 : ∀ x ∈ p1, x.block < W.heap.size := by obtain ⟨m, hm⟩ := k1; exact DataW.trod_lt m _ _ _ hm
  have k2 := h2
  have lt2 : ∀ x ∈ p2, x.block < W.heap.size := by obtain ⟨m, hm⟩ := k2; exact DataW.trod_lt m _ _ _ hm
  obtain ⟨a0, rfl, rfl, rfl, w0⟩ := open_int Tryd.underlying3 (hval 0 3 v0 rfl rfl) h0
  obtain ⟨l0, hh0⟩ := bounds_i64 w0
  obtain ⟨s1, rfl, rfl, rfl, w1⟩ := open_string Tryd.underlying9 (hval 1 9 v1 rfl rfl) h1
  have r1 : s1.size ≤ 140737488351232 := by
    have := sized_string hsz (j := 1) (t := 9) rfl rfl
    simp only [reachBytes] at this
    simpa using this
  obtain ⟨a2, rfl, rfl, rfl, w2⟩ := open_int Tryd.underlying3 (hval 2 3 v2 rfl rfl) h2
  obtain ⟨l2, hh2⟩ := bounds_i64 w2
  clear hA0 hval0
  refine (walk a0 s1 a2 W l0 hh0 r1 l2 hh2).mono fun e W' ⟨he, bel⟩ => ?_
  subst he
  exact ⟨_, rfl, _, _, _, [], _, [], hW', trodAll_mk1 (shut_bool Tryd.underlying4 _), (trodAll_cons_mk (Below.trod laidOut (by kernel_rfl) (of_decide_eq_true (by kernel_rfl)) k0 bel lt0) (trodAll_cons_mk (Below.trod laidOut (by kernel_rfl) (of_decide_eq_true (by kernel_rfl)) k1 bel lt1) (trodAll_cons_mk (Below.trod laidOut (by kernel_rfl) (of_decide_eq_true (by kernel_rfl)) k2 bel lt2) trodAll_mk0))), rfl, bel.frame _, fun h => by cases h⟩

theorem over : Rows.formBlankRow.holds Tryd.pinned (OpenSpec.ofChange Rows.formBlankSpec) :=
  OpenClaim.holds_of_wide 7 Tryd.f7 rfl rfl rfl rfl rfl rfl rfl ⟨rfl, rfl, rfl, rfl, rfl⟩ rfl rfl rfl rfl rfl (by kernel_rfl) Tryd.func7 (by kernel_rfl)
    (of_decide_eq_true (by kernel_rfl)) (by unfold Func.isWrapper; rw [if_neg (of_decide_eq_false (by kernel_rfl))]; exact ⟨rfl, rfl⟩)
    (fun os started H enc _ => lifted os started H enc)
theorem proved : Rows.FormBlankCardSaid :=
  Claim7.holds_tied_plain_at .later [] [.data, .pinned] true (true, "e4d600c29fbf4c5fac612e47c5a6a81574e1e854991dc9fc02f52c8b403bfaa7") true
    over (fun _ h => by cases h) (by kernel_rfl) (fun _ h => by cases h) formBlank_row_tie rfl ⟨rfl, rfl⟩ (by kernel_rfl) rfl
    (fun f fn hf hfn => by
      obtain rfl : f = 7 := Option.some.inj ((show Tryd.prog.funcNamed "stileward/stilewardlaw3.FormBlank" = some 7 by kernel_rfl).symm.trans hf) |>.symm
      obtain rfl : fn = Tryd.f7 := (Option.some.inj (Tryd.func7.symm.trans hfn)).symm
      exact ⟨by kernel_rfl, fun j t ht => by
        rw [Tryd.params7] at ht
        rcases j with _ | _ | _ | j
        · obtain rfl : 3 = t := by simpa using ht
          exact (show Tryd.prog.wantsStandIn 3 = false by kernel_rfl)
        · obtain rfl : 9 = t := by simpa using ht
          exact (show Tryd.prog.wantsStandIn 9 = false by kernel_rfl)
        · obtain rfl : 3 = t := by simpa using ht
          exact (show Tryd.prog.wantsStandIn 3 = false by kernel_rfl)
        · simp at ht⟩)
    (by kernel_rfl)
#print axioms proved
end Go.Proofs.YtlhhhdgkdbplmaaDoor.formBlank
