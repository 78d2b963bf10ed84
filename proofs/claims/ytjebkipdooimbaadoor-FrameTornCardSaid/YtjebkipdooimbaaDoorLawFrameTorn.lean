/-
  The statement FrameTornCardSaid of this seat, proved: for every input the law returns true and its arguments read behind the call as before. Conditions: none but the row's own (each argument within the reach; the listed variable as the program lays it, tied by the given tie).
-/
import Derived.Test.YtjebkipdooimbaaDoorRows
import Derived.Test.YtjebkipdooimbaaDoorCards
import Derived.Test.YtjebkipdooimbaaDoorTie
import Derived.SevenTiedAt
import Derived.LaidLaws
import Derived.LaidHandle
import Derived.Stop.Joined
import Derived.JoinedOf
import Derived.RowKit
import Derived.RowKitTokens
import Derived.ChangeSame
import Derived.ChangeVars
import Derived.Test.YtjebkipdooimbaaDoorTexts
import Derived.SliceStrings
import Derived.Test.YtjebkipdooimbaaDoorWords
import Derived.WalkKit
import Derived.ProofKit
import Derived.OpenShut
import Derived.ShutString
import Derived.ChangeOld
import Derived.Below
import Derived.SizedLaws
import Derived.Lib.Hide
import Derived.Test.YtjebkipdooimbaaDoorFact
import Derived.Test.YtjebkipdooimbaaDoorFramed
namespace Go.Proofs.YtjebkipdooimbaaDoor.frameTorn
open Go.ChangeShapes Go.WideShapes Go.ChangeAt Go.RowKit Go.IntWalk Go.Proofs.YtjebkipdooimbaaDoor.Wd
open Go.ChangeMaps (open_string shut_string)
set_option linter.unusedVariables false

theorem own : ownKnob Tryd.prog.godebug = none := by kernel_rfl
theorem laidOut : laidOutB Tryd.prog = true := by kernel_rfl
theorem et : Tryd.prog.globalNamed "errors.errorType" = some 0 := by kernel_rfl
theorem rt : (Tryd.prog.cutTypes.find? (·.1 == "internal/reflectlite.rtype")).map (·.2) = some 78 := by kernel_rfl
theorem oneRow : ((List.range 122).filter fun t => Tryd.prog.rowNamed t [101, 114, 114, 111, 114]) = [23] := by kernel_rfl
theorem size : Tryd.prog.types.size = 122 := by kernel_rfl
/-- What the condition gives a walk: the variable's one cell. -/
theorem handle_of_laid {w : World} (h : laidMetH Tryd.prog [("errors.errorType", Rows.laid_errors_errorType)] w) : w.cell? ⟨0, 0, none⟩ = some (.iface 78 (.agg #[.pointer (some ⟨1, 23, none⟩)])) := by
  have h' : laidMet Tryd.prog [] w ∧ handlesMet Tryd.prog [("errors.errorType", Rows.laid_errors_errorType)] w := h
  obtain ⟨name, u, ty, e1, e2, e3, e4, e5⟩ := h'.2 _ (List.mem_singleton.2 rfl)
  have en : name = [101, 114, 114, 111, 114] := (Option.some.inj e1).symm
  subst en
  obtain rfl := Option.some.inj (rt.symm.trans e2)
  have hm : ty ∈ (List.range 122).filter fun t => Tryd.prog.rowNamed t [101, 114, 114, 111, 114] := List.mem_filter.2 ⟨List.mem_range.2 (by rw [← size]; exact e3), e4⟩
  rw [oneRow] at hm
  obtain rfl := List.mem_singleton.1 hm
  have hh : typeHandle Tryd.prog 23 = .pointer (some ⟨1, 23, none⟩) := by kernel_rfl
  rw [hh] at e5
  simpa using World.var?_cell et e5 0
/-- A world that meets the condition. -/
noncomputable def laidWorld (os : Os) : World :=
  let w0 := World.holding Tryd.prog os ⟨#[], #[], []⟩
  { w0 with heap := w0.heap.modify 0 fun
      | .cells _ t frozen => .cells #[.iface 78 (.agg #[.pointer (some ⟨1, 23, none⟩)])] t frozen
      | o => o }
theorem laidWorld_met (os : Os) (args : Array Value) : laidMetH Tryd.prog [("errors.errorType", Rows.laid_errors_errorType)] ((laidWorld os).forCall (fun _ _ => 0) ⟨#[], args, []⟩).memory :=
  laidMetH_of_parts (laidMet_nil _ _) (by kernel_rfl)
open Go.PlainAid Go.Proofs.YtjebkipdooimbaaDoor.Sm Go.Proofs.YtjebkipdooimbaaDoor.Pk Go.Proofs.YtjebkipdooimbaaDoor.Fr Go.Proofs.YtjebkipdooimbaaDoor.Er

set_option maxRecDepth 100000 in
set_option maxHeartbeats 4000000 in
theorem walk (A0 : Option Addr) (c0 : Nat) (z0 : List (List UInt8)) (a1 : Int) (w : World) (v0 : TextsAt w w.heap.size A0 z0) (r0 : z0.length ≤ 8796093021952) (t0 : ∀ b ∈ z0, b.length ≤ 9223372036854775807) (m0 : z0.length ≤ c0) (n0 : c0 ≤ 9223372036854775807) (l1 : -9223372036854775808 ≤ a1) (h1 : a1 ≤ 9223372036854775807) (hg : w.cell? ⟨0, 0, none⟩ = some (.iface 78 (.agg #[.pointer (some ⟨1, 23, none⟩)]))) :
    Calls Tryd.prog 5 #[.slice A0 z0.length c0, .int .i64 a1] w fun e w' => e = .returned (.bool true) ∧ Below w.heap.size w w' := by
  have HV := Lib.hid v0
  have HT := Lib.hid t0
  have HP := Lib.hid (fact_ok w hg)
  clear t0 hg
  by_cases hz : ∀ b ∈ z0, b.length ≤ 200
  · have HF := Lib.hid (fun W (h : Below w.heap.size w W) => framed_ok A0 c0 z0 W (v0.on h) (by omega) hz)
    have hf := (frames_le z0 hz).2
    by_cases hk : 0 ≤ a1 ∧ a1 ≤ ((frames z0).length : Int)
    · obtain ⟨hk0, hk1⟩ := hk
      obtain ⟨k, rfl⟩ := Int.eq_ofNat_of_zero_le hk0
      obtain ⟨j, j1, j2, j3, j4, j5⟩ := scan_torn z0 k hz (by omega)
      have hl : (z0.take j).length = j := by rw [List.length_take]; omega
      have hlz : ∀ b ∈ z0.take j, b.length ≤ 200 := fun b hb => hz b (List.mem_of_mem_take hb)
      have hs : (str (frames z0)).size = (frames z0).length := str_size _
      have hxk : ((str (frames z0)).extract 0 k).data.toList = (frames z0).take k := by rw [ext_front, str_data]
      have hxs : ((str (frames z0)).extract 0 k).size = k := by rw [← data_len, hxk, List.length_take]; omega
      have HS := Lib.hid (fun W => scan_ok ((str (frames z0)).extract 0 k) W (by rw [hxs]; unfold maxLen; omega) (z0.take j) (frames (z0.take j)).length 0 (by rw [hxk]; exact j2) (by omega))
      have HM := Lib.hid (fun (A : Option Addr) (c : Nat) W (h : TextsAt W W.heap.size A (z0.take j)) => framed_ok A c (z0.take j) W h (by omega) hlz)
      have hms : (str (frames (z0.take j))).size = (frames (z0.take j)).length := str_size _
      have HQ := Lib.hid (fun (A : Option Addr) (c d : Nat) W (h : TextsAt W W.heap.size A (z0.take j)) (h' : TextsAt W W.heap.size A0 (z0.take j)) => texts_same A A0 c d (z0.take j) (z0.take j) W rfl h h' (by omega))
      rw [hl] at HS HM HQ
      rw [← hms] at HS j3 j4 j5
      rw [← hs] at hf hk1
      have hn : errV 0 = .nilIface := rfl
      by_cases hj : j = z0.length
      · have hu := j4 hj
        have e1 : z0.take j = z0 := List.take_of_length_le (by omega)
        have hux : (str (frames (z0.take j))).size = (str (frames z0)).size := by rw [e1]
        clear hz hxk hxs hlz hl hms hs j2 j5 j4 e1 v0
        have hjj : ((j : Int) == (z0.length : Int)) = true := by simp; omega
        have HU := Lib.hid hux
        clear hj hu hux
        generalize str (frames (z0.take j)) = Y at *
        generalize str (frames z0) = X at *
        have hjc : j ≤ c0 := by omega
        have hyy : ((Y.size : Int) != (Y.size : Int)) = false := by simp
        go_enter Tryd.func5, Tryd.ntmps5
        go_wp2_with fail
        refine HP.out.mono ?_
        rintro e w1 ⟨rfl, hb⟩
        have HB1 := Lib.hid hb
        clear hb HP
        go_wp2_with fail
        refine (HF.out _ HB1.out).mono ?_
        rintro e w2 ⟨rfl, hb⟩
        have HB2 := Lib.hid (HB1.out.trans (hb.mono HB1.out.size))
        clear hb HF HB1
        go_wp2_with fail
        refine (HS.out _).mono ?_
        rintro e w3 ⟨A1, c1, rfl, ht, hb⟩
        have HT3 := Lib.hid ht
        have HB3 := Lib.hid (HB2.out.trans (hb.mono HB2.out.size))
        clear hb HS HB2 ht
        have HQ1 := Lib.hid (HQ.out A1 c1 c0 w3 HT3.out ((HV.out.on HB3.out).take j))
        clear HQ
        go_wp2_with fail
        refine HQ1.out.mono ?_
        rintro e w4 ⟨rfl, hb⟩
        have HT4 := Lib.hid (HT3.out.on hb)
        have HB4 := Lib.hid (HB3.out.trans (hb.mono HB3.out.size))
        clear hb HQ1 HB3 HT3
        go_wp2_with fail
        refine (HM.out A1 c1 _ HT4.out).mono ?_
        rintro e w5 ⟨rfl, hb⟩
        have HB5 := Lib.hid (HB4.out.trans (hb.mono HB4.out.size))
        clear hb HM HB4 HT4
        go_wp2
        go_ret
        exact ⟨by simp [HU.out], HB5.out⟩
      · have hjl : j < z0.length := by omega
        have hw := j5 z0[j] (List.getElem?_eq_getElem hjl)
        have HW := Lib.hid (fun W => write_ok (str z0[j]) W (by rw [str_size]; exact hz _ (List.getElem_mem hjl)))
        rw [str_data] at HW
        rw [← str_size] at hw
        have HV2 := Lib.hid (fun W (h : Below w.heap.size w W) => (v0.on h).at_ j hjl)
        clear hz hxk hxs hlz hl hms hs j2 j5 j4 v0
        have hjj : ((j : Int) == (z0.length : Int)) = false := by simp; omega
        clear hj
        generalize str (frm z0[j]) = Z at *
        generalize str z0[j] = b at *
        generalize str (frames (z0.take j)) = Y at *
        generalize str (frames z0) = X at *
        have hjc : j ≤ c0 := by omega
        have hyy : ((Y.size : Int) != (Y.size : Int)) = false := by simp
        go_enter Tryd.func5, Tryd.ntmps5
        go_wp2_with fail
        refine HP.out.mono ?_
        rintro e w1 ⟨rfl, hb⟩
        have HB1 := Lib.hid hb
        clear hb HP
        go_wp2_with fail
        refine (HF.out _ HB1.out).mono ?_
        rintro e w2 ⟨rfl, hb⟩
        have HB2 := Lib.hid (HB1.out.trans (hb.mono HB1.out.size))
        clear hb HF HB1
        go_wp2_with fail
        refine (HS.out _).mono ?_
        rintro e w3 ⟨A1, c1, rfl, ht, hb⟩
        have HT3 := Lib.hid ht
        have HB3 := Lib.hid (HB2.out.trans (hb.mono HB2.out.size))
        clear hb HS HB2 ht
        have HQ1 := Lib.hid (HQ.out A1 c1 c0 w3 HT3.out ((HV.out.on HB3.out).take j))
        clear HQ
        go_wp2_with fail
        refine HQ1.out.mono ?_
        rintro e w4 ⟨rfl, hb⟩
        have HT4 := Lib.hid (HT3.out.on hb)
        have HB4 := Lib.hid (HB3.out.trans (hb.mono HB3.out.size))
        clear hb HQ1 HB3 HT3
        go_wp2_with fail
        refine (HM.out A1 c1 _ HT4.out).mono ?_
        rintro e w5 ⟨rfl, hb⟩
        have HB5 := Lib.hid (HB4.out.trans (hb.mono HB4.out.size))
        clear hb HM HB4 HT4
        obtain ⟨ad, rfl, hadb, hcell⟩ := HV2.out w5 HB5.out
        go_wp2_with fail
        refine (HW.out _).mono ?_
        rintro e w6 ⟨rfl, hb⟩
        have HB6 := Lib.hid (HB5.out.trans (hb.mono HB5.out.size))
        clear hb HW HB5
        have hgt : decide ((k : Int) - (Y.size : Int) < (Z.size : Int)) = true := by simp; omega
        go_wp2
        go_ret
        exact ⟨by simp, HB6.out⟩
    · have hs : (str (frames z0)).size = (frames z0).length := str_size _
      rw [← hs] at hf hk
      clear hs hz v0
      generalize str (frames z0) = X at *
      by_cases hneg : a1 < 0
      · go_enter Tryd.func5, Tryd.ntmps5
        go_wp2_with fail
        refine HP.out.mono ?_
        rintro e w1 ⟨rfl, hb⟩
        have HB1 := Lib.hid hb
        clear hb HP
        go_wp2_with fail
        refine (HF.out _ HB1.out).mono ?_
        rintro e w2 ⟨rfl, hb⟩
        have HB2 := Lib.hid (HB1.out.trans (hb.mono HB1.out.size))
        clear hb HF
        go_wp2
        go_ret
        exact ⟨rfl, HB2.out⟩
      · have hgt : (X.size : Int) < a1 := by omega
        go_enter Tryd.func5, Tryd.ntmps5
        go_wp2_with fail
        refine HP.out.mono ?_
        rintro e w1 ⟨rfl, hb⟩
        have HB1 := Lib.hid hb
        clear hb HP
        go_wp2_with fail
        refine (HF.out _ HB1.out).mono ?_
        rintro e w2 ⟨rfl, hb⟩
        have HB2 := Lib.hid (HB1.out.trans (hb.mono HB1.out.size))
        clear hb HF
        go_wp2
        go_ret
        exact ⟨rfl, HB2.out⟩
  · have HF := Lib.hid (fun W (h : Below w.heap.size w W) => framed_bad A0 c0 z0 W (v0.on h) (by omega) HT.out hz)
    clear hz v0
    go_enter Tryd.func5, Tryd.ntmps5
    go_wp2_with fail
    refine HP.out.mono ?_
    rintro e w1 ⟨rfl, hb⟩
    have HB1 := Lib.hid hb
    clear hb HP
    go_wp2_with fail
    refine (HF.out _ HB1.out).mono ?_
    rintro e w2 ⟨rfl, hb⟩
    have HB2 := Lib.hid (HB1.out.trans (hb.mono HB1.out.size))
    clear hb HF
    go_wp2
    go_ret
    exact ⟨rfl, HB2.out⟩


set_option maxRecDepth 100000 in
theorem lifted (os : Os) (started : os.Started) (H : Type) (enc : TypeId × Value → H) :
    ReturnsInHanded {} Tryd.checked os 5 .any (fun w args => (Rows.frameTornSpec.pre enc Tryd.prog Tryd.f5 Rows.frameTornRow.domain false w args ∧ laidMetH Tryd.prog [("errors.errorType", Rows.laid_errors_errorType)] w) ∧ sizedMet enc Tryd.prog Tryd.f5 (OpenSpec.ofChange Rows.frameTornSpec) false w args) (Rows.frameTornSpec.post enc Tryd.prog Tryd.f5 false true false false) := by
  refine returnsInHanded_of_change_and (C := Tryd.checked) (X := fun w _ => laidMetH Tryd.prog [("errors.errorType", Rows.laid_errors_errorType)] w) (fun _ _ _ hh h => h.of_heap hh) own started (by kernel_rfl) Tryd.func5
    (ChangeSpec.witness_at (enc := enc) (C := Tryd.checked) (os := os) (X := fun w _ => laidMetH Tryd.prog [("errors.errorType", Rows.laid_errors_errorType)] w) false (laidWorld os) #[.slice none 0 0, .int .i64 0] 8 rfl (by kernel_rfl) (by kernel_rfl) (by kernel_rfl) (by kernel_rfl) (by kernel_rfl) (laidWorld_met os _)) ?_
  intro W base args ds gs before hval0 hW hcnd hsz0 hL _
  have hval : ∀ (j : Nat) t v, Tryd.f5.params[j]? = some t → args[j]? = some v → Value.okWide Tryd.prog W .any base t v := hval0
  have hsz : (DataW.weightsEach Tryd.prog (Tryd.f5.params.toList ++ Rows.frameTornSpec.plain.varTypes Tryd.prog) (ds ++ gs)).all (· ≤ reachBytes) = true := hsz0
  have hW' := hW
  obtain ⟨p, q, hA0, hV0, rfl, hfz, hnd⟩ := hW
  have hV : DataW.TrodVars enc Tryd.prog W (fun _ => true) [] gs q := hV0
  have hA : DataW.TrodAll enc Tryd.prog W 0 (fun _ => true) true Tryd.f5.params.toList args.toList ds p := hA0
  rw [Tryd.params5] at hA hval hsz
  obtain ⟨v0, vs0, d0, ds0, p0, q0, hargs, rfl, rfl, h0, rr0⟩ := trodAll_cons hA
  obtain ⟨v1, vs1, d1, ds1, p1, q1, rfl, rfl, rfl, h1, rr1⟩ := trodAll_cons rr0
  obtain ⟨rfl, rfl, rfl⟩ := trodAll_nil rr1
  obtain rfl : args = #[v0, v1] := by cases args; simp_all
  obtain ⟨rfl, rfl⟩ := trodVars_none hV
  have k0 := h0
  have lt0 : ∀ x ∈ p0, x.block < W.heap.size := by obtain ⟨m, hm⟩ := k0; exact DataW.trod_lt m _ _ _ hm
  have k1 := h1
  have lt1 : ∀ x ∈ p1, x.block < W.heap.size := by obtain ⟨m, hm⟩ := k1; exact DataW.trod_lt m _ _ _ hm
  obtain ⟨A0, len0, c0, rfl⟩ := okWide_slice Tryd.underlying34 (hval 0 34 v0 rfl rfl)
  obtain ⟨z0, rfl, x0, r0, t0, m0, n0⟩ : ∃ zs : List (List UInt8), len0 = zs.length ∧ TextsAt W W.heap.size A0 zs ∧ zs.length ≤ 8796093021952 ∧ (∀ b ∈ zs, b.length ≤ 9223372036854775807) ∧ zs.length ≤ c0 ∧ c0 ≤ 9223372036854775807 := by
    obtain ⟨fuel, hf⟩ := h0
    rcases open_strings Tryd.underlying34 Tryd.underlying9 (by kernel_rfl) hf with ⟨hcs, _⟩ | ⟨x, l, c, zs, hcs, _, hl, hm, hz, hx, hcell, hwz⟩
    · simp [Value.cells] at hcs
      obtain ⟨rfl, rfl, rfl⟩ := hcs
      exact ⟨[], rfl, TextsAt.nil _ _ _, by simp, by simp, by simp, by simp⟩
    · simp [Value.cells] at hcs
      obtain ⟨rfl, rfl, rfl⟩ := hcs
      have hd := congrArg Prod.fst hx
      simp only at hd
      have := sized_slice hsz (j := 0) (t := 34) (e := 9) rfl (by rw [hd]; rfl) Tryd.underlying34
      rw [(show Tryd.prog.bytesOf 9 = 16 by kernel_rfl)] at this
      simp only [reachBytes, strs, List.length_map, List.length_take, List.length_drop] at this
      have hz' : zs.length = c0 := by simpa using hz
      refine ⟨(zs.take len0).map (fun s => s.data.toList), by rw [List.length_map, List.length_take]; omega, textsAt_of_open hcell len0, by rw [List.length_map, List.length_take]; omega, ?_, by rw [List.length_map, List.length_take]; omega, by unfold maxLen at hm; omega⟩
      intro b hb
      obtain ⟨s, hs, rfl⟩ := List.mem_map.1 hb
      have := hwz s (List.mem_of_mem_take hs)
      rw [data_len]; unfold maxLen at this; omega
  obtain ⟨a1, rfl, rfl, rfl, w1⟩ := open_int Tryd.underlying3 (hval 1 3 v1 rfl rfl) h1
  obtain ⟨l1, hh1⟩ := bounds_i64 w1
  clear hA0 hval0
  refine (walk A0 c0 z0 a1 W x0 r0 t0 m0 n0 l1 hh1 (handle_of_laid hL)).mono fun e W' ⟨he, bel⟩ => ?_
  subst he
  exact ⟨_, rfl, _, _, _, [], _, [], hW', trodAll_mk1 (shut_bool Tryd.underlying4 _), (trodAll_cons_mk (Below.trod laidOut (by kernel_rfl) (of_decide_eq_true (by kernel_rfl)) k0 bel lt0) (trodAll_cons_mk (Below.trod laidOut (by kernel_rfl) (of_decide_eq_true (by kernel_rfl)) k1 bel lt1) trodAll_mk0)), rfl, bel.frame _, fun h => by cases h⟩

theorem over : Rows.frameTornRow.holds Tryd.pinned (OpenSpec.ofChange Rows.frameTornSpec) :=
  OpenClaim.holds_of_wide 5 Tryd.f5 rfl rfl rfl rfl rfl rfl rfl ⟨rfl, rfl, rfl, rfl, rfl⟩ rfl rfl rfl rfl rfl (by kernel_rfl) Tryd.func5 (by kernel_rfl)
    (of_decide_eq_true (by kernel_rfl)) (by unfold Func.isWrapper; rw [if_neg (of_decide_eq_false (by kernel_rfl))]; exact ⟨rfl, rfl⟩)
    (fun os started H enc _ => lifted os started H enc)
theorem proved : Rows.FrameTornCardSaid :=
  Claim7.holds_tied_plain_at .later [] [.handle] true (true, "e710c5158a0d88577b98c8901c15fa95774bac2ff64dc546779ee59af722ced0") true
    over (fun _ h => by cases h) (by kernel_rfl) (fun _ h => by cases h) frameTorn_row_tie rfl ⟨rfl, rfl⟩ (by kernel_rfl) rfl
    (fun f fn hf hfn => by
      obtain rfl : f = 5 := Option.some.inj ((show Tryd.prog.funcNamed "stileward/stilewardlaw1.FrameTorn" = some 5 by kernel_rfl).symm.trans hf) |>.symm
      obtain rfl : fn = Tryd.f5 := (Option.some.inj (Tryd.func5.symm.trans hfn)).symm
      exact ⟨by kernel_rfl, fun j t ht => by
        rw [Tryd.params5] at ht
        rcases j with _ | _ | j
        · obtain rfl : 34 = t := by simpa using ht
          exact (show Tryd.prog.wantsStandIn 34 = false by kernel_rfl)
        · obtain rfl : 3 = t := by simpa using ht
          exact (show Tryd.prog.wantsStandIn 3 = false by kernel_rfl)
        · simp at ht⟩)
    (by kernel_rfl)
#print axioms proved
end Go.Proofs.YtjebkipdooimbaaDoor.frameTorn
