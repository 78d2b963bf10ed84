/-
  The statement PackCutCardSaid of this seat, proved: for every input the law returns true and its arguments read behind the call as before. Conditions: none but the row's own (each argument within the reach; the listed variable as the program lays it, tied by the given tie).
-/
import Derived.Test.YtfpebmnmiplooaaDoorRows
import Derived.Test.YtfpebmnmiplooaaDoorCards
import Derived.Test.YtfpebmnmiplooaaDoorTie
import Derived.SevenTiedAt
import Derived.LaidLaws
import Derived.LaidHandle
import Derived.Stop.Joined
import Derived.JoinedOf
import Derived.RowKit
import Derived.RowKitTokens
import Derived.ChangeSame
import Derived.ChangeVars
import Derived.Test.YtfpebmnmiplooaaDoorWords
import Derived.WalkKit
import Derived.ProofKit
import Derived.OpenShut
import Derived.ShutString
import Derived.ChangeOld
import Derived.Below
import Derived.SizedLaws
import Derived.Lib.Hide
import Derived.Test.YtfpebmnmiplooaaDoorPackR
import Derived.Test.YtfpebmnmiplooaaDoorErr
namespace Go.Proofs.YtfpebmnmiplooaaDoor.packCut
open Go.ChangeShapes Go.WideShapes Go.ChangeAt Go.RowKit Go.IntWalk Go.Proofs.YtfpebmnmiplooaaDoor.Wd
open Go.ChangeMaps (open_string shut_string)
set_option linter.unusedVariables false

theorem own : ownKnob Tryd.prog.godebug = none := by kernel_rfl
theorem laidOut : laidOutB Tryd.prog = true := by kernel_rfl
theorem et : Tryd.prog.globalNamed "errors.errorType" = some 0 := by kernel_rfl
theorem rt : (Tryd.prog.cutTypes.find? (·.1 == "internal/reflectlite.rtype")).map (·.2) = some 64 := by kernel_rfl
theorem oneRow : ((List.range 107).filter fun t => Tryd.prog.rowNamed t [101, 114, 114, 111, 114]) = [23] := by kernel_rfl
theorem size : Tryd.prog.types.size = 107 := by kernel_rfl
/-- What the condition gives a walk: the variable's one cell. -/
theorem handle_of_laid {w : World} (h : laidMetH Tryd.prog [("errors.errorType", Rows.laid_errors_errorType)] w) : w.cell? ⟨0, 0, none⟩ = some (.iface 64 (.agg #[.pointer (some ⟨1, 23, none⟩)])) := by
  have h' : laidMet Tryd.prog [] w ∧ handlesMet Tryd.prog [("errors.errorType", Rows.laid_errors_errorType)] w := h
  obtain ⟨name, u, ty, e1, e2, e3, e4, e5⟩ := h'.2 _ (List.mem_singleton.2 rfl)
  have en : name = [101, 114, 114, 111, 114] := (Option.some.inj e1).symm
  subst en
  obtain rfl := Option.some.inj (rt.symm.trans e2)
  have hm : ty ∈ (List.range 107).filter fun t => Tryd.prog.rowNamed t [101, 114, 114, 111, 114] := List.mem_filter.2 ⟨List.mem_range.2 (by rw [← size]; exact e3), e4⟩
  rw [oneRow] at hm
  obtain rfl := List.mem_singleton.1 hm
  have hh : typeHandle Tryd.prog 23 = .pointer (some ⟨1, 23, none⟩) := by kernel_rfl
  rw [hh] at e5
  simpa using World.var?_cell et e5 0
/-- A world that meets the condition. -/
noncomputable def laidWorld (os : Os) : World :=
  let w0 := World.holding Tryd.prog os ⟨#[], #[], []⟩
  { w0 with heap := w0.heap.modify 0 fun
      | .cells _ t frozen => .cells #[.iface 64 (.agg #[.pointer (some ⟨1, 23, none⟩)])] t frozen
      | o => o }
theorem laidWorld_met (os : Os) (args : Array Value) : laidMetH Tryd.prog [("errors.errorType", Rows.laid_errors_errorType)] ((laidWorld os).forCall (fun _ _ => 0) ⟨#[], args, []⟩).memory :=
  laidMetH_of_parts (laidMet_nil _ _) (by kernel_rfl)
open Go.Proofs.YtfpebmnmiplooaaDoor.Pk Go.Proofs.YtfpebmnmiplooaaDoor.Er
theorem keep_handle {w w' : World} (hg : w.cell? ⟨0, 0, none⟩ = some (.iface 64 (.agg #[.pointer (some ⟨1, 23, none⟩)]))) (hb : Below w.heap.size w w') :
    w'.cell? ⟨0, 0, none⟩ = some (.iface 64 (.agg #[hErr])) := by
  rw [hb.cell (World.block_lt_of_cell? w _ hg)]; exact hg

set_option maxRecDepth 100000 in
set_option maxHeartbeats 4000000 in
theorem walk (a0 : Int) (A1 : Option Addr) (c1 : Nat) (z1 : List Int) (a2 : Int) (w : World) (l0 : -9223372036854775808 ≤ a0) (h0 : a0 ≤ 9223372036854775807) (v1 : IntsAt w w.heap.size A1 z1) (r1 : z1.length ≤ 17592186043904) (l2 : -9223372036854775808 ≤ a2) (h2 : a2 ≤ 9223372036854775807) (hg : w.cell? ⟨0, 0, none⟩ = some (.iface 64 (.agg #[.pointer (some ⟨1, 23, none⟩)]))) :
    Calls Tryd.prog 5 #[.int .i64 a0, .slice A1 z1.length c1, .int .i64 a2] w fun e w' => e = .returned (.bool true) ∧ Below w.heap.size w w' := by
  have hcase : (∃ e9, lstOut z1 = ([], e9 + 1)) ∨ (∃ l : List Nat, l.length ≤ 200 ∧ z1 = l.map Int.ofNat ∧ ∀ n ∈ l, n < 9223372036854775808) := lstOut_cases z1 v1.2
  have HG := Lib.hid hg
  clear hg
  by_cases ha : a0 < 0
  · go_enter Tryd.func5, Tryd.ntmps5
    go_wp2_with fail
    refine (num_300 _).mono ?_
    rintro e w1 ⟨rfl, hb1⟩
    have HB1 := Lib.hid hb1
    clear hb1
    go_wp2_with fail
    refine (num_neg a0 _ ha).mono ?_
    rintro e w2 ⟨rfl, rfl⟩
    go_wp2
    go_ret
    exact ⟨rfl, HB1.out⟩
  · obtain ⟨n, rfl⟩ := Int.eq_ofNat_of_zero_le (show 0 ≤ a0 by omega)
    have hn : n < 9223372036854775808 := by omega
    have hsz := str_size (num n)
    have hnl := num_len n
    have HC := Lib.hid (fun W => num_ok n W hn)
    by_cases hk : 0 ≤ a2 ∧ a2 < ((str (num n)).size : Int)
    · obtain ⟨k, rfl⟩ := Int.eq_ofNat_of_zero_le hk.1
      have hkl : k < (num n).length := by rw [← hsz]; omega
      have hrd := rd_cut n k hn hkl
      have hex : ((str (num n)).extract 0 k).data.toList = (num n).take k := by
        rw [ByteArray.data_extract, Array.toList_extract, List.extract_eq_take_drop, str_data]; rfl
      rw [← hex] at hrd
      have hxs : ((str (num n)).extract 0 k).size ≤ maxLen := by
        rw [← data_len, hex, List.length_take]; unfold maxLen; omega
      have HR0 := Lib.hid (fun W => readNum_bad _ W hxs 4 hrd)
      have hkz : (k : Int) < (str (num n)).size := by omega
      have hkz3 : k < (str (num n)).size := by omega
      generalize str (num n) = X at *
      clear hnl hrd hex hxs hkl hk hsz ha
      have HK := Lib.hid hcase
      have HV1 := Lib.hid v1
      clear hcase v1
      go_enter Tryd.func5, Tryd.ntmps5
      go_wp2_with fail
      refine (num_300 _).mono ?_
      rintro e w1 ⟨rfl, hb1⟩
      have HB1 := Lib.hid hb1
      clear hb1
      go_wp2_with fail
      refine (HC.out _).mono ?_
      rintro e w2 ⟨rfl, hb2⟩
      have HB2 := Lib.hid (HB1.out.trans (hb2.mono HB1.out.size))
      clear hb2
      go_wp2_with fail
      refine (HR0.out _).mono ?_
      rintro e w3 ⟨rfl, rfl⟩
      have HE := Lib.hid (error_told 5 5 w2 (keep_handle HG.out HB2.out))
      clear HR0
      go_wp2_with fail
      refine HE.out.mono ?_
      rintro r w4 ⟨hr, hb4⟩
      have hr' : r = .returned (.bool true) := by rw [hr.out]; rfl
      subst hr'
      have HB2' := Lib.hid (HB2.out.trans (hb4.mono HB2.out.size))
      clear hb4 hr HE
      go_wp2_with fail
      have hcase := HK.out
      have v1 := HV1.out
      rcases hcase with ⟨e9, he9⟩ | ⟨l, hl, hz1, hbig⟩
      · refine (list_bad A1 c1 z1 _ (v1.below HB2'.out |>.more (HB2'.out).size) (by omega) e9 he9).mono ?_
        rintro e w3 ⟨rfl, hb3⟩
        have HB3 := Lib.hid ((HB2'.out).trans (hb3.mono (HB2'.out).size))
        clear he9 hb3 v1
        go_wp2
        go_ret
        exact ⟨rfl, HB3.out⟩
      · refine (list_nat A1 c1 l z1 _ hz1 (v1.below HB2'.out |>.more (HB2'.out).size) hl).mono ?_
        rintro e w3 ⟨rfl, hb3⟩
        have HB3 := Lib.hid ((HB2'.out).trans (hb3.mono (HB2'.out).size))
        have hsz := str_size (lst l)
        have hln := lst_len l
        by_cases hk : (k : Int) < 0 ∨ ((str (lst l)).size : Int) ≤ (k : Int)
        · generalize str (lst l) = Y at *
          clear hz1 hbig hb3 v1 hsz hln
          have d1 : (decide ((k : Int) < 0) || decide ((Y.size : Int) ≤ (k : Int))) = true := by
            rcases hk with h | h <;> simp [h]
          rcases hk with hk | hk
          · go_wp2
            all_goals (go_ret; exact ⟨rfl, HB3.out⟩)
          · go_wp2
            all_goals (go_ret; exact ⟨rfl, HB3.out⟩)
        · skip
          have hkl : k < (lst l).length := by rw [← hsz]; omega
          have hrd := rdList_cut l k hl hbig hkl
          have hex : ((str (lst l)).extract 0 k).data.toList = (lst l).take k := by
            rw [ByteArray.data_extract, Array.toList_extract, List.extract_eq_take_drop, str_data]; rfl
          rw [← hex] at hrd
          have hxs : ((str (lst l)).extract 0 k).size ≤ 140737488355327 := by
            rw [← data_len, hex, List.length_take]; omega
          have HR := Lib.hid (fun W => readList_bad _ W hxs 4 hrd)
          have hkz : (k : Int) ≤ (str (lst l)).size := by omega
          have hkz2 : ¬ ((str (lst l)).size : Int) ≤ k := by omega
          have hkz3 : k < (str (lst l)).size := by omega
          generalize str (lst l) = Y at *
          clear hz1 hbig hb3 v1 hsz hln hrd hex hxs hkl
          go_wp2_with fail
          refine (HR.out _).mono ?_
          rintro e w4 ⟨rfl, hb4⟩
          have HB4 := Lib.hid (HB3.out.trans (hb4.mono HB3.out.size))
          have HE := Lib.hid (error_told 5 5 w4 (keep_handle HG.out HB4.out))
          clear hb4 HR
          go_wp2_with fail
          refine HE.out.mono ?_
          rintro r w5 ⟨hr, hb5⟩
          have hr' : r = .returned (.bool true) := by rw [hr.out]; rfl
          subst hr'
          have HB5 := Lib.hid (HB4.out.trans (hb5.mono HB4.out.size))
          clear hb5 hr HE
          go_wp2
          go_ret
          exact ⟨rfl, HB5.out⟩

    · have hk2 : a2 < 0 ∨ ((str (num n)).size : Int) ≤ a2 := by omega
      have dk : (decide (0 ≤ a2) && decide (a2 < ((str (num n)).size : Int))) = false := by
        rw [Bool.and_eq_false_iff]; simp; omega
      generalize str (num n) = X at *
      clear hnl hk hsz ha
      have HK := Lib.hid hcase
      have HV1 := Lib.hid v1
      clear hcase v1
      rcases hk2 with hk2 | hk2
      · go_enter Tryd.func5, Tryd.ntmps5
        go_wp2_with fail
        refine (num_300 _).mono ?_
        rintro e w1 ⟨rfl, hb1⟩
        have HB1 := Lib.hid hb1
        clear hb1
        go_wp2_with fail
        refine (HC.out _).mono ?_
        rintro e w2 ⟨rfl, hb2⟩
        have HB2 := Lib.hid (HB1.out.trans (hb2.mono HB1.out.size))
        clear hb2
        go_wp2_with fail
        have hcase := HK.out
        have v1 := HV1.out
        rcases hcase with ⟨e9, he9⟩ | ⟨l, hl, hz1, hbig⟩
        · refine (list_bad A1 c1 z1 _ (v1.below HB2.out |>.more (HB2.out).size) (by omega) e9 he9).mono ?_
          rintro e w3 ⟨rfl, hb3⟩
          have HB3 := Lib.hid ((HB2.out).trans (hb3.mono (HB2.out).size))
          clear he9 hb3 v1
          go_wp2
          go_ret
          exact ⟨rfl, HB3.out⟩
        · refine (list_nat A1 c1 l z1 _ hz1 (v1.below HB2.out |>.more (HB2.out).size) hl).mono ?_
          rintro e w3 ⟨rfl, hb3⟩
          have HB3 := Lib.hid ((HB2.out).trans (hb3.mono (HB2.out).size))
          have hsz := str_size (lst l)
          have hln := lst_len l
          by_cases hk : a2 < 0 ∨ ((str (lst l)).size : Int) ≤ a2
          · generalize str (lst l) = Y at *
            clear hz1 hbig hb3 v1 hsz hln
            have d1 : (decide (a2 < 0) || decide ((Y.size : Int) ≤ a2)) = true := by
              rcases hk with h | h <;> simp [h]
            rcases hk with hk | hk
            · go_wp2
              all_goals (go_ret; exact ⟨rfl, HB3.out⟩)
            · go_wp2
              all_goals (go_ret; exact ⟨rfl, HB3.out⟩)
          · exact absurd (.inl hk2) hk

      · go_enter Tryd.func5, Tryd.ntmps5
        go_wp2_with fail
        refine (num_300 _).mono ?_
        rintro e w1 ⟨rfl, hb1⟩
        have HB1 := Lib.hid hb1
        clear hb1
        go_wp2_with fail
        refine (HC.out _).mono ?_
        rintro e w2 ⟨rfl, hb2⟩
        have HB2 := Lib.hid (HB1.out.trans (hb2.mono HB1.out.size))
        clear hb2
        go_wp2_with fail
        have hcase := HK.out
        have v1 := HV1.out
        rcases hcase with ⟨e9, he9⟩ | ⟨l, hl, hz1, hbig⟩
        · refine (list_bad A1 c1 z1 _ (v1.below HB2.out |>.more (HB2.out).size) (by omega) e9 he9).mono ?_
          rintro e w3 ⟨rfl, hb3⟩
          have HB3 := Lib.hid ((HB2.out).trans (hb3.mono (HB2.out).size))
          clear he9 hb3 v1
          go_wp2
          go_ret
          exact ⟨rfl, HB3.out⟩
        · refine (list_nat A1 c1 l z1 _ hz1 (v1.below HB2.out |>.more (HB2.out).size) hl).mono ?_
          rintro e w3 ⟨rfl, hb3⟩
          have HB3 := Lib.hid ((HB2.out).trans (hb3.mono (HB2.out).size))
          have hsz := str_size (lst l)
          have hln := lst_len l
          by_cases hk : a2 < 0 ∨ ((str (lst l)).size : Int) ≤ a2
          · generalize str (lst l) = Y at *
            clear hz1 hbig hb3 v1 hsz hln
            have d1 : (decide (a2 < 0) || decide ((Y.size : Int) ≤ a2)) = true := by
              rcases hk with h | h <;> simp [h]
            rcases hk with hk | hk
            · go_wp2
              all_goals (go_ret; exact ⟨rfl, HB3.out⟩)
            · go_wp2
              all_goals (go_ret; exact ⟨rfl, HB3.out⟩)
          · obtain ⟨k, rfl⟩ := Int.eq_ofNat_of_zero_le (show 0 ≤ a2 by omega)
            have hkl : k < (lst l).length := by rw [← hsz]; omega
            have hrd := rdList_cut l k hl hbig hkl
            have hex : ((str (lst l)).extract 0 k).data.toList = (lst l).take k := by
              rw [ByteArray.data_extract, Array.toList_extract, List.extract_eq_take_drop, str_data]; rfl
            rw [← hex] at hrd
            have hxs : ((str (lst l)).extract 0 k).size ≤ 140737488355327 := by
              rw [← data_len, hex, List.length_take]; omega
            have HR := Lib.hid (fun W => readList_bad _ W hxs 4 hrd)
            have hkz : (k : Int) ≤ (str (lst l)).size := by omega
            have hkz2 : ¬ ((str (lst l)).size : Int) ≤ k := by omega
            have hkz3 : k < (str (lst l)).size := by omega
            generalize str (lst l) = Y at *
            clear hz1 hbig hb3 v1 hsz hln hrd hex hxs hkl
            go_wp2_with fail
            refine (HR.out _).mono ?_
            rintro e w4 ⟨rfl, hb4⟩
            have HB4 := Lib.hid (HB3.out.trans (hb4.mono HB3.out.size))
            have HE := Lib.hid (error_told 5 5 w4 (keep_handle HG.out HB4.out))
            clear hb4 HR
            go_wp2_with fail
            refine HE.out.mono ?_
            rintro r w5 ⟨hr, hb5⟩
            have hr' : r = .returned (.bool true) := by rw [hr.out]; rfl
            subst hr'
            have HB5 := Lib.hid (HB4.out.trans (hb5.mono HB4.out.size))
            clear hb5 hr HE
            go_wp2
            go_ret
            exact ⟨rfl, HB5.out⟩



set_option maxRecDepth 100000 in
theorem lifted (os : Os) (started : os.Started) (H : Type) (enc : TypeId × Value → H) :
    ReturnsInHanded {} Tryd.checked os 5 .any (fun w args => (Rows.packCutSpec.pre enc Tryd.prog Tryd.f5 Rows.packCutRow.domain false w args ∧ laidMetH Tryd.prog [("errors.errorType", Rows.laid_errors_errorType)] w) ∧ sizedMet enc Tryd.prog Tryd.f5 (OpenSpec.ofChange Rows.packCutSpec) false w args) (Rows.packCutSpec.post enc Tryd.prog Tryd.f5 false true false false) := by
  refine returnsInHanded_of_change_and (C := Tryd.checked) (X := fun w _ => laidMetH Tryd.prog [("errors.errorType", Rows.laid_errors_errorType)] w) (fun _ _ _ hh h => h.of_heap hh) own started (by kernel_rfl) Tryd.func5
    (ChangeSpec.witness_at (enc := enc) (C := Tryd.checked) (os := os) (X := fun w _ => laidMetH Tryd.prog [("errors.errorType", Rows.laid_errors_errorType)] w) false (laidWorld os) #[.int .i64 0, .slice none 0 0, .int .i64 0] 8 rfl (by kernel_rfl) (by kernel_rfl) (by kernel_rfl) (by kernel_rfl) (by kernel_rfl) (laidWorld_met os _)) ?_
  intro W base args ds gs before hval0 hW hcnd hsz0 hL _
  have hval : ∀ (j : Nat) t v, Tryd.f5.params[j]? = some t → args[j]? = some v → Value.okWide Tryd.prog W .any base t v := hval0
  have hsz : (DataW.weightsEach Tryd.prog (Tryd.f5.params.toList ++ Rows.packCutSpec.plain.varTypes Tryd.prog) (ds ++ gs)).all (· ≤ reachBytes) = true := hsz0
  have hW' := hW
  obtain ⟨p, q, hA0, hV0, rfl, hfz, hnd⟩ := hW
  have hV : DataW.TrodVars enc Tryd.prog W (fun _ => true) [] gs q := hV0
  have hA : DataW.TrodAll enc Tryd.prog W 0 (fun _ => true) true Tryd.f5.params.toList args.toList ds p := hA0
  rw [Tryd.params5] at hA hval hsz
  obtain ⟨v0, vs0, d0, ds0, p0, q0, hargs, rfl, rfl, h0, rr0⟩ := trodAll_cons hA
  obtain ⟨v1, vs1, d1, ds1, p1, q1, rfl, rfl, rfl, h1, rr1⟩ := trodAll_cons rr0
  obtain ⟨v2, vs2, d2, ds2, p2, q2, rfl, rfl, rfl, h2, rr2⟩ := trodAll_cons rr1
  obtain ⟨rfl, rfl, rfl⟩ := trodAll_nil rr2
  obtain rfl : args = #[v0, v1, v2] := by cases args; simp_all
  obtain ⟨rfl, rfl⟩ := trodVars_none hV
  have k0 := h0
  have lt0 : ∀ x ∈ p0, x.block < W.heap.size := by obtain ⟨m, hm⟩ := k0; exact DataW.trod_lt m _ _ _ hm
  have k1 := h1
  have lt1 : ∀ x ∈ p1, x.block < W.heap.size := by obtain ⟨m, hm⟩ := k1; exact DataW.trod_lt m _ _ _ hm
  have k2 := h2
  have lt2 : ∀ x ∈ p2, x.block < W.heap.size := by obtain ⟨m, hm⟩ := k2; exact DataW.trod_lt m _ _ _ hm
  obtain ⟨a0, rfl, rfl, rfl, w0⟩ := open_int Tryd.underlying3 (hval 0 3 v0 rfl rfl) h0
  obtain ⟨l0, hh0⟩ := bounds_i64 w0
  obtain ⟨A1, len1, c1, rfl⟩ := okWide_slice Tryd.underlying33 (hval 1 33 v1 rfl rfl)
  obtain ⟨z1, rfl, x1, r1⟩ : ∃ zs : List Int, len1 = zs.length ∧ IntsAt W W.heap.size A1 zs ∧ zs.length ≤ 17592186043904 := by
    obtain ⟨fuel, hf⟩ := h1
    rcases open_ints Tryd.underlying33 Tryd.underlying3 (by kernel_rfl) hf with ⟨hcs, _⟩ | ⟨x, l, c, zs, hcs, _, hl, hm, hz, hx, hcell, hwz⟩
    · simp [Value.cells] at hcs
      obtain ⟨rfl, rfl, rfl⟩ := hcs
      exact ⟨[], rfl, IntsAt.nil _ _ _, by simp⟩
    · simp [Value.cells] at hcs
      obtain ⟨rfl, rfl, rfl⟩ := hcs
      have hd := congrArg Prod.fst hx
      simp only at hd
      have := sized_slice hsz (j := 1) (t := 33) (e := 3) rfl (by rw [hd]; rfl) Tryd.underlying33
      rw [(show Tryd.prog.bytesOf 3 = 8 by kernel_rfl)] at this
      simp only [reachBytes, lits, List.length_map, List.length_take, List.length_drop] at this
      have hz' : zs.length = c1 := by simpa using hz
      exact ⟨zs.take len1, by rw [List.length_take]; omega, intsAt_of_open hcell hwz len1, by rw [List.length_take]; omega⟩
  obtain ⟨a2, rfl, rfl, rfl, w2⟩ := open_int Tryd.underlying3 (hval 2 3 v2 rfl rfl) h2
  obtain ⟨l2, hh2⟩ := bounds_i64 w2
  clear hA0 hval0
  refine (walk a0 A1 c1 z1 a2 W l0 hh0 x1 r1 l2 hh2 (handle_of_laid hL)).mono fun e W' ⟨he, bel⟩ => ?_
  subst he
  exact ⟨_, rfl, _, _, _, [], _, [], hW', trodAll_mk1 (shut_bool Tryd.underlying4 _), (trodAll_cons_mk (Below.trod laidOut (by kernel_rfl) (of_decide_eq_true (by kernel_rfl)) k0 bel lt0) (trodAll_cons_mk (Below.trod laidOut (by kernel_rfl) (of_decide_eq_true (by kernel_rfl)) k1 bel lt1) (trodAll_cons_mk (Below.trod laidOut (by kernel_rfl) (of_decide_eq_true (by kernel_rfl)) k2 bel lt2) trodAll_mk0))), rfl, bel.frame _, fun h => by cases h⟩

theorem over : Rows.packCutRow.holds Tryd.pinned (OpenSpec.ofChange Rows.packCutSpec) :=
  OpenClaim.holds_of_wide 5 Tryd.f5 rfl rfl rfl rfl rfl rfl rfl ⟨rfl, rfl, rfl, rfl, rfl⟩ rfl rfl rfl rfl rfl (by kernel_rfl) Tryd.func5 (by kernel_rfl)
    (of_decide_eq_true (by kernel_rfl)) (by unfold Func.isWrapper; rw [if_neg (of_decide_eq_false (by kernel_rfl))]; exact ⟨rfl, rfl⟩)
    (fun os started H enc _ => lifted os started H enc)
theorem proved : Rows.PackCutCardSaid :=
  Claim7.holds_tied_plain_at .later [] [.handle] true (true, "7de4069c6059feff6597f4bcd9e2b2f1c6a8aae214d5afdd2dc24f047b427873") true
    over (fun _ h => by cases h) (by kernel_rfl) (fun _ h => by cases h) packCut_row_tie rfl ⟨rfl, rfl⟩ (by kernel_rfl) rfl
    (fun f fn hf hfn => by
      obtain rfl : f = 5 := Option.some.inj ((show Tryd.prog.funcNamed "stileward/stilewardlaw1.PackCut" = some 5 by kernel_rfl).symm.trans hf) |>.symm
      obtain rfl : fn = Tryd.f5 := (Option.some.inj (Tryd.func5.symm.trans hfn)).symm
      exact ⟨by kernel_rfl, fun j t ht => by
        rw [Tryd.params5] at ht
        rcases j with _ | _ | _ | j
        · obtain rfl : 3 = t := by simpa using ht
          exact (show Tryd.prog.wantsStandIn 3 = false by kernel_rfl)
        · obtain rfl : 33 = t := by simpa using ht
          exact (show Tryd.prog.wantsStandIn 33 = false by kernel_rfl)
        · obtain rfl : 3 = t := by simpa using ht
          exact (show Tryd.prog.wantsStandIn 3 = false by kernel_rfl)
        · simp at ht⟩)
    (by kernel_rfl)
#print axioms proved
end Go.Proofs.YtfpebmnmiplooaaDoor.packCut
