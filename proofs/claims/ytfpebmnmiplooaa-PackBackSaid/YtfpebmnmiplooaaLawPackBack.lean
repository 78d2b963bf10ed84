/-
  The statement PackBackSaid of this seat, proved: for every input the law returns true and its arguments read behind the call as before. Conditions: none but the row's own (each argument within the reach).
-/
import Derived.Test.YtfpebmnmiplooaaRows
import Derived.Test.YtfpebmnmiplooaaWords
import Derived.WalkKit
import Derived.ProofKit
import Derived.OpenShut
import Derived.ShutString
import Derived.ChangeOld
import Derived.Below
import Derived.SizedLaws
import Derived.Lib.Hide
import Derived.Test.YtfpebmnmiplooaaPackR
import Derived.Test.YtfpebmnmiplooaaSame
namespace Go.Proofs.Ytfpebmnmiplooaa.packBack
open Go.ChangeShapes Go.WideShapes Go.ChangeAt Go.RowKit Go.IntWalk Go.Proofs.Ytfpebmnmiplooaa.Wd
open Go.ChangeMaps (open_string shut_string)
set_option linter.unusedVariables false

theorem own : ownKnob Try.prog.godebug = none := by kernel_rfl
theorem laidOut : laidOutB Try.prog = true := by kernel_rfl
open Go.Proofs.Ytfpebmnmiplooaa.Pk

theorem walk (a0 : Int) (A1 : Option Addr) (c1 : Nat) (z1 : List Int) (s2 : ByteArray) (w : World) (l0 : -9223372036854775808 ≤ a0) (h0 : a0 ≤ 9223372036854775807) (v1 : IntsAt w w.heap.size A1 z1) (r1 : z1.length ≤ 17592186043904) (r2 : s2.size ≤ 140737488351232) :
    Calls Try.prog 4 #[.int .i64 a0, .slice A1 z1.length c1, .string s2] w fun e w' => e = .returned (.bool true) ∧ Below w.heap.size w w' := by
  have hcase : (200 < z1.length ∨ (z1.length ≤ 200 ∧ ¬ (z1.all (fun z => decide (0 ≤ z)) = true))) ∨ (z1.length ≤ 200 ∧ ∀ z ∈ z1, 0 ≤ z) := by
    by_cases h : 200 < z1.length
    · exact .inl (.inl h)
    · by_cases h' : z1.all (fun z => decide (0 ≤ z)) = true
      · exact .inr ⟨by omega, fun z hz => by simpa using List.all_eq_true.1 h' z hz⟩
      · exact .inl (.inr ⟨by omega, h'⟩)
  by_cases ha : a0 < 0
  · go_enter Try.func4, Try.ntmps4
    go_wp2_with fail
    refine (num_neg a0 _ ha).mono ?_
    rintro e w1 ⟨rfl, rfl⟩
    have HB2 := Lib.hid (Below.refl w.heap.size w)
    go_wp2_with fail
    rcases hcase with h200 | ⟨hle, hall⟩
    · -- List refuses: the loop finds why
      have herr : ∃ e9, lstOut z1 = ([], e9 + 1) := by
        unfold lstOut
        rcases h200 with h | ⟨h, h'⟩
        · exact ⟨3, by rw [if_pos h]⟩
        · exact ⟨0, by rw [if_neg (by omega), if_neg h']⟩
      obtain ⟨e9, he9⟩ := herr
      refine (list_bad A1 c1 z1 _ (v1.below HB2.out |>.more (HB2.out).size) (by omega) e9 he9).mono ?_
      rintro e w3 ⟨rfl, hb3⟩
      have HB3 := Lib.hid ((HB2.out).trans (hb3.mono (HB2.out).size))
      have HL := Lib.hid h200
      have HV := Lib.hid (v1.below HB3.out)
      clear he9 hb3 h200 v1
      go_wp2
      go_loop [13, 14] (fun lo i => ∃ (k : Nat) (b : Bool), k ≤ z1.length ∧ i = .int .i64 k ∧ lo = .bool b ∧ Hid (b = (decide (200 < z1.length) || (z1.take k).any (fun z => decide (z < 0))))) (fun _ i => z1.length - (intOf i).toNat)
      case atStart =>
        exact ⟨0, _, by omega, rfl, rfl, by simp [Hid]; omega⟩
      case round =>
        obtain ⟨k, b, hk, rfl, rfl, HE⟩ := hrel
        by_cases hlt : k < z1.length
        · obtain ⟨ad, rfl, hadb, hcell, hs1, hs2⟩ := HV.out.at_ k hlt
          have HN : Hid ((b || decide (z1[k] < 0)) = (decide (200 < z1.length) || (z1.take (k + 1)).any (fun z => decide (z < 0)))) := by
            unfold Hid; rw [HE.out, ← List.take_append_getElem hlt, List.any_append, Bool.or_assoc]; simp
          generalize z1[k] = z at *
          cases b
          · by_cases hz : z < 0
            · have HN2 : Hid (true = (decide (200 < z1.length) || (z1.take (k + 1)).any (fun z => decide (z < 0)))) := by
                rw [← HN.out]; simp [Hid, hz]
              go_wp2
              go_round
              case rel => exact ⟨k + 1, true, by omega, by go_num, rfl, HN2⟩
              case measure => simp [intOf]; omega
            · have HN2 : Hid (false = (decide (200 < z1.length) || (z1.take (k + 1)).any (fun z => decide (z < 0)))) := by
                rw [← HN.out]; simp [Hid, hz]
              go_wp2
              go_round
              case rel => exact ⟨k + 1, false, by omega, by go_num, rfl, HN2⟩
              case measure => simp [intOf]; omega
          · have HN2 : Hid (true = (decide (200 < z1.length) || (z1.take (k + 1)).any (fun z => decide (z < 0)))) := by
              rw [← HN.out]; simp [Hid]
            go_wp2
            go_round
            case rel => exact ⟨k + 1, true, by omega, by go_num, rfl, HN2⟩
            case measure => simp [intOf]; omega
        · have hb : b = true := by
            rw [HE.out, List.take_of_length_le (by omega)]
            rcases HL.out with h | ⟨_, h⟩
            · simp [h]
            · rw [Bool.or_eq_true]; right
              rw [Bool.not_eq_true, List.all_eq_false] at h
              obtain ⟨z, hz, hn⟩ := h
              rw [List.any_eq_true]
              exact ⟨z, hz, by simpa using hn⟩
          subst hb
          go_wp2
          go_ret
          exact ⟨rfl, HB3.out⟩
    · have hzl : z1 = (z1.map Int.toNat).map Int.ofNat := by
        rw [List.map_map]
        conv => lhs; rw [← List.map_id z1]
        apply List.map_congr_left
        intro z hz
        have := hall z hz
        show z = ((z.toNat : Nat) : Int)
        omega
      obtain ⟨l, HLL⟩ : ∃ l, Hid (l = z1.map Int.toNat) := ⟨_, rfl⟩
      have hz1 : z1 = l.map Int.ofNat := by rw [HLL.out]; exact hzl
      have hll : l.length ≤ 200 := by rw [HLL.out, List.length_map]; exact hle
      have hlen : l.length = z1.length := by rw [HLL.out, List.length_map]
      have hbig : ∀ n ∈ l, n < 9223372036854775808 := by
        rw [HLL.out]; intro n hn
        obtain ⟨z, hz, rfl⟩ := List.mem_map.1 hn
        have := v1.2 z hz
        unfold Small at this
        omega
      refine (list_nat A1 c1 l z1 _ hz1 (v1.below HB2.out |>.more (HB2.out).size) hll).mono ?_
      rintro e w3 ⟨rfl, hb3⟩
      have HB3 := Lib.hid ((HB2.out).trans (hb3.mono (HB2.out).size))
      have hsz := str_size (lst l)
      have hln := lst_len l
      have hrd : rdList (str (lst l) ++ s2).data.toList = (l, (lst l).length, 0) := by
        rw [ByteArray.data_append, Array.toList_append, str_data]; exact rdList_lst l _ hll hbig
      have hcs : (str (lst l) ++ s2).size = (str (lst l)).size + s2.size := ByteArray.size_append
      have hrl := fun W => readList_ok (str (lst l) ++ s2) W (by omega) l _ hrd
      rw [← hsz] at hrl hln
      have HR := Lib.hid hrl
      have HH := Lib.hid hz1
      have HN := Lib.hid hlen
      have hx1 : (str (lst l)).size ≤ 2000 := by omega
      have hx2 : z1.length < (str (lst l)).size := by omega
      have HV := Lib.hid v1
      generalize str (lst l) = Y at *
      clear hrd hrl hsz hln hz1 hb3 hlen hzl hbig hall hcs v1
      go_wp2_with fail
      refine (HR.out _).mono ?_
      rintro e w4 ⟨A, cap, zs, rfl, HZ, hA, hb4⟩
      have HB4 := Lib.hid (HB3.out.trans (hb4.mono HB3.out.size))
      obtain rfl : zs = z1 := by rw [HZ.out, HH.out]
      have HI := Lib.hid (ints_any A A1 cap c1 zs zs w4 hA (HV.out.below HB4.out |>.more HB4.out.size) (by omega) (by omega))
      clear hb4 hA
      go_wp2_with fail
      refine HI.out.mono ?_
      rintro e w5 ⟨he5, n5, rfl⟩
      have he6 : e = .returned (.bool true) := by rw [he5.out]; simp
      subst he6
      clear HI
      go_wp2
      go_ret
      exact ⟨rfl, HB4.out.trans (below_drewN (Below.refl _ _) _)⟩
  · obtain ⟨n, rfl⟩ := Int.eq_ofNat_of_zero_le (show 0 ≤ a0 by omega)
    have hn : n < 9223372036854775808 := by omega
    have hnl := num_len n
    have hsz := str_size (num n)
    have hcs : (str (num n) ++ s2).size = (str (num n)).size + s2.size := ByteArray.size_append
    have hrd : rd (str (num n) ++ s2).data.toList = (n, (num n).length, 0) := by
      rw [ByteArray.data_append, Array.toList_append, str_data]; exact rd_num n _ hn
    have hrl := fun W => readNum_ok (str (num n) ++ s2) W (by unfold maxLen; omega) n _ hrd
    have hc := fun W => num_ok n W hn
    rw [← hsz] at hrl hnl
    have HR0 := Lib.hid hrl
    have HC := Lib.hid hc
    generalize str (num n) = X at *
    obtain ⟨hx8, hx9⟩ := hnl
    clear hrd hrl hc hsz hcs ha
    have HK := Lib.hid hcase
    have HV1 := Lib.hid v1
    clear hcase v1
    go_enter Try.func4, Try.ntmps4
    go_wp2_with fail
    refine (HC.out _).mono ?_
    rintro e w1 ⟨rfl, hb1⟩
    have HB2 := Lib.hid hb1
    clear hb1
    go_wp2_with fail
    refine (HR0.out _).mono ?_
    rintro e w2 ⟨rfl, rfl⟩
    have hcase := HK.out
    have v1 := HV1.out
    go_wp2_with fail
    rcases hcase with h200 | ⟨hle, hall⟩
    · -- List refuses: the loop finds why
      have herr : ∃ e9, lstOut z1 = ([], e9 + 1) := by
        unfold lstOut
        rcases h200 with h | ⟨h, h'⟩
        · exact ⟨3, by rw [if_pos h]⟩
        · exact ⟨0, by rw [if_neg (by omega), if_neg h']⟩
      obtain ⟨e9, he9⟩ := herr
      refine (list_bad A1 c1 z1 _ (v1.below HB2.out |>.more (HB2.out).size) (by omega) e9 he9).mono ?_
      rintro e w3 ⟨rfl, hb3⟩
      have HB3 := Lib.hid ((HB2.out).trans (hb3.mono (HB2.out).size))
      have HL := Lib.hid h200
      have HV := Lib.hid (v1.below HB3.out)
      clear he9 hb3 h200 v1
      go_wp2
      go_loop [13, 14] (fun lo i => ∃ (k : Nat) (b : Bool), k ≤ z1.length ∧ i = .int .i64 k ∧ lo = .bool b ∧ Hid (b = (decide (200 < z1.length) || (z1.take k).any (fun z => decide (z < 0))))) (fun _ i => z1.length - (intOf i).toNat)
      case atStart =>
        exact ⟨0, _, by omega, rfl, rfl, by simp [Hid]; omega⟩
      case round =>
        obtain ⟨k, b, hk, rfl, rfl, HE⟩ := hrel
        by_cases hlt : k < z1.length
        · obtain ⟨ad, rfl, hadb, hcell, hs1, hs2⟩ := HV.out.at_ k hlt
          have HN : Hid ((b || decide (z1[k] < 0)) = (decide (200 < z1.length) || (z1.take (k + 1)).any (fun z => decide (z < 0)))) := by
            unfold Hid; rw [HE.out, ← List.take_append_getElem hlt, List.any_append, Bool.or_assoc]; simp
          generalize z1[k] = z at *
          cases b
          · by_cases hz : z < 0
            · have HN2 : Hid (true = (decide (200 < z1.length) || (z1.take (k + 1)).any (fun z => decide (z < 0)))) := by
                rw [← HN.out]; simp [Hid, hz]
              go_wp2
              go_round
              case rel => exact ⟨k + 1, true, by omega, by go_num, rfl, HN2⟩
              case measure => simp [intOf]; omega
            · have HN2 : Hid (false = (decide (200 < z1.length) || (z1.take (k + 1)).any (fun z => decide (z < 0)))) := by
                rw [← HN.out]; simp [Hid, hz]
              go_wp2
              go_round
              case rel => exact ⟨k + 1, false, by omega, by go_num, rfl, HN2⟩
              case measure => simp [intOf]; omega
          · have HN2 : Hid (true = (decide (200 < z1.length) || (z1.take (k + 1)).any (fun z => decide (z < 0)))) := by
              rw [← HN.out]; simp [Hid]
            go_wp2
            go_round
            case rel => exact ⟨k + 1, true, by omega, by go_num, rfl, HN2⟩
            case measure => simp [intOf]; omega
        · have hb : b = true := by
            rw [HE.out, List.take_of_length_le (by omega)]
            rcases HL.out with h | ⟨_, h⟩
            · simp [h]
            · rw [Bool.or_eq_true]; right
              rw [Bool.not_eq_true, List.all_eq_false] at h
              obtain ⟨z, hz, hn⟩ := h
              rw [List.any_eq_true]
              exact ⟨z, hz, by simpa using hn⟩
          subst hb
          go_wp2
          go_ret
          exact ⟨rfl, HB3.out⟩
    · have hzl : z1 = (z1.map Int.toNat).map Int.ofNat := by
        rw [List.map_map]
        conv => lhs; rw [← List.map_id z1]
        apply List.map_congr_left
        intro z hz
        have := hall z hz
        show z = ((z.toNat : Nat) : Int)
        omega
      obtain ⟨l, HLL⟩ : ∃ l, Hid (l = z1.map Int.toNat) := ⟨_, rfl⟩
      have hz1 : z1 = l.map Int.ofNat := by rw [HLL.out]; exact hzl
      have hll : l.length ≤ 200 := by rw [HLL.out, List.length_map]; exact hle
      have hlen : l.length = z1.length := by rw [HLL.out, List.length_map]
      have hbig : ∀ n ∈ l, n < 9223372036854775808 := by
        rw [HLL.out]; intro n hn
        obtain ⟨z, hz, rfl⟩ := List.mem_map.1 hn
        have := v1.2 z hz
        unfold Small at this
        omega
      refine (list_nat A1 c1 l z1 _ hz1 (v1.below HB2.out |>.more (HB2.out).size) hll).mono ?_
      rintro e w3 ⟨rfl, hb3⟩
      have HB3 := Lib.hid ((HB2.out).trans (hb3.mono (HB2.out).size))
      have hsz := str_size (lst l)
      have hln := lst_len l
      have hrd : rdList (str (lst l) ++ s2).data.toList = (l, (lst l).length, 0) := by
        rw [ByteArray.data_append, Array.toList_append, str_data]; exact rdList_lst l _ hll hbig
      have hcs : (str (lst l) ++ s2).size = (str (lst l)).size + s2.size := ByteArray.size_append
      have hrl := fun W => readList_ok (str (lst l) ++ s2) W (by omega) l _ hrd
      rw [← hsz] at hrl hln
      have HR := Lib.hid hrl
      have HH := Lib.hid hz1
      have HN := Lib.hid hlen
      have hx1 : (str (lst l)).size ≤ 2000 := by omega
      have hx2 : z1.length < (str (lst l)).size := by omega
      have HV := Lib.hid v1
      generalize str (lst l) = Y at *
      clear hrd hrl hsz hln hz1 hb3 hlen hzl hbig hall hcs v1
      go_wp2_with fail
      refine (HR.out _).mono ?_
      rintro e w4 ⟨A, cap, zs, rfl, HZ, hA, hb4⟩
      have HB4 := Lib.hid (HB3.out.trans (hb4.mono HB3.out.size))
      obtain rfl : zs = z1 := by rw [HZ.out, HH.out]
      have HI := Lib.hid (ints_any A A1 cap c1 zs zs w4 hA (HV.out.below HB4.out |>.more HB4.out.size) (by omega) (by omega))
      clear hb4 hA
      go_wp2_with fail
      refine HI.out.mono ?_
      rintro e w5 ⟨he5, n5, rfl⟩
      have he6 : e = .returned (.bool true) := by rw [he5.out]; simp
      subst he6
      clear HI
      go_wp2
      go_ret
      exact ⟨rfl, HB4.out.trans (below_drewN (Below.refl _ _) _)⟩


set_option maxRecDepth 100000 in
theorem lifted (os : Os) (started : os.Started) (H : Type) (enc : TypeId × Value → H) :
    ReturnsInHanded {} Try.checked os 4 .any (Rows.packBackSpec.pre6 enc Try.prog Try.f4 Rows.packBackRow.domain false) (Rows.packBackSpec.post enc Try.prog Try.f4 false true false false) := by
  refine returnsInHanded_of_change_sized (C := Try.checked) own started (by kernel_rfl) Try.func4
    (ChangeSpec.witness6 (enc := enc) (C := Try.checked) false ⟨#[], #[.int .i64 0, .slice none 0 0, .string ByteArray.empty], []⟩ 8 (by kernel_rfl) (by kernel_rfl) (by kernel_rfl) (by kernel_rfl)) ?_
  intro W base args ds gs before hval0 hW hcnd hsz0 _
  have hval : ∀ (j : Nat) t v, Try.f4.params[j]? = some t → args[j]? = some v → Value.okWide Try.prog W .any base t v := hval0
  have hsz : (DataW.weightsEach Try.prog (Try.f4.params.toList ++ Rows.packBackSpec.plain.varTypes Try.prog) (ds ++ gs)).all (· ≤ reachBytes) = true := hsz0
  have hW' := hW
  obtain ⟨p, q, hA0, hV0, rfl, hfz, hnd⟩ := hW
  have hV : DataW.TrodVars enc Try.prog W (fun _ => true) [] gs q := hV0
  have hA : DataW.TrodAll enc Try.prog W 0 (fun _ => true) true Try.f4.params.toList args.toList ds p := hA0
  rw [Try.params4] at hA hval hsz
  obtain ⟨v0, vs0, d0, ds0, p0, q0, hargs, rfl, rfl, h0, rr0⟩ := trodAll_cons hA
  obtain ⟨v1, vs1, d1, ds1, p1, q1, rfl, rfl, rfl, h1, rr1⟩ := trodAll_cons rr0
  obtain ⟨v2, vs2, d2, ds2, p2, q2, rfl, rfl, rfl, h2, rr2⟩ := trodAll_cons rr1
  obtain ⟨rfl, rfl, rfl⟩ := trodAll_nil rr2
  obtain rfl : args = #[v0, v1, v2] := by cases args; simp_all
  obtain ⟨rfl, rfl⟩ := trodVars_none hV
  have k0 := h0
  have lt0 : ∀ x ∈ p0, x.block < W.heap.size := by obtain ⟨m, hm⟩ := k0; exact DataW.trod_lt m _ _ _ hm
  have k1 := h1
  have lt1 : ∀ x ∈ p1, x.block < W.heap.size := by obtain ⟨m, hm⟩ := k1; exact DataW.trod_lt m _ _ _ hm
  have k2 := h2
  have lt2 : ∀ x ∈ p2, x.block < W.heap.size := by obtain ⟨m, hm⟩ := k2; exact DataW.trod_lt m _ _ _ hm
  obtain ⟨a0, rfl, rfl, rfl, w0⟩ := open_int Try.underlying3 (hval 0 3 v0 rfl rfl) h0
  obtain ⟨l0, hh0⟩ := bounds_i64 w0
  obtain ⟨A1, len1, c1, rfl⟩ := okWide_slice Try.underlying26 (hval 1 26 v1 rfl rfl)
  obtain ⟨z1, rfl, x1, r1⟩ : ∃ zs : List Int, len1 = zs.length ∧ IntsAt W W.heap.size A1 zs ∧ zs.length ≤ 17592186043904 := by
    obtain ⟨fuel, hf⟩ := h1
    rcases open_ints Try.underlying26 Try.underlying3 (by kernel_rfl) hf with ⟨hcs, _⟩ | ⟨x, l, c, zs, hcs, _, hl, hm, hz, hx, hcell, hwz⟩
    · simp [Value.cells] at hcs
      obtain ⟨rfl, rfl, rfl⟩ := hcs
      exact ⟨[], rfl, IntsAt.nil _ _ _, by simp⟩
    · simp [Value.cells] at hcs
      obtain ⟨rfl, rfl, rfl⟩ := hcs
      have hd := congrArg Prod.fst hx
      simp only at hd
      have := sized_slice hsz (j := 1) (t := 26) (e := 3) rfl (by rw [hd]; rfl) Try.underlying26
      rw [(show Try.prog.bytesOf 3 = 8 by kernel_rfl)] at this
      simp only [reachBytes, lits, List.length_map, List.length_take, List.length_drop] at this
      have hz' : zs.length = c1 := by simpa using hz
      exact ⟨zs.take len1, by rw [List.length_take]; omega, intsAt_of_open hcell hwz len1, by rw [List.length_take]; omega⟩
  obtain ⟨s2, rfl, rfl, rfl, w2⟩ := open_string Try.underlying9 (hval 2 9 v2 rfl rfl) h2
  have r2 : s2.size ≤ 140737488351232 := by
    have := sized_string hsz (j := 2) (t := 9) rfl rfl
    simp only [reachBytes] at this
    simpa using this
  clear hA0 hval0
  refine (walk a0 A1 c1 z1 s2 W l0 hh0 x1 r1 r2).mono fun e W' ⟨he, bel⟩ => ?_
  subst he
  exact ⟨_, rfl, _, _, _, [], _, [], hW', trodAll_mk1 (shut_bool Try.underlying4 _), (trodAll_cons_mk (Below.trod laidOut (by kernel_rfl) (of_decide_eq_true (by kernel_rfl)) k0 bel lt0) (trodAll_cons_mk (Below.trod laidOut (by kernel_rfl) (of_decide_eq_true (by kernel_rfl)) k1 bel lt1) (trodAll_cons_mk (Below.trod laidOut (by kernel_rfl) (of_decide_eq_true (by kernel_rfl)) k2 bel lt2) trodAll_mk0))), rfl, bel.frame _, fun h => by cases h⟩

theorem over : Rows.packBackRow.holds Try.pinned (OpenSpec.ofChange Rows.packBackSpec) :=
  OpenClaim.holds_of_wide 4 Try.f4 rfl rfl rfl rfl rfl rfl rfl ⟨rfl, rfl, rfl, rfl, rfl⟩ rfl rfl rfl rfl rfl (by kernel_rfl) Try.func4 (by kernel_rfl)
    (of_decide_eq_true (by kernel_rfl)) (by unfold Func.isWrapper; rw [if_neg (of_decide_eq_false (by kernel_rfl))]; exact ⟨rfl, rfl⟩)
    (fun os started H enc _ => lifted os started H enc)
theorem proved : Rows.PackBackSaid := over
#print axioms proved
end Go.Proofs.Ytfpebmnmiplooaa.packBack
