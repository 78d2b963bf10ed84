/- The walks of the document's answer for package frame: stilewardref1's Frame, ReadFrame and Scan return what the program's do. -/
import Derived.Test.YtjebkipdooimbaaDoorScan
import Derived.Test.YtjebkipdooimbaaDoorRefPack
import Derived.Test.YtjebkipdooimbaaDoorRefSum
import Derived.Deep.RegionWith
namespace Go.Proofs.YtjebkipdooimbaaDoor.Fr
open Go.RowKit Go.IntWalk Go.PlainAid Go.Proofs.YtjebkipdooimbaaDoor.Wd Go.Proofs.YtjebkipdooimbaaDoor.Pk Go.Proofs.YtjebkipdooimbaaDoor.Sm

theorem refNum_ok (n : Nat) (w : World) (hn : n < 9223372036854775808) :
    Calls Tryd.prog 20 #[.int .i64 (n : Int)] w fun e w' => e = .returned (.string (str (num n))) ∧ Below w.heap.size w w' :=
  (refNum_any n w hn).mono fun _ _ ⟨he, hb⟩ => ⟨he.out, hb⟩
set_option maxRecDepth 100000 in
set_option maxHeartbeats 1000000 in
theorem refFrame_any (s : ByteArray) (w : World) (hs : s.size ≤ maxLen) :
    Calls Tryd.prog 9 #[.string s] w fun e w' => Hid (e = strOutR (wrOut s.data.toList)) ∧ Below w.heap.size w w' := by
  by_cases h200 : 200 < s.size
  · have HF : Hid (wrOut s.data.toList = ([], 4)) := by unfold Hid wrOut; rw [data_len, if_pos h200]
    unfold maxLen at hs
    go_enter Tryd.func9, Tryd.ntmps9
    go_wp2
    go_ret2
    exact ⟨by rw [HF.out]; rfl, Below.refl _ _⟩
  · have HF : Hid (wrOut s.data.toList = (frm s.data.toList, 0)) := by unfold Hid wrOut; rw [data_len, if_neg h200]
    have HB := Lib.hid (frm_bytes s)
    have HO := Lib.hid (fun W => refSum_ok s W hs)
    have hsm := sm_lt s.data.toList
    have HN := Lib.hid (fun W => refNum_ok s.size W (by omega))
    have HM := Lib.hid (fun W => refNum_ok (sm s.data.toList) W (by omega))
    have l1 := num_len s.size
    have l2 := num_len (sm s.data.toList)
    rw [← str_size] at l1 l2
    clear hs
    generalize str (num s.size) = X at *
    generalize str (num (sm s.data.toList)) = Y at *
    generalize sm s.data.toList = m at *
    go_enter Tryd.func9, Tryd.ntmps9
    go_wp2_with fail
    refine (HN.out _).mono ?_
    rintro e w1 ⟨rfl, hb1⟩
    have HB1 := Lib.hid hb1
    clear hb1 HN
    go_wp2_with fail
    refine (HO.out _).mono ?_
    rintro e w2 ⟨rfl, rfl⟩
    clear HO
    go_wp2_with fail
    refine (HM.out _).mono ?_
    rintro e w2 ⟨rfl, hb2⟩
    have HB2 := Lib.hid hb2
    clear hb2 HM
    go_wp2
    go_ret2
    exact ⟨by rw [HF.out, HB.out]; rfl, HB1.out.trans (HB2.out.mono HB1.out.size)⟩

/-- What ReadFrame returns. -/
def rfOutR (x : List UInt8 × Nat × Nat) : Ending := .returned (.tuple #[.string (str x.1), .int .i64 (x.2.1 : Int), .int .i64 (x.2.2 : Int)])
set_option maxRecDepth 100000 in
set_option maxHeartbeats 1000000 in
theorem refRead_any (s : ByteArray) (w : World) (hs : s.size ≤ maxLen) :
    Calls Tryd.prog 12 #[.string s] w fun e w' => Hid (e = rfOutR (rf s.data.toList)) ∧ w = w' := by
  rcases hx : rd s.data.toList with ⟨n, u, _ | e0⟩
  · have ho := rd_ok hx
    rw [data_len] at ho
    have HR := Lib.hid (fun W => refReadNum_ok s W hs n u hx)
    have hF := rf_head hx
    rw [data_len] at hF
    obtain ⟨ho1, ho2, ho3, ho4⟩ := ho
    unfold maxLen at hs
    by_cases h200 : 200 < n
    · rw [if_pos h200] at hF
      have HF := Lib.hid hF
      clear hF hx
      go_enter Tryd.func12, Tryd.ntmps12
      go_wp2_with fail
      refine (HR.out _).mono ?_
      rintro e w1 ⟨rfl, rfl⟩
      clear HR
      go_wp2
      go_ret3
      exact ⟨by rw [HF.out]; rfl, rfl⟩
    · rw [if_neg h200] at hF
      by_cases hsh : s.size < u + n
      · rw [if_pos hsh] at hF
        have HF := Lib.hid hF
        clear hF hx
        go_enter Tryd.func12, Tryd.ntmps12
        go_wp2_with fail
        refine (HR.out _).mono ?_
        rintro e w1 ⟨rfl, rfl⟩
        clear HR
        go_wp2
        go_ret3
        exact ⟨by rw [HF.out]; rfl, rfl⟩
      · rw [if_neg hsh] at hF
        have hz : (s.extract (u + n) s.size).size ≤ maxLen := by
          rw [← data_len, ext_back, List.length_drop, data_len]; unfold maxLen; omega
        have hz2 : (s.extract u (u + n)).data.toList.length = n := by
          rw [ext_mid, List.length_take, List.length_drop, data_len]; omega
        rw [data_len] at hz2
        have t1 : ((u : Int) + (n : Int)).toNat = u + n := by omega
        rcases hy : rd (s.data.toList.drop (u + n)) with ⟨c, v, _ | e0⟩
        · have hq := rd_ok hy
          rw [List.length_drop, data_len] at hq
          have HR2 := Lib.hid (fun W => refReadNum_ok (s.extract (u + n) s.size) W hz c v (by rw [ext_back]; exact hy))
          rw [rfT_ok hy] at hF
          have HO := Lib.hid (fun W => refSum_ok (s.extract u (u + n)) W (by unfold maxLen; omega))
          have hem : (s.extract u (u + n)).data.toList = (s.data.toList.drop u).take n := by rw [ext_mid, Nat.add_sub_cancel_left]
          have hsm := sm_lt (s.extract u (u + n)).data.toList
          rw [← hem] at hF
          have hsl : ∀ W : World, (Instr.slice 9 (.string s) (some (.int .i64 (u : Int))) (some (.int .i64 ((u : Int) + (n : Int)))) none).run Tryd.prog W = .ok (.string (s.extract u (u + n))) W := fun W => by
            have h := run_slice_string (P := Tryd.prog) W 9 s .i64 .i64 (u : Int) ((u : Int) + (n : Int)) Tryd.underlying9 (by omega) (by omega) (by omega)
            rw [t1] at h
            simpa using h
          obtain ⟨q1, q2, q3, q4⟩ := hq
          have HS := Lib.hid (str_of (s.extract u (u + n)))
          clear hx hy hem hz
          by_cases hcm : c = sm (s.extract u (u + n)).data.toList
          · rw [if_pos hcm] at hF
            rw [← hcm] at HO
            have HFF := Lib.hid hF
            clear hF hcm hsm
            have hne : ((c : Int) != (c : Int)) = false := by simp
            go_enter Tryd.func12, Tryd.ntmps12
            go_wp2_with fail
            refine (HR.out _).mono ?_
            rintro e w1 ⟨rfl, rfl⟩
            clear HR
            go_wp2_with fail
            refine (HR2.out _).mono ?_
            rintro e w1 ⟨rfl, rfl⟩
            clear HR2
            go_wp2_with fail
            refine (HO.out _).mono ?_
            rintro e w1 ⟨rfl, rfl⟩
            clear HO
            go_wp2
            go_ret3
            refine ⟨?_, rfl⟩
            unfold Hid rfOutR
            rw [HFF.out, HS.out]
            simp
          · rw [if_neg hcm] at hF
            have HFF := Lib.hid hF
            clear hF
            generalize sm (s.extract u (u + n)).data.toList = m at *
            have hne : ((c : Int) != (m : Int)) = true := by simp; omega
            go_enter Tryd.func12, Tryd.ntmps12
            go_wp2_with fail
            refine (HR.out _).mono ?_
            rintro e w1 ⟨rfl, rfl⟩
            clear HR
            go_wp2_with fail
            refine (HR2.out _).mono ?_
            rintro e w1 ⟨rfl, rfl⟩
            clear HR2
            go_wp2_with fail
            refine (HO.out _).mono ?_
            rintro e w1 ⟨rfl, rfl⟩
            clear HO
            go_wp2
            go_ret3
            refine ⟨?_, rfl⟩
            unfold Hid rfOutR
            rw [HFF.out]
            rfl
        · have hq := rd_bad hy (by omega)
          rw [hq.1, hq.2.1] at hy
          rw [rfT_bad hy] at hF
          have HR2 := Lib.hid (fun W => refReadNum_bad (s.extract (u + n) s.size) W hz e0 (by rw [ext_back]; exact hy))
          have HFF := Lib.hid hF
          have he5 : ((e0 : Int) + 1 != 0) = true := by simp; omega
          have he6 : (e0 : Int) ≤ 5 := by omega
          clear hF hx hy hz hq
          go_enter Tryd.func12, Tryd.ntmps12
          go_wp2_with fail
          refine (HR.out _).mono ?_
          rintro e w1 ⟨rfl, rfl⟩
          clear HR
          go_wp2_with fail
          refine (HR2.out _).mono ?_
          rintro e w1 ⟨rfl, rfl⟩
          clear HR2
          go_wp2
          go_ret3
          refine ⟨?_, rfl⟩
          unfold Hid rfOutR
          rw [HFF.out]
          rfl
  · have hq := rd_bad hx (by omega)
    rw [hq.1, hq.2.1] at hx
    have HR := Lib.hid (fun W => refReadNum_bad s W hs e0 hx)
    have HF := Lib.hid (rf_headBad hx)
    have he5 : ((e0 : Int) + 1 != 0) = true := by simp; omega
    have he6 : (e0 : Int) ≤ 5 := by omega
    clear hx hq
    unfold maxLen at hs
    go_enter Tryd.func12, Tryd.ntmps12
    go_wp2_with fail
    refine (HR.out _).mono ?_
    rintro e w1 ⟨rfl, rfl⟩
    clear HR
    go_wp2
    go_ret3
    exact ⟨by rw [HF.out]; rfl, rfl⟩
theorem refRead_ok (s : ByteArray) (w : World) (hs : s.size ≤ maxLen) (b : List UInt8) (u : Nat) (h : rf s.data.toList = (b, u, 0)) :
    Calls Tryd.prog 12 #[.string s] w fun e w' => e = .returned (.tuple #[.string (str b), .int .i64 (u : Int), .int .i64 0]) ∧ w = w' :=
  (refRead_any s w hs).mono fun _ _ ⟨he, hb⟩ => ⟨by rw [he.out, h]; rfl, hb⟩
theorem refRead_bad (s : ByteArray) (w : World) (hs : s.size ≤ maxLen) (e0 : Nat) (h : rf s.data.toList = ([], 0, e0)) :
    Calls Tryd.prog 12 #[.string s] w fun e w' => e = .returned (.tuple #[.string (str []), .int .i64 0, .int .i64 (e0 : Int)]) ∧ w = w' :=
  (refRead_any s w hs).mono fun _ _ ⟨he, hb⟩ => ⟨by rw [he.out, h]; rfl, hb⟩

/-- What the answer's Scan leaves. -/
def ScanOutR (B : Nat) (w0 : World) (R : List (List UInt8) × Nat × Nat) (e : Ending) (w' : World) : Prop :=
  ∃ v', e = .returned (.tuple #[v', .int .i64 (R.2.1 : Int), .int .i64 (R.2.2 : Int)]) ∧ Txts B w0 R.1 v' w'
set_option maxRecDepth 100000 in
set_option maxHeartbeats 2000000 in
theorem refScan_any (s : ByteArray) (w : World) (hs : s.size ≤ maxLen) (hN : (scan s.data.toList).1.length ≤ 8796093022208) :
    Calls Tryd.prog 14 #[.string s] w fun e w' => Hid (ScanOutR w.heap.size w (scan s.data.toList) e w') := by
  have HM := Lib.hid hs
  have HN := Lib.hid hN
  unfold maxLen at hs
  clear hN
  obtain ⟨i0, hi, hz0, hz1, hz2⟩ := info_parts infoS
  go_enter Tryd.func14, Tryd.ntmps14
  go_wp2
  go_loopw [5, 6] (fun v u wr => ∃ (k : Nat) (acc : List (List UInt8)), k ≤ s.size ∧ u = .int .i64 k ∧ Hid (At s.data.toList k acc) ∧ Hid (Txts w.heap.size w acc v wr)) (fun _ u _ => s.size - (intOf u).toNat)
  case atStart => exact ⟨0, [], by omega, rfl, at_start _, txts_nil _⟩
  case round =>
    obtain ⟨k, acc, hk, rfl, HA, HT⟩ := hrel
    by_cases hlt : k < s.size
    · have hxm : (s.extract k s.size).size ≤ maxLen := by
        rw [← data_len, ext_back, List.length_drop, data_len]; unfold maxLen; omega
      rcases hx : rf (s.data.toList.drop k) with ⟨b, v, e0⟩
      rcases e0 with _ | e0
      · have HR := Lib.hid (fun W => refRead_ok (s.extract k s.size) W hxm b v (by rw [ext_back]; exact hx))
        have ho := rf_ok hx
        rw [List.length_drop, data_len] at ho
        obtain ⟨q1, q2, q3, q4⟩ := ho
        have HN2 := Lib.hid (at_next HA.out hx)
        have hml := at_more HA.out hx
        have hmr := HN.out
        clear hx hxm q2
        have hown := HT.out.1
        have hbase := HT.out.2.2
        have hbe : tx b = .string (str b) := rfl
        go_wp2_with fail
        refine (HR.out _).mono ?_
        rintro e w1 ⟨rfl, rfl⟩
        clear HR
        go_wp2_with (at_builtin; refine wpList_append_own _ rfl _ _ 34 rfl w.heap.size 9 i0 (.string ByteArray.empty) 1 16 Tryd.underlying34 hi hz0 hz1 hz2 rfl (by decide) _ _ _ rfl (hown.alloc _) ⟨wr.heap.size, 0, none⟩ 1 1 [tx b] rfl rfl ?c1 ?c2 ?c3 ?c4 ?c5 ?_)
        case c1 => exact one_text _ _ _ _ rfl
        case c2 => exact one_tx _
        case c3 => unfold maxLen; omega
        case c4 => omega
        case c5 => simp; omega
        intro v' w2 hown' hgrow _
        have HN3 : Hid (Txts w.heap.size w (acc ++ [b]) v' w2) := txts_more HT.out hown' hgrow
        clear hown' hgrow hown
        go_wp2
        go_roundw
        case rel => exact ⟨k + v, acc ++ [b], by omega, by go_num, HN2, HN3⟩
        case measure => simp [intOf]; omega
      · obtain ⟨rfl, rfl, hc⟩ := rf_bad hx (by omega)
        have HR := Lib.hid (fun W => refRead_bad (s.extract k s.size) W hxm (e0 + 1) (by rw [ext_back]; exact hx))
        by_cases h5 : e0 = 4
        · subst h5
          have HE := Lib.hid (at_stop HA.out hx)
          clear hx hxm hc
          go_wp2_with fail
          refine (HR.out _).mono ?_
          rintro e w1 ⟨rfl, rfl⟩
          clear HR
          go_wp2
          go_ret3
          unfold Hid ScanOutR
          rw [HE.out]
          exact ⟨_, rfl, HT.out⟩
        · have HE := Lib.hid (at_bad HA.out hx (by omega) (by omega))
          have h9 : e0 + 1 ≤ 7 := by omega
          have hq5 : (((e0 + 1 : Nat) : Int) == 5) = false := by simp; omega
          have hq0 : (((e0 + 1 : Nat) : Int) != 0) = true := by simp; omega
          clear hx hxm hc h5
          generalize e0 + 1 = e1 at *
          go_wp2_with fail
          refine (HR.out _).mono ?_
          rintro e w1 ⟨rfl, rfl⟩
          clear HR
          go_wp2
          go_ret3
          unfold Hid ScanOutR
          rw [HE.out]
          exact ⟨_, rfl, HT.out⟩
    · have HE := Lib.hid (at_end HA.out (by rw [data_len]; omega))
      go_wp2
      go_ret3
      unfold Hid ScanOutR
      rw [HE.out]
      exact ⟨_, rfl, HT.out⟩
theorem refScan_ok (s : ByteArray) (w : World) (hs : s.size ≤ maxLen) (l : List (List UInt8)) (u e : Nat) (h : scan s.data.toList = (l, u, e)) (hN : l.length ≤ 8796093022208) :
    Calls Tryd.prog 14 #[.string s] w fun r w' => ∃ (A : Option Addr) (cap : Nat), r = .returned (.tuple #[.slice A l.length cap, .int .i64 (u : Int), .int .i64 (e : Int)]) ∧ TextsAt w' w'.heap.size A l ∧ Below w.heap.size w w' :=
  (refScan_any s w hs (by rw [h]; exact hN)).mono fun r w' he => by
    obtain ⟨v, h1, h2⟩ := he.out
    rw [h] at h1 h2
    obtain ⟨A, cap, rfl, h3⟩ := txts_at h2
    exact ⟨A, cap, h1, h3, h2.2.1⟩
end Go.Proofs.YtjebkipdooimbaaDoor.Fr
