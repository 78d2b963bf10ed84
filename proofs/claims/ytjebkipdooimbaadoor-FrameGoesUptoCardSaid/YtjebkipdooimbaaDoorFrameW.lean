/- The walks of package frame's Write and Read. -/
import Derived.Test.YtjebkipdooimbaaDoorFrameM
import Derived.Test.YtjebkipdooimbaaDoorPackR
import Derived.Test.YtjebkipdooimbaaDoorSumW
import Derived.Test.YtjebkipdooimbaaDoorClone
import Derived.Test.YtjebkipdooimbaaDoorIs
namespace Go.Proofs.YtjebkipdooimbaaDoor.Fr
open Go.RowKit Go.IntWalk Go.PlainAid Go.Proofs.YtjebkipdooimbaaDoor.Wd Go.Proofs.YtjebkipdooimbaaDoor.Pk Go.Proofs.YtjebkipdooimbaaDoor.Sm

/-- What Write returns. -/
def wrOut (l : List UInt8) : List UInt8 × Nat := if 200 < l.length then ([], 4) else (frm l, 0)
theorem str_app (a b : List UInt8) : str a ++ str b = str (a ++ b) := by
  rw [← str_of (str a ++ str b), ByteArray.data_append, Array.toList_append, str_data, str_data]
theorem frm_bytes (s : ByteArray) : str (num s.size) ++ s ++ str (num (sm s.data.toList)) = str (frm s.data.toList) := by
  have h : s = str s.data.toList := (str_of s).symm
  rw [h, str_app, str_app, str_data]
  unfold frm
  rw [← h, data_len]
set_option maxRecDepth 100000 in
set_option maxHeartbeats 1000000 in
theorem write_any (s : ByteArray) (w : World) (hs : s.size ≤ maxLen) :
    Calls Tryd.prog 8 #[.string s] w fun e w' => Hid (e = strOut (wrOut s.data.toList)) ∧ Below w.heap.size w w' := by
  by_cases h200 : 200 < s.size
  · have HF : Hid (wrOut s.data.toList = ([], 4)) := by unfold Hid wrOut; rw [data_len, if_pos h200]
    unfold maxLen at hs
    go_enter Tryd.func8, Tryd.ntmps8
    go_wp2
    go_ret2
    exact ⟨by rw [HF.out]; rfl, Below.refl _ _⟩
  · have HF : Hid (wrOut s.data.toList = (frm s.data.toList, 0)) := by unfold Hid wrOut; rw [data_len, if_neg h200]
    have HB := Lib.hid (frm_bytes s)
    have HO := Lib.hid (fun W => of_ok s W hs)
    have hsm := sm_lt s.data.toList
    have HN := Lib.hid (fun W => num_ok s.size W (by omega))
    have HM := Lib.hid (fun W => num_ok (sm s.data.toList) W (by omega))
    have l1 := num_len s.size
    have l2 := num_len (sm s.data.toList)
    rw [← str_size] at l1 l2
    clear hs
    generalize str (num s.size) = X at *
    generalize str (num (sm s.data.toList)) = Y at *
    generalize sm s.data.toList = m at *
    go_enter Tryd.func8, Tryd.ntmps8
    go_wp2_with fail
    refine (HN.out _).mono ?_
    rintro e w1 ⟨rfl, hb1⟩
    have HB1 := Lib.hid hb1
    clear hb1 HN
    go_wp2_with fail
    refine (HO.out _).mono ?_
    rintro e w2 ⟨rfl, rfl⟩
    clear HO
    go_wp2_with fail
    refine (HM.out _).mono ?_
    rintro e w2 ⟨rfl, hb2⟩
    have HB2 := Lib.hid hb2
    clear hb2 HM
    go_wp2
    go_ret2
    exact ⟨by rw [HF.out, HB.out]; rfl, HB1.out.trans (HB2.out.mono HB1.out.size)⟩

/-- What Read returns. -/
def rfOut (x : List UInt8 × Nat × Nat) : Ending := .returned (.tuple #[.string (str x.1), .int .i64 (x.2.1 : Int), errV x.2.2])
set_option maxRecDepth 100000 in
set_option maxHeartbeats 1000000 in
theorem read_any (s : ByteArray) (w : World) (hs : s.size ≤ maxLen) :
    Calls Tryd.prog 11 #[.string s] w fun e w' => Hid (e = rfOut (rf s.data.toList)) ∧ Below w.heap.size w w' := by
  rcases hx : rd s.data.toList with ⟨n, u, _ | e0⟩
  · have ho := rd_ok hx
    rw [data_len] at ho
    have HR := Lib.hid (fun W => readNum_ok s W hs n u hx)
    have hF := rf_head hx
    rw [data_len] at hF
    obtain ⟨ho1, ho2, ho3, ho4⟩ := ho
    unfold maxLen at hs
    by_cases h200 : 200 < n
    · rw [if_pos h200] at hF
      have HF := Lib.hid hF
      clear hF hx
      go_enter Tryd.func11, Tryd.ntmps11
      go_wp2_with fail
      refine (HR.out _).mono ?_
      rintro e w1 ⟨rfl, rfl⟩
      clear HR
      go_wp2
      go_ret3
      exact ⟨by rw [HF.out]; rfl, Below.refl _ _⟩
    · rw [if_neg h200] at hF
      by_cases hsh : s.size < u + n
      · rw [if_pos hsh] at hF
        have HF := Lib.hid hF
        clear hF hx
        go_enter Tryd.func11, Tryd.ntmps11
        go_wp2_with fail
        refine (HR.out _).mono ?_
        rintro e w1 ⟨rfl, rfl⟩
        clear HR
        go_wp2
        go_ret3
        exact ⟨by rw [HF.out]; rfl, Below.refl _ _⟩
      · rw [if_neg hsh] at hF
        have hz : (s.extract (u + n) s.size).size ≤ maxLen := by
          rw [← data_len, ext_back, List.length_drop, data_len]; unfold maxLen; omega
        have hz2 : (s.extract u (u + n)).data.toList.length = n := by
          rw [ext_mid, List.length_take, List.length_drop, data_len]; omega
        rw [data_len] at hz2
        rcases hy : rd (s.data.toList.drop (u + n)) with ⟨c, v, _ | e0⟩
        · have hq := rd_ok hy
          rw [List.length_drop, data_len] at hq
          have HR2 := Lib.hid (fun W => readNum_ok (s.extract (u + n) s.size) W hz c v (by rw [ext_back]; exact hy))
          rw [rfT_ok hy] at hF
          have HO := Lib.hid (fun W => of_ok (s.extract u (u + n)) W (by unfold maxLen; omega))
          have HC := Lib.hid (fun W => clone_ok (s.extract u (u + n)) W (by omega))
          have hem : (s.extract u (u + n)).data.toList = (s.data.toList.drop u).take n := by rw [ext_mid, Nat.add_sub_cancel_left]
          have hsm := sm_lt (s.extract u (u + n)).data.toList
          rw [← hem] at hF
          have t1 : ((u : Int) + (n : Int)).toNat = u + n := by omega
          have hsl : ∀ W : World, (Instr.slice 9 (.string s) (some (.int .i64 (u : Int))) (some (.int .i64 ((u : Int) + (n : Int)))) none).run Tryd.prog W = .ok (.string (s.extract u (u + n))) W := fun W => by
            have h := run_slice_string (P := Tryd.prog) W 9 s .i64 .i64 (u : Int) ((u : Int) + (n : Int)) Tryd.underlying9 (by omega) (by omega) (by omega)
            rw [t1] at h
            simpa using h
          obtain ⟨q1, q2, q3, q4⟩ := hq
          have HS := Lib.hid (str_of (s.extract u (u + n)))
          clear hx hy hem hz
          by_cases hcm : c = sm (s.extract u (u + n)).data.toList
          · rw [if_pos hcm] at hF
            rw [← hcm] at HO
            have HFF := Lib.hid hF
            clear hF hcm hsm
            have hne : ((c : Int) != (c : Int)) = false := by simp
            go_enter Tryd.func11, Tryd.ntmps11
            go_wp2_with fail
            refine (HR.out _).mono ?_
            rintro e w1 ⟨rfl, rfl⟩
            clear HR
            go_wp2_with fail
            refine (HR2.out _).mono ?_
            rintro e w1 ⟨rfl, rfl⟩
            clear HR2
            go_wp2_with fail
            refine (HO.out _).mono ?_
            rintro e w1 ⟨rfl, rfl⟩
            clear HO
            go_wp2_with fail
            refine (HC.out _).mono ?_
            rintro e w1 ⟨rfl, hb⟩
            have HB := Lib.hid hb
            clear HC hb
            go_wp2
            go_ret3
            refine ⟨?_, HB.out⟩
            unfold Hid rfOut
            rw [HFF.out, HS.out]
            simp [errV]
          · rw [if_neg hcm] at hF
            have HFF := Lib.hid hF
            clear hF
            generalize sm (s.extract u (u + n)).data.toList = m at *
            have hne : ((c : Int) != (m : Int)) = true := by simp; omega
            go_enter Tryd.func11, Tryd.ntmps11
            go_wp2_with fail
            refine (HR.out _).mono ?_
            rintro e w1 ⟨rfl, rfl⟩
            clear HR
            go_wp2_with fail
            refine (HR2.out _).mono ?_
            rintro e w1 ⟨rfl, rfl⟩
            clear HR2
            go_wp2_with fail
            refine (HO.out _).mono ?_
            rintro e w1 ⟨rfl, rfl⟩
            clear HO
            go_wp2
            go_ret3
            refine ⟨?_, Below.refl _ _⟩
            unfold Hid rfOut
            rw [HFF.out]
            rfl
        · have hq := rd_bad hy (by omega)
          rw [hq.1, hq.2.1] at hy
          rw [rfT_bad hy] at hF
          have HR2 := Lib.hid (fun W => readNum_bad (s.extract (u + n) s.size) W hz e0 (by rw [ext_back]; exact hy))
          have t1 : ((u : Int) + (n : Int)).toNat = u + n := by omega
          have HFF := Lib.hid hF
          clear hF hx hy hz hq
          go_enter Tryd.func11, Tryd.ntmps11
          go_wp2_with fail
          refine (HR.out _).mono ?_
          rintro e w1 ⟨rfl, rfl⟩
          clear HR
          go_wp2_with fail
          refine (HR2.out _).mono ?_
          rintro e w1 ⟨rfl, rfl⟩
          clear HR2
          go_wp2
          go_ret3
          refine ⟨?_, Below.refl _ _⟩
          unfold Hid rfOut
          rw [HFF.out]
          rfl
  · have hq := rd_bad hx (by omega)
    rw [hq.1, hq.2.1] at hx
    have HR := Lib.hid (fun W => readNum_bad s W hs e0 hx)
    have HF := Lib.hid (rf_headBad hx)
    clear hx hq
    unfold maxLen at hs
    go_enter Tryd.func11, Tryd.ntmps11
    go_wp2_with fail
    refine (HR.out _).mono ?_
    rintro e w1 ⟨rfl, rfl⟩
    clear HR
    go_wp2
    go_ret3
    exact ⟨by rw [HF.out]; rfl, Below.refl _ _⟩

/-! ### by the ways they end -/
theorem write_ok (s : ByteArray) (w : World) (hs : s.size ≤ 200) :
    Calls Tryd.prog 8 #[.string s] w fun e w' => e = .returned (.tuple #[.string (str (frm s.data.toList)), .nilIface]) ∧ Below w.heap.size w w' :=
  (write_any s w (by unfold maxLen; omega)).mono fun e w' ⟨he, hb⟩ => ⟨by rw [he.out]; unfold wrOut; rw [data_len, if_neg (by omega)]; rfl, hb⟩
theorem write_full (s : ByteArray) (w : World) (hs : 200 < s.size) (hm : s.size ≤ maxLen) :
    Calls Tryd.prog 8 #[.string s] w fun e w' => e = .returned (.tuple #[.string (str []), .iface 48 (.int .i64 4)]) ∧ Below w.heap.size w w' :=
  (write_any s w hm).mono fun e w' ⟨he, hb⟩ => ⟨by rw [he.out]; unfold wrOut; rw [data_len, if_pos hs]; rfl, hb⟩
theorem read_ok (s : ByteArray) (w : World) (hs : s.size ≤ maxLen) (b : List UInt8) (u : Nat) (h : rf s.data.toList = (b, u, 0)) :
    Calls Tryd.prog 11 #[.string s] w fun e w' => e = .returned (.tuple #[.string (str b), .int .i64 (u : Int), .nilIface]) ∧ Below w.heap.size w w' :=
  (read_any s w hs).mono fun e w' ⟨he, hb⟩ => ⟨by rw [he.out, h]; rfl, hb⟩
theorem read_bad (s : ByteArray) (w : World) (hs : s.size ≤ maxLen) (e0 : Nat) (h : rf s.data.toList = ([], 0, e0 + 1)) :
    Calls Tryd.prog 11 #[.string s] w fun e w' => e = .returned (.tuple #[.string (str []), .int .i64 0, .iface 48 (.int .i64 ((e0 + 1 : Nat) : Int))]) ∧ Below w.heap.size w w' :=
  (read_any s w hs).mono fun e w' ⟨he, hb⟩ => ⟨by rw [he.out, h]; rfl, hb⟩
end Go.Proofs.YtjebkipdooimbaaDoor.Fr
