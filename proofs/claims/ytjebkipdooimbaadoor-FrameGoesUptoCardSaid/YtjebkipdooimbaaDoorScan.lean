/- The walk of frame.Scan. -/
import Derived.Test.YtjebkipdooimbaaDoorFrameW
import Derived.Test.YtjebkipdooimbaaDoorTexts
namespace Go.Proofs.YtjebkipdooimbaaDoor.Fr
open Go.RowKit Go.IntWalk Go.PlainAid Go.Proofs.YtjebkipdooimbaaDoor.Wd Go.Proofs.YtjebkipdooimbaaDoor.Pk Go.Proofs.YtjebkipdooimbaaDoor.Sm

/-- What Scan leaves. -/
def ScanOut (B : Nat) (w0 : World) (R : List (List UInt8) × Nat × Nat) (e : Ending) (w' : World) : Prop :=
  ∃ v', e = .returned (.tuple #[v', .int .i64 (R.2.1 : Int), errV R.2.2]) ∧ Txts B w0 R.1 v' w'
/-- The place in Scan's loop: k bytes are read, the bodies acc are there. -/
def At (s : List UInt8) (k : Nat) (acc : List (List UInt8)) : Prop :=
  scan s = (acc ++ (scan (s.drop k)).1, k + (scan (s.drop k)).2.1, (scan (s.drop k)).2.2)
theorem at_start (s : List UInt8) : At s 0 [] := by unfold At; simp
theorem at_next {s b : List UInt8} {k v : Nat} {acc : List (List UInt8)} (h : At s k acc) (hx : rf (s.drop k) = (b, v, 0)) : At s (k + v) (acc ++ [b]) := by
  unfold At at *
  rw [h, scan_more hx, List.drop_drop, List.append_assoc, Nat.add_assoc]
  rfl
theorem at_stop {s : List UInt8} {k : Nat} {acc : List (List UInt8)} (h : At s k acc) (hx : rf (s.drop k) = ([], 0, 5)) : scan s = (acc, k, 0) := by
  unfold At at h
  rw [h, scan_stop hx]; simp
theorem at_bad {s : List UInt8} {k e : Nat} {acc : List (List UInt8)} (h : At s k acc) (hx : rf (s.drop k) = ([], 0, e)) (h0 : e ≠ 0) (h5 : e ≠ 5) : scan s = (acc, k, e) := by
  unfold At at h
  rw [h, scan_bad hx h0 h5]; simp
theorem at_end {s : List UInt8} {k : Nat} {acc : List (List UInt8)} (h : At s k acc) (hk : s.length ≤ k) : scan s = (acc, k, 0) := by
  unfold At at h
  rw [h, List.drop_of_length_le hk, scan_nil]; simp
theorem at_len {s : List UInt8} {k : Nat} {acc : List (List UInt8)} (h : At s k acc) : acc.length ≤ (scan s).1.length := by
  unfold At at h
  rw [h]; simp
theorem at_more {s b : List UInt8} {k v : Nat} {acc : List (List UInt8)} (h : At s k acc) (hx : rf (s.drop k) = (b, v, 0)) : acc.length + 1 ≤ (scan s).1.length := by
  have := at_len (at_next h hx)
  simpa using this

set_option maxRecDepth 100000 in
set_option maxHeartbeats 2000000 in
theorem scan_any (s : ByteArray) (w : World) (hs : s.size ≤ maxLen) (hN : (scan s.data.toList).1.length ≤ 8796093022208) :
    Calls Tryd.prog 13 #[.string s] w fun e w' => Hid (ScanOut w.heap.size w (scan s.data.toList) e w') := by
  have HM := Lib.hid hs
  have HN := Lib.hid hN
  unfold maxLen at hs
  clear hN
  obtain ⟨i0, hi, hz0, hz1, hz2⟩ := info_parts infoS
  go_enter Tryd.func13, Tryd.ntmps13
  go_wp2
  go_loopw [5, 6] (fun v u wr => ∃ (k : Nat) (acc : List (List UInt8)), k ≤ s.size ∧ u = .int .i64 k ∧ Hid (At s.data.toList k acc) ∧ Hid (Txts w.heap.size w acc v wr)) (fun _ u _ => s.size - (intOf u).toNat)
  case atStart => exact ⟨0, [], by omega, rfl, at_start _, txts_nil _⟩
  case round =>
    obtain ⟨k, acc, hk, rfl, HA, HT⟩ := hrel
    by_cases hlt : k < s.size
    · have hxm : (s.extract k s.size).size ≤ maxLen := by
        rw [← data_len, ext_back, List.length_drop, data_len]; unfold maxLen; omega
      rcases hx : rf (s.data.toList.drop k) with ⟨b, v, e0⟩
      rcases e0 with _ | e0
      · have HR := Lib.hid (fun W => read_ok (s.extract k s.size) W hxm b v (by rw [ext_back]; exact hx))
        have ho := rf_ok hx
        rw [List.length_drop, data_len] at ho
        obtain ⟨q1, q2, q3, q4⟩ := ho
        have HN2 := Lib.hid (at_next HA.out hx)
        have hml := at_more HA.out hx
        have hmr := HN.out
        have hI := Lib.hid (fun W => Is.is_nil W)
        clear hx hxm q2
        go_wp2_with fail
        refine (HR.out _).mono ?_
        rintro e w1 ⟨rfl, hb1⟩
        have HB1 := Lib.hid hb1
        clear HR hb1
        go_wp2_with fail
        refine (hI.out _).mono ?_
        rintro e w2 ⟨rfl, rfl⟩
        clear hI
        have HT1 := Lib.hid (txts_on HT.out HB1.out)
        have hown := HT1.out.1
        have hbase := HT1.out.2.2
        have hbe : tx b = .string (str b) := rfl
        go_wp2_with (at_builtin; refine wpList_append_own _ rfl _ _ 34 rfl w.heap.size 9 i0 (.string ByteArray.empty) 1 16 Tryd.underlying34 hi hz0 hz1 hz2 rfl (by decide) _ _ _ rfl (hown.alloc _) ⟨w1.heap.size, 0, none⟩ 1 1 [tx b] rfl rfl ?c1 ?c2 ?c3 ?c4 ?c5 ?_)
        case c1 => exact one_text _ _ _ _ rfl
        case c2 => exact one_tx _
        case c3 => unfold maxLen; omega
        case c4 => omega
        case c5 => simp; omega
        intro v' w2 hown' hgrow _
        have HN3 : Hid (Txts w.heap.size w (acc ++ [b]) v' w2) := txts_more HT1.out hown' hgrow
        clear hown' hgrow hown
        go_wp2
        go_roundw
        case rel => exact ⟨k + v, acc ++ [b], by omega, by go_num, HN2, HN3⟩
        case measure => simp [intOf]; omega
      · obtain ⟨rfl, rfl, hc⟩ := rf_bad hx (by omega)
        have HR := Lib.hid (fun W => read_bad (s.extract k s.size) W hxm e0 (by rw [ext_back]; exact hx))
        by_cases h5 : e0 = 4
        · subst h5
          have HE := Lib.hid (at_stop HA.out hx)
          have hI := Lib.hid (fun W => Is.is_none W)
          clear hx hxm hc
          go_wp2_with fail
          refine (HR.out _).mono ?_
          rintro e w1 ⟨rfl, hb1⟩
          have HB1 := Lib.hid hb1
          clear HR hb1
          go_wp2_with fail
          refine (hI.out _).mono ?_
          rintro e w2 ⟨rfl, rfl⟩
          clear hI
          go_wp2
          go_ret3
          unfold Hid ScanOut
          rw [HE.out]
          exact ⟨_, rfl, txts_on HT.out HB1.out⟩
        · have HE := Lib.hid (at_bad HA.out hx (by omega) (by omega))
          have hI := Lib.hid (fun W => Is.is_other (e0 + 1) W (by omega))
          clear hx hxm hc
          go_wp2_with fail
          refine (HR.out _).mono ?_
          rintro e w1 ⟨rfl, hb1⟩
          have HB1 := Lib.hid hb1
          clear HR hb1
          go_wp2_with fail
          refine (hI.out _).mono ?_
          rintro e w2 ⟨rfl, rfl⟩
          clear hI
          go_wp2
          go_ret3
          unfold Hid ScanOut
          rw [HE.out]
          exact ⟨_, rfl, txts_on HT.out HB1.out⟩
    · have HE := Lib.hid (at_end HA.out (by rw [data_len]; omega))
      go_wp2
      go_ret3
      unfold Hid ScanOut
      rw [HE.out]
      exact ⟨_, rfl, HT.out⟩
/-- Scan, by letters: the bodies, how many bytes, what is wrong. -/
theorem scan_ok (s : ByteArray) (w : World) (hs : s.size ≤ maxLen) (l : List (List UInt8)) (u e : Nat) (h : scan s.data.toList = (l, u, e)) (hN : l.length ≤ 8796093022208) :
    Calls Tryd.prog 13 #[.string s] w fun r w' => ∃ (A : Option Addr) (cap : Nat), r = .returned (.tuple #[.slice A l.length cap, .int .i64 (u : Int), errV e]) ∧ TextsAt w' w'.heap.size A l ∧ Below w.heap.size w w' :=
  (scan_any s w hs (by rw [h]; exact hN)).mono fun r w' he => by
    obtain ⟨v, h1, h2⟩ := he.out
    rw [h] at h1 h2
    obtain ⟨A, cap, rfl, h3⟩ := txts_at h2
    exact ⟨A, cap, h1, h3, h2.2.1⟩
end Go.Proofs.YtjebkipdooimbaaDoor.Fr
