/- The walks of package sum: what Of, Join and Roll return, by plain arithmetic modulo. -/
import Derived.Test.YtjebkipdooimbaaDoorProg
import Derived.Test.YtjebkipdooimbaaDoorSumM
import Derived.Test.YtjebkipdooimbaaDoorWords
import Derived.WalkKit
import Derived.OpenShut
import Derived.PlainAid
import Derived.Lib.Hide
namespace Go.Proofs.YtjebkipdooimbaaDoor.Sm
open Go.RowKit Go.IntWalk Go.PlainAid Go.Proofs.YtjebkipdooimbaaDoor.Wd

set_option maxHeartbeats 1000000 in
theorem push_ok (a b : Nat) (w : World) (ha : a < 2000006) (hb : b < 256) :
    Calls Tryd.prog 28 #[.int .i64 (a : Int), .int .i64 (b : Int)] w fun e w' => e = .returned (.int .i64 (((a * 257 + b + 1) % 1000003 : Nat) : Int)) ∧ w = w' := by
  go_enter Tryd.func28, Tryd.ntmps28
  go_wp2
  go_ret
  exact ⟨rfl, rfl⟩

theorem wrap_mul (x y : Nat) (hx : x < 1000003) (hy : y < 1000003) : wrap64 ((x : Int) * (y : Int)) = ((x * y : Nat) : Int) := by
  have := mul_lt x y hx hy
  rw [← Int.natCast_mul]
  exact wrap64_in _ ⟨by omega, by omega⟩
theorem mod_mul (x y : Nat) (hx : x < 1000003) (hy : y < 1000003) : (wrap64 ((x : Int) * (y : Int))).tmod 1000003 = ((x * y % 1000003 : Nat) : Int) := by
  rw [wrap_mul x y hx hy]; rfl
theorem mod_mul' (x y : Nat) : (x : Int) * (y : Int) % 1000003 = ((x * y % 1000003 : Nat) : Int) := by
  rw [← Int.natCast_mul]; rfl

/-- Of, of any text. -/
theorem bt_at (s : ByteArray) (k : Nat) (h : k < s.size) : ∃ b : UInt8, bt s k = (b.toNat : Int) ∧ s.data.toList.take (k + 1) = s.data.toList.take k ++ [b] := by
  have hl : k < s.data.toList.length := by simpa using h
  exact ⟨s[k], (get_bt s k h).symm, (List.take_append_getElem hl).symm⟩
set_option maxRecDepth 100000 in
set_option maxHeartbeats 1000000 in
theorem of_any (s : ByteArray) (w : World) (hs : s.size ≤ maxLen) :
    Calls Tryd.prog 19 #[.string s] w fun e w' => Hid (e = .returned (.int .i64 (sm s.data.toList : Int))) ∧ w = w' := by
  unfold maxLen at hs
  have hbt := get_bt s
  have HC : Hid (∀ (a b : Nat) (w : World), a < 2000006 → b < 256 → Calls Tryd.prog 28 #[.int .i64 (a : Int), .int .i64 (b : Int)] w fun e w' => e = .returned (.int .i64 (((a * 257 + b + 1) % 1000003 : Nat) : Int)) ∧ w = w') := push_ok
  go_enter Tryd.func19, Tryd.ntmps19
  go_wp2
  go_loop [3, 7] (fun n i => ∃ (k v : Nat), k ≤ s.size ∧ v < 1000003 ∧ i = .int .i64 k ∧ n = .int .i64 v ∧ Hid (v = sm (s.data.toList.take k))) (fun _ i => s.size - (intOf i).toNat)
  case atStart => exact ⟨0, 0, by omega, by omega, rfl, rfl, by simp [Hid, sm_nil]⟩
  case round =>
    obtain ⟨k, v, hks, hv, rfl, rfl, HV⟩ := hrel
    by_cases hlt : k < s.size
    · obtain ⟨b, hb, ht⟩ := bt_at s k hlt
      have hb2 := b.toNat_lt
      have HN : Hid ((v * 257 + b.toNat + 1) % 1000003 = sm (s.data.toList.take (k + 1))) := by
        unfold Hid; rw [ht, sm_snoc, ← HV.out]
      clear ht
      generalize b.toNat = c at *
      go_wp2_with fail
      refine (HC.out _ _ _ (by omega) (by omega)).mono ?_
      rintro e w1 ⟨rfl, rfl⟩
      have hm : (v * 257 + c + 1) % 1000003 < 1000003 := Nat.mod_lt _ (by omega)
      generalize (v * 257 + c + 1) % 1000003 = v' at *
      go_wp2
      go_round
      case rel => exact ⟨k + 1, v', by omega, hm, by go_num, rfl, HN⟩
      case measure => simp [intOf]; omega
    · obtain rfl : k = s.size := by omega
      have HE : Hid (v = sm s.data.toList) := by
        have := HV.out
        rwa [List.take_of_length_le (by rw [data_len]; omega)] at this
      go_wp2
      go_ret
      exact ⟨by rw [← HE.out]; rfl, rfl⟩
/-- Of, told by a letter. -/
theorem of_ok (s : ByteArray) (w : World) (hs : s.size ≤ maxLen) :
    Calls Tryd.prog 19 #[.string s] w fun e w' => e = .returned (.int .i64 (sm s.data.toList : Int)) ∧ w = w' :=
  (of_any s w hs).mono fun _ _ ⟨he, hw⟩ => ⟨he.out, hw⟩
theorem of_q (s : ByteArray) (w : World) (hs : s.size ≤ maxLen) :
    Calls Tryd.prog 19 #[.string s] w fun e w' => e = .returned (.int .i64 (sm s.data.toList : Int)) ∧ w' = w :=
  (of_any s w hs).mono fun _ _ ⟨he, hw⟩ => ⟨he.out, hw.symm⟩
/-- Are Join's numbers right? -/
def Jr (a b n : Int) : Prop := (0 ≤ a ∧ a ≤ 1000002) ∧ (0 ≤ b ∧ b ≤ 1000002) ∧ 0 ≤ n ∧ n ≤ 2147483647
/-- Are Roll's numbers right? -/
def Rr (s o i n : Int) : Prop := (0 ≤ s ∧ s ≤ 1000002) ∧ (0 ≤ o ∧ o ≤ 255) ∧ (0 ≤ i ∧ i ≤ 255) ∧ 1 ≤ n ∧ n ≤ 2147483647
theorem ext_front (s : ByteArray) (k : Nat) : (s.extract 0 k).data.toList = s.data.toList.take k := by
  rw [ByteArray.data_extract, Array.toList_extract, List.extract_eq_take_drop]; rfl
theorem ext_back (s : ByteArray) (k : Nat) : (s.extract k s.size).data.toList = s.data.toList.drop k := by
  rw [ByteArray.data_extract, Array.toList_extract, List.extract_eq_take_drop]
  exact List.take_of_length_le (by rw [List.length_drop, data_len]; omega)
theorem bt_in (s : ByteArray) (k : Nat) (h : k < s.size) : ∃ b : UInt8, bt s k = (b.toNat : Int) ∧ s.data.toList = s.data.toList.take k ++ (b :: s.data.toList.drop (k + 1)) := by
  have hl : k < s.data.toList.length := by simpa using h
  refine ⟨s[k], (get_bt s k h).symm, ?_⟩
  have := List.take_append_drop k s.data.toList
  rw [List.drop_eq_getElem_cons hl] at this
  exact this.symm
/-- One byte of a text in another's place. -/
theorem turned (s : ByteArray) (k : Nat) (h : k < s.size) (c : UInt8) :
    (bt s k = (c.toNat : Int) ∧ sm s.data.toList = sm (s.extract 0 k ++ str [c] ++ s.extract (k + 1) s.size).data.toList) ∨
    (bt s k ≠ (c.toNat : Int) ∧ sm s.data.toList ≠ sm (s.extract 0 k ++ str [c] ++ s.extract (k + 1) s.size).data.toList) := by
  obtain ⟨b, hb, hs⟩ := bt_in s k h
  have e : (s.extract 0 k ++ str [c] ++ s.extract (k + 1) s.size).data.toList = s.data.toList.take k ++ (c :: s.data.toList.drop (k + 1)) := by
    simp only [ByteArray.data_append, Array.toList_append, ext_front, ext_back, str_data, List.append_assoc, List.cons_append, List.nil_append]
  have e2 : sm s.data.toList = sm (s.data.toList.take k ++ (b :: s.data.toList.drop (k + 1))) := by rw [← hs]
  rw [e, e2, hb]
  by_cases hc : b = c
  · exact .inl ⟨by rw [hc], by rw [hc]⟩
  · exact .inr ⟨fun h => hc (UInt8.toNat_inj.1 (by omega)), fun h => hc ((sm_one _ _ _ _).1 h)⟩
theorem bt_two (s : ByteArray) (k : Nat) (h : k + 1 < s.size) : ∃ b c : UInt8, bt s k = (b.toNat : Int) ∧ bt s (k + 1) = (c.toNat : Int) ∧ s.data.toList = s.data.toList.take k ++ (b :: c :: s.data.toList.drop (k + 2)) := by
  obtain ⟨b, hb, hs⟩ := bt_in s k (by omega)
  have hl : k + 1 < s.data.toList.length := by simpa using h
  refine ⟨b, s[k + 1], hb, (get_bt s (k + 1) h).symm, ?_⟩
  rw [List.drop_eq_getElem_cons hl] at hs
  exact hs
/-- Two neighbours in each other's place. -/
theorem swapped (s : ByteArray) (k : Nat) (h : k + 1 < s.size) : ∃ b c : UInt8, bt s k = (b.toNat : Int) ∧ bt s (k + 1) = (c.toNat : Int) ∧
    ((b = c ∧ sm s.data.toList = sm (s.extract 0 k ++ str [c, b] ++ s.extract (k + 2) s.size).data.toList) ∨
    (b ≠ c ∧ sm s.data.toList ≠ sm (s.extract 0 k ++ str [c, b] ++ s.extract (k + 2) s.size).data.toList)) := by
  obtain ⟨b, c, hb, hc, hs⟩ := bt_two s k h
  refine ⟨b, c, hb, hc, ?_⟩
  have e : (s.extract 0 k ++ str [c, b] ++ s.extract (k + 2) s.size).data.toList = s.data.toList.take k ++ (c :: b :: s.data.toList.drop (k + 2)) := by
    simp only [ByteArray.data_append, Array.toList_append, ext_front, ext_back, str_data, List.append_assoc, List.cons_append, List.nil_append]
  have e2 : sm s.data.toList = sm (s.data.toList.take k ++ (b :: c :: s.data.toList.drop (k + 2))) := by rw [← hs]
  rw [e, e2]
  by_cases hbc : b = c
  · exact .inl ⟨hbc, by rw [hbc]⟩
  · exact .inr ⟨hbc, fun h => hbc ((sm_swap _ _ _ _).1 h)⟩
theorem ext_mid (s : ByteArray) (p k : Nat) : (s.extract p k).data.toList = (s.data.toList.drop p).take (k - p) := by
  rw [ByteArray.data_extract, Array.toList_extract, List.extract_eq_take_drop]
/-- A window that moves by one byte. -/
theorem window (s : ByteArray) (p n k : Nat) (hk : k = p + n) (hn : 0 < n) (hs : k < s.size) : ∃ o c : UInt8, bt s p = (o.toNat : Int) ∧ bt s k = (c.toNat : Int) ∧
    rl (sm (s.extract p k).data.toList) o.toNat c.toNat n = sm (s.extract (p + 1) (k + 1)).data.toList := by
  have hl : p < s.data.toList.length := by rw [data_len]; omega
  have hl2 : k < s.data.toList.length := by rw [data_len]; omega
  refine ⟨s[p], s[k], (get_bt s p (by omega)).symm, (get_bt s k hs).symm, ?_⟩
  obtain ⟨j, rfl⟩ : ∃ j, n = j + 1 := ⟨n - 1, by omega⟩
  have h1 : (s.extract p k).data.toList = s.data.toList[p] :: (s.data.toList.drop (p + 1)).take j := by
    rw [ext_mid, List.drop_eq_getElem_cons hl, show k - p = j + 1 from by omega, List.take_succ_cons]
  have hj : j < (s.data.toList.drop (p + 1)).length := by rw [List.length_drop]; omega
  have h2 : (s.extract (p + 1) (k + 1)).data.toList = (s.data.toList.drop (p + 1)).take j ++ [s.data.toList[k]] := by
    rw [ext_mid, show k + 1 - (p + 1) = j + 1 from by omega, ← List.take_append_getElem hj, List.getElem_drop]
    congr 3
    omega
  have hlen : ((s.data.toList.drop (p + 1)).take j).length = j := by rw [List.length_take]; omega
  have := rl_window s.data.toList[p] s.data.toList[k] ((s.data.toList.drop (p + 1)).take j)
  rw [hlen] at this
  rw [h1, h2, ← this]
  rfl

/-- Of, at the closed texts of the laws. -/
theorem of_ab (w : World) : Calls Tryd.prog 19 #[.string ⟨#[97, 98]⟩] w fun e w' => e = .returned (.int .i64 25285) ∧ w = w' :=
  of_ok ⟨#[97, 98]⟩ w (by decide)
theorem of_ac (w : World) : Calls Tryd.prog 19 #[.string ⟨#[97, 99]⟩] w fun e w' => e = .returned (.int .i64 25286) ∧ w = w' :=
  of_ok ⟨#[97, 99]⟩ w (by decide)
theorem of_ba (w : World) : Calls Tryd.prog 19 #[.string ⟨#[98, 97]⟩] w fun e w' => e = .returned (.int .i64 25541) ∧ w = w' :=
  of_ok ⟨#[98, 97]⟩ w (by decide)
end Go.Proofs.YtjebkipdooimbaaDoor.Sm
