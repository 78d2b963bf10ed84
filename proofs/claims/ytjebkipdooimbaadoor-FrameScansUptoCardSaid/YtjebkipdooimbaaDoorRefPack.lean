/- The walks of the document's answer for package pack: stilewardref1's Num, ReadNum, List and ReadList return what the program's do. -/
import Derived.Test.YtjebkipdooimbaaDoorPackR
namespace Go.Proofs.YtjebkipdooimbaaDoor.Pk
open Go.RowKit Go.IntWalk Go.PlainAid Go.Proofs.YtjebkipdooimbaaDoor.Wd

set_option maxRecDepth 100000 in
set_option maxHeartbeats 1000000 in
theorem refNum_any (n : Nat) (w : World) (hn : n < 9223372036854775808) :
    Calls Tryd.prog 20 #[.int .i64 (n : Int)] w fun e w' => Hid (e = .returned (.string (str (num n)))) ∧ Below w.heap.size w w' := by
  obtain ⟨i0, hi, hz0, hz1, hz2⟩ := info_parts info5
  have hn' : (n : Int) ≤ 9223372036854775807 := by omega
  have HS : Hid (Left n [] n) := left_start n hn
  clear hn
  go_enter Tryd.func20, Tryd.ntmps20
  go_wp2
  go_loopw [0, 3] (fun i b wr => ∃ (m : Nat) (done : List UInt8), (m : Int) ≤ 9223372036854775807 ∧ i = .int .i64 m ∧ Hid (Left n done m) ∧ Hid (Wrote w.heap.size w done b wr)) (fun i _ _ => (intOf i).toNat)
  case atStart => exact ⟨n, [], hn', rfl, HS, wrote_nil w⟩
  case round =>
    obtain ⟨m, cur, hm, rfl, HL, HO⟩ := hrel
    have hbl : cur.length ≤ 100100 := by have := left_len HL.out; omega
    by_cases h128 : 128 ≤ m
    · obtain ⟨x, HX⟩ : ∃ x, Hid (x = UInt8.ofNat (m % 128 + 128)) := ⟨_, rfl⟩
      have hown := HO.out.1
      have hbase := HO.out.2.2
      have HO' := HO
      clear HO
      go_wp2_with (at_builtin; refine wpList_append_own _ rfl _ _ 46 rfl w.heap.size 5 i0 (.int .u8 0) 1 1 Tryd.underlying46 hi hz0 hz1 hz2 rfl (by decide) _ _ _ rfl (hown.alloc _) ⟨wr.heap.size, 0, none⟩ 1 1 [cel x] rfl rfl ?c1 ?c2 ?c3 ?c4 ?c5 ?_)
      case c1 => exact one_cell _ _ _ _ (by rw [HX.out, cel_ofNat _ (by omega)]; go_num)
      case c2 => exact one_one _
      case c3 => unfold maxLen; omega
      case c4 => omega
      case c5 => simp; omega
      intro v' w1 hown' hgrow _
      have HN : Hid (Wrote w.heap.size w (cur ++ [x]) v' w1) := wrote_more HO'.out hown' hgrow
      clear hown' hgrow HO' hown
      go_wp2
      go_roundw
      case rel => exact ⟨m / 128, cur ++ [x], by omega, by go_num, by rw [HX.out]; exact left_step HL.out h128, HN⟩
      case measure => simp [intOf]; omega
    · obtain ⟨x, HX⟩ : ∃ x, Hid (x = UInt8.ofNat m) := ⟨_, rfl⟩
      have hown := HO.out.1
      have hbase := HO.out.2.2
      have HO' := HO
      clear HO
      go_wp2_with (at_builtin; refine wpList_append_own _ rfl _ _ 46 rfl w.heap.size 5 i0 (.int .u8 0) 1 1 Tryd.underlying46 hi hz0 hz1 hz2 rfl (by decide) _ _ _ rfl (hown.alloc _) ⟨wr.heap.size, 0, none⟩ 1 1 [cel x] rfl rfl ?d1 ?d2 ?d3 ?d4 ?d5 ?_)
      case d1 => exact one_cell _ _ _ _ (by rw [HX.out, cel_ofNat _ (by omega)])
      case d2 => exact one_one _
      case d3 => unfold maxLen; omega
      case d4 => omega
      case d5 => simp; omega
      intro v' w1 hown' hgrow _
      obtain ⟨l, HE⟩ : ∃ l, Hid (l = cur ++ [x]) := ⟨_, rfl⟩
      have hW : Wrote w.heap.size w l v' w1 := by rw [HE.out]; exact wrote_more HO'.out hown' hgrow
      have HF : Hid (l = num n) := by
        unfold Hid; rw [HE.out, HX.out]; exact left_end HL.out (by omega)
      obtain ⟨g, cap, rfl, hcv⟩ := wrote_conv hW (by rw [HE.out]; simp)
      have HB := Lib.hid hW.2.1
      clear hown' hgrow HO' hown hW
      go_wp2
      go_ret
      exact ⟨by rw [HF.out]; rfl, HB.out⟩

def numOutR (x : Nat × Nat × Nat) : Ending := .returned (.tuple #[.int .i64 (x.1 : Int), .int .i64 (x.2.1 : Int), .int .i64 (x.2.2 : Int)])
/-- Horner's rule from the last digit. -/
def Down (s : ByteArray) (k j n : Nat) : Prop := n = val ((s.data.toList.take (k + 1)).drop j)
theorem down_step {s : ByteArray} {k j n : Nat} (h : Down s k (j + 1) n) (hj : j ≤ k) (hk : k < s.size) :
    ∃ n' : Nat, (n : Int) * 128 + bt s j % 128 = (n' : Int) ∧ Down s k j n' := by
  obtain ⟨b, hb, hs⟩ := bt_at s j (by omega)
  have hbl := b.toNat_lt
  refine ⟨n * 128 + b.toNat % 128, by rw [hb]; omega, ?_⟩
  have hl : j < (s.data.toList.take (k + 1)).length := by rw [List.length_take, data_len]; omega
  unfold Down at h ⊢
  rw [List.drop_eq_getElem_cons hl]
  have hg : (s.data.toList.take (k + 1))[j] = b := by
    have hl2 : (s.data.toList.take j).length = j := by rw [List.length_take, data_len]; omega
    rw [List.getElem_take]
    have : s.data.toList[j]? = some b := by
      rw [hs, List.getElem?_append_right (by rw [hl2]; omega), hl2]; simp
    exact Option.some.inj ((List.getElem?_eq_getElem (by rw [data_len]; omega)).symm.trans this)
  rw [hg, val, ← h]
  omega
theorem down_start (s : ByteArray) (k : Nat) : Down s k (k + 1) 0 := by
  unfold Down
  rw [List.drop_of_length_le (by rw [List.length_take]; omega)]; rfl
theorem down_lt {s : ByteArray} {k j n : Nat} (h : Down s k j n) (h9 : k < 9) (hj : 1 ≤ j) : n ≤ 72057594037927935 := by
  have h1 := val_lt ((s.data.toList.take (k + 1)).drop j)
  have h2 : 128 ^ ((s.data.toList.take (k + 1)).drop j).length ≤ 128 ^ 8 := Nat.pow_le_pow_right (by omega) (by rw [List.length_drop, List.length_take]; omega)
  have e8 : 128 ^ 8 = 72057594037927936 := by decide
  rw [h]; omega
def Highs (s : ByteArray) (k : Nat) : Prop := ∀ c ∈ s.data.toList.take k, 128 ≤ c.toNat
theorem highs_next {s : ByteArray} {k : Nat} (h : Highs s k) (hk : k < s.size) (hb : 128 ≤ bt s k) : Highs s (k + 1) := by
  obtain ⟨b, hb', hs⟩ := bt_at s k hk
  unfold Highs
  rw [take_snoc hk hs]
  intro c hc
  rcases List.mem_append.1 hc with hc | hc
  · exact h c hc
  · simp at hc; subst hc; omega
theorem down_end {s : ByteArray} {k n : Nat} (h : Down s k 0 n) (hh : Highs s k) (h9 : k < 9) (hk : k < s.size) (hb : bt s k < 128) (h0 : bt s k ≠ 0 ∨ k = 0) : rd s.data.toList = (n, k + 1, 0) := by
  obtain ⟨b, hb', hs⟩ := bt_at s k hk
  have hl : (s.data.toList.take k).length = k := by rw [List.length_take, data_len]; omega
  have e := take_snoc hk hs
  unfold Down at h
  rw [List.drop_zero, e] at h
  rw [hs, rd_stop _ _ b hh (by omega) (by omega), if_neg, hl, h]
  rintro ⟨h1, h2⟩
  rcases h0 with h0 | rfl
  · omega
  · simp at h2

set_option maxRecDepth 100000 in
set_option maxHeartbeats 2000000 in
theorem refReadNum_any (s : ByteArray) (w : World) (hs : s.size ≤ maxLen) :
    Calls Tryd.prog 25 #[.string s] w fun e w' => Hid (e = numOutR (rd s.data.toList)) ∧ w = w' := by
  unfold maxLen at hs
  have hbt := get_bt s
  go_enter Tryd.func25, Tryd.ntmps25
  go_wp2
  go_loop [5] (fun i => ∃ (k : Nat), k ≤ 9 ∧ k ≤ s.size ∧ i = .int .i64 k ∧ Hid (Highs s k)) (fun i => s.size - (intOf i).toNat)
  case atStart => exact ⟨0, by omega, by omega, rfl, by simp [Hid, Highs]⟩
  case round =>
    obtain ⟨k, hk9, hks, rfl, HV⟩ := hrel
    have b0 := bt_nonneg s k
    have b1 := bt_le s k
    by_cases h9 : k < 9
    · have e9 : ((k : Int) == 9) = false := by simp; omega
      by_cases hlt : k < s.size
      · have el : ((k : Int) == (s.size : Int)) = false := by simp; omega
        by_cases hb : 128 ≤ bt s k
        · have HN := Lib.hid (highs_next HV.out hlt hb)
          go_wp2
          go_round
          case rel => exact ⟨k + 1, by omega, by omega, by go_num, HN⟩
          case measure => simp [intOf]; omega
        · by_cases hz : bt s k = 0 ∧ 0 < k
          · have HR : Hid (rd s.data.toList = (0, 0, 2)) := upto_zero (v := val (s.data.toList.take k)) ⟨rfl, HV.out⟩ h9 hlt hz.1 hz.2
            have hz1 : (bt s k == 0) = true := by simpa using hz.1
            have hk0 : 0 < k := hz.2
            clear hz
            go_wp2
            go_ret3
            exact ⟨by rw [HR.out]; rfl, rfl⟩
          · have HD : Hid (∀ n, Down s k 0 n → rd s.data.toList = (n, k + 1, 0)) := fun n h => down_end h HV.out h9 hlt (by omega) (by omega)
            have hz1 : (decide (0 < k) && (bt s k == 0)) = false := by
              rw [Bool.and_eq_false_iff]; simp; omega
            by_cases hk0 : 0 < k
            all_goals
              try have hz2 : (bt s k == 0) = false := by simp; omega
              clear hz hz1
              go_wp2
              go_loop [6, 7] (fun n i => ∃ (j m : Nat), j ≤ k + 1 ∧ i = .int .i64 ((j : Int) - 1) ∧ n = .int .i64 m ∧ Hid (Down s k j m)) (fun _ i => (intOf i + 1).toNat)
              case atStart => exact ⟨k + 1, 0, by omega, by go_num, rfl, down_start s k⟩
              case round =>
                obtain ⟨j, m, hj, rfl, rfl, HJ⟩ := hrel
                by_cases hj0 : 1 ≤ j
                · obtain ⟨i, rfl⟩ : ∃ i, j = i + 1 := ⟨j - 1, by omega⟩
                  have hm := down_lt HJ.out h9 hj0
                  obtain ⟨m', hm', hd⟩ := down_step HJ.out (by omega) hlt
                  have HM := Lib.hid hm'
                  have HD' := Lib.hid hd
                  have c0 := bt_nonneg s i
                  have c1 := bt_le s i
                  have hil : i < s.size := by omega
                  clear hm' hd
                  go_wp2
                  rw [HM.out]
                  go_round
                  case rel => exact ⟨i, m', by omega, by go_num, rfl, HD'⟩
                  case measure => simp [intOf]
                · obtain rfl : j = 0 := by omega
                  have HR := Lib.hid (HD.out m HJ.out)
                  go_wp2
                  go_ret3
                  exact ⟨by rw [HR.out]; rfl, rfl⟩
      · obtain rfl : k = s.size := by omega
        have HR : Hid (rd s.data.toList = (0, 0, 5)) := upto_short (v := val (s.data.toList.take s.size)) ⟨rfl, HV.out⟩ h9
        go_wp2
        go_ret3
        exact ⟨by rw [HR.out]; rfl, rfl⟩
    · have hk : 9 ≤ k := by omega
      have e9 : ((k : Int) == 9) = true := by simp; omega
      have HR : Hid (rd s.data.toList = (0, 0, 2)) := by
        have e : k = 9 := by omega
        subst e
        exact upto_long (v := val (s.data.toList.take 9)) ⟨rfl, HV.out⟩ hks
      by_cases hlt : k < s.size
      all_goals
        go_wp2
        go_ret3
        exact ⟨by rw [HR.out]; rfl, rfl⟩
theorem refReadNum_ok (s : ByteArray) (w : World) (hs : s.size ≤ maxLen) (n u : Nat) (h : rd s.data.toList = (n, u, 0)) :
    Calls Tryd.prog 25 #[.string s] w fun e w' => e = .returned (.tuple #[.int .i64 (n : Int), .int .i64 (u : Int), .int .i64 0]) ∧ w = w' :=
  (refReadNum_any s w hs).mono fun e w' ⟨he, hw⟩ => ⟨by rw [he.out, h]; rfl, hw⟩
theorem refReadNum_bad (s : ByteArray) (w : World) (hs : s.size ≤ maxLen) (e0 : Nat) (h : rd s.data.toList = (0, 0, e0 + 1)) :
    Calls Tryd.prog 25 #[.string s] w fun e w' => e = .returned (.tuple #[.int .i64 0, .int .i64 0, .int .i64 ((e0 + 1 : Nat) : Int)]) ∧ w = w' :=
  (refReadNum_any s w hs).mono fun e w' ⟨he, hw⟩ => ⟨by rw [he.out, h]; rfl, hw⟩

/-! ### lists -/
theorem str_append (a b : List UInt8) : str a ++ str b = str (a ++ b) := by
  rw [← str_of (str a ++ str b), ByteArray.data_append, Array.toList_append, str_data, str_data]
def strOutR (x : List UInt8 × Nat) : Ending := .returned (.tuple #[.string (str x.1), .int .i64 (x.2 : Int)])

def ListOutR (B : Nat) (w0 : World) (R : List Nat × Nat × Nat) (e : Ending) (w' : World) : Prop :=
  ∃ v', e = .returned (.tuple #[v', .int .i64 (R.2.1 : Int), .int .i64 (R.2.2 : Int)]) ∧ Ints B w0 R.1 v' w' ∧ (R.2.2 ≠ 0 → v' = .slice none 0 0)
theorem listOutR_bad {B : Nat} {w0 w : World} {R : List Nat × Nat × Nat} {e : Nat} (h : R = ([], 0, e)) (hi : Ints B w0 [] (.slice none 0 0) w) :
    ListOutR B w0 R (.returned (.tuple #[.slice none 0 0, .int .i64 0, .int .i64 (e : Int)])) w := by
  subst h; exact ⟨_, rfl, hi, fun _ => rfl⟩
theorem listOutR_ok {B : Nat} {w0 w : World} {R : List Nat × Nat × Nat} {l : List Nat} {u : Nat} {v : Value} (h : R = (l, u, 0)) (hi : Ints B w0 l v w) :
    ListOutR B w0 R (.returned (.tuple #[v, .int .i64 (u : Int), .int .i64 0])) w := by
  subst h; exact ⟨_, rfl, hi, fun h => absurd rfl h⟩

end Go.Proofs.YtjebkipdooimbaaDoor.Pk
