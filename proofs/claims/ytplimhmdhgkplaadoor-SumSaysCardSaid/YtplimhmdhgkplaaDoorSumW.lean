/- The walks of package sum: what Of, Join and Roll return, by plain arithmetic modulo. -/
import Derived.Test.YtplimhmdhgkplaaDoorProg
import Derived.Test.YtplimhmdhgkplaaDoorSumM
import Derived.Test.YtplimhmdhgkplaaDoorWords
import Derived.WalkKit
import Derived.OpenShut
import Derived.PlainAid
import Derived.Lib.Hide
namespace Go.Proofs.YtplimhmdhgkplaaDoor.Sm
open Go.RowKit Go.IntWalk Go.PlainAid Go.Proofs.YtplimhmdhgkplaaDoor.Wd

set_option maxHeartbeats 1000000 in
theorem push_ok (a b : Nat) (w : World) (ha : a < 2000006) (hb : b < 256) :
    Calls Tryd.prog 11 #[.int .i64 (a : Int), .int .i64 (b : Int)] w fun e w' => e = .returned (.int .i64 (((a * 257 + b + 1) % 1000003 : Nat) : Int)) ∧ w = w' := by
  go_enter Tryd.func11, Tryd.ntmps11
  go_wp2
  go_ret
  exact ⟨rfl, rfl⟩

set_option maxHeartbeats 1000000 in
theorem within_ok (n a b : Int) (w : World) (hn : Small n) (ha : Small a) (hb : Small b) :
    Calls Tryd.prog 13 #[.int .i64 n, .int .i64 a, .int .i64 b] w fun e w' => e = .returned (.bool (decide (a ≤ n ∧ n ≤ b))) ∧ w = w' := by
  obtain ⟨h1, h2⟩ := hn
  obtain ⟨h3, h4⟩ := ha
  obtain ⟨h5, h6⟩ := hb
  by_cases h : a ≤ n
  · by_cases h' : n ≤ b
    · rw [decide_eq_true ⟨h, h'⟩]
      go_enter Tryd.func13, Tryd.ntmps13
      go_wp2
      go_ret
      exact ⟨rfl, rfl⟩
    · rw [decide_eq_false (fun e => h' e.2)]
      go_enter Tryd.func13, Tryd.ntmps13
      go_wp2
      go_ret
      exact ⟨rfl, rfl⟩
  · rw [decide_eq_false (fun e => h e.1)]
    go_enter Tryd.func13, Tryd.ntmps13
    go_wp2
    go_ret
    exact ⟨rfl, rfl⟩
theorem isSum_ok (n : Int) (w : World) (hn : Small n) :
    Calls Tryd.prog 12 #[.int .i64 n] w fun e w' => e = .returned (.bool (decide (0 ≤ n ∧ n ≤ 1000002))) ∧ w = w' := by
  have HC := Lib.hid (fun W => within_ok n 0 1000002 W hn ⟨by omega, by omega⟩ ⟨by omega, by omega⟩)
  clear hn
  generalize decide (0 ≤ n ∧ n ≤ 1000002) = d at *
  go_enter Tryd.func12, Tryd.ntmps12
  go_wp2_with fail
  refine (HC.out _).mono ?_
  rintro e w1 ⟨rfl, rfl⟩
  go_wp2
  go_ret
  exact ⟨rfl, rfl⟩
theorem isByte_ok (n : Int) (w : World) (hn : Small n) :
    Calls Tryd.prog 18 #[.int .i64 n] w fun e w' => e = .returned (.bool (decide (0 ≤ n ∧ n ≤ 255))) ∧ w = w' := by
  have HC := Lib.hid (fun W => within_ok n 0 255 W hn ⟨by omega, by omega⟩ ⟨by omega, by omega⟩)
  clear hn
  generalize decide (0 ≤ n ∧ n ≤ 255) = d at *
  go_enter Tryd.func18, Tryd.ntmps18
  go_wp2_with fail
  refine (HC.out _).mono ?_
  rintro e w1 ⟨rfl, rfl⟩
  go_wp2
  go_ret
  exact ⟨rfl, rfl⟩

theorem wrap_mul (x y : Nat) (hx : x < 1000003) (hy : y < 1000003) : wrap64 ((x : Int) * (y : Int)) = ((x * y : Nat) : Int) := by
  have := mul_lt x y hx hy
  rw [← Int.natCast_mul]
  exact wrap64_in _ ⟨by omega, by omega⟩
theorem mod_mul (x y : Nat) (hx : x < 1000003) (hy : y < 1000003) : (wrap64 ((x : Int) * (y : Int))).tmod 1000003 = ((x * y % 1000003 : Nat) : Int) := by
  rw [wrap_mul x y hx hy]; rfl
theorem mod_mul' (x y : Nat) : (x : Int) * (y : Int) % 1000003 = ((x * y % 1000003 : Nat) : Int) := by
  rw [← Int.natCast_mul]; rfl

set_option maxRecDepth 100000 in
set_option maxHeartbeats 1000000 in
theorem power_ok (k : Nat) (w : World) (hk : k ≤ 2147483647) :
    Calls Tryd.prog 14 #[.int .i64 (k : Int)] w fun e w' => Hid (e = .returned (.int .i64 (pw k : Int))) ∧ w = w' := by
  have HS := Lib.hid (pow_start k)
  go_enter Tryd.func14, Tryd.ntmps14
  go_wp2
  go_loop [0, 3, 4] (fun a b c => ∃ (n r q : Nat), n ≤ 2147483647 ∧ r < 1000003 ∧ q < 1000003 ∧ a = .int .i64 n ∧ b = .int .i64 r ∧ c = .int .i64 q ∧ Hid (Pow k r q n)) (fun a _ _ => (intOf a).toNat)
  case atStart => exact ⟨k, 1, 257, hk, by omega, by omega, rfl, rfl, rfl, HS⟩
  case round =>
    obtain ⟨n, r, q, hn, hr, hq, rfl, rfl, rfl, HP⟩ := hrel
    by_cases h0 : 0 < n
    · by_cases hp : n % 2 = 1
      · have HN := Lib.hid (pow_odd HP.out hp)
        go_wp2
        go_round
        case rel => exact ⟨n / 2, r * q % 1000003, q * q % 1000003, by omega, HN.out.1, HN.out.2.1, by go_num, by rw [mod_mul r q hr hq], by rw [mod_mul q q hq hq], HN⟩
        case measure => simp [intOf]; omega
      · have HN := Lib.hid (pow_even HP.out (show n % 2 = 0 by omega))
        go_wp2
        go_round
        case rel => exact ⟨n / 2, r, q * q % 1000003, by omega, hr, HN.out.2.1, by go_num, rfl, by first | rw [mod_mul q q hq hq] | rw [mod_mul' q q], HN⟩
        case measure => simp [intOf]; omega
    · obtain rfl : n = 0 := by omega
      have HE := Lib.hid (pow_end HP.out)
      go_wp2
      go_ret
      exact ⟨by rw [← HE.out]; rfl, rfl⟩

/-- Of, of any text. -/
theorem bt_at (s : ByteArray) (k : Nat) (h : k < s.size) : ∃ b : UInt8, bt s k = (b.toNat : Int) ∧ s.data.toList.take (k + 1) = s.data.toList.take k ++ [b] := by
  have hl : k < s.data.toList.length := by simpa using h
  exact ⟨s[k], (get_bt s k h).symm, (List.take_append_getElem hl).symm⟩
set_option maxRecDepth 100000 in
set_option maxHeartbeats 1000000 in
theorem of_any (s : ByteArray) (w : World) (hs : s.size ≤ maxLen) :
    Calls Tryd.prog 4 #[.string s] w fun e w' => Hid (e = .returned (.int .i64 (sm s.data.toList : Int))) ∧ w = w' := by
  unfold maxLen at hs
  have hbt := get_bt s
  have HC : Hid (∀ (a b : Nat) (w : World), a < 2000006 → b < 256 → Calls Tryd.prog 11 #[.int .i64 (a : Int), .int .i64 (b : Int)] w fun e w' => e = .returned (.int .i64 (((a * 257 + b + 1) % 1000003 : Nat) : Int)) ∧ w = w') := push_ok
  go_enter Tryd.func4, Tryd.ntmps4
  go_wp2
  go_loop [3, 7] (fun n i => ∃ (k v : Nat), k ≤ s.size ∧ v < 1000003 ∧ i = .int .i64 k ∧ n = .int .i64 v ∧ Hid (v = sm (s.data.toList.take k))) (fun _ i => s.size - (intOf i).toNat)
  case atStart => exact ⟨0, 0, by omega, by omega, rfl, rfl, by simp [Hid, sm_nil]⟩
  case round =>
    obtain ⟨k, v, hks, hv, rfl, rfl, HV⟩ := hrel
    by_cases hlt : k < s.size
    · obtain ⟨b, hb, ht⟩ := bt_at s k hlt
      have hb2 := b.toNat_lt
      have HN : Hid ((v * 257 + b.toNat + 1) % 1000003 = sm (s.data.toList.take (k + 1))) := by
        unfold Hid; rw [ht, sm_snoc, ← HV.out]
      clear ht
      generalize b.toNat = c at *
      go_wp2_with fail
      refine (HC.out _ _ _ (by omega) (by omega)).mono ?_
      rintro e w1 ⟨rfl, rfl⟩
      have hm : (v * 257 + c + 1) % 1000003 < 1000003 := Nat.mod_lt _ (by omega)
      generalize (v * 257 + c + 1) % 1000003 = v' at *
      go_wp2
      go_round
      case rel => exact ⟨k + 1, v', by omega, hm, by go_num, rfl, HN⟩
      case measure => simp [intOf]; omega
    · obtain rfl : k = s.size := by omega
      have HE : Hid (v = sm s.data.toList) := by
        have := HV.out
        rwa [List.take_of_length_le (by rw [data_len]; omega)] at this
      go_wp2
      go_ret
      exact ⟨by rw [← HE.out]; rfl, rfl⟩
/-- Of, told by a letter. -/
theorem of_ok (s : ByteArray) (w : World) (hs : s.size ≤ maxLen) :
    Calls Tryd.prog 4 #[.string s] w fun e w' => e = .returned (.int .i64 (sm s.data.toList : Int)) ∧ w = w' :=
  (of_any s w hs).mono fun _ _ ⟨he, hw⟩ => ⟨he.out, hw⟩
theorem of_q (s : ByteArray) (w : World) (hs : s.size ≤ maxLen) :
    Calls Tryd.prog 4 #[.string s] w fun e w' => e = .returned (.int .i64 (sm s.data.toList : Int)) ∧ w' = w :=
  (of_any s w hs).mono fun _ _ ⟨he, hw⟩ => ⟨he.out, hw.symm⟩
theorem pow_ok (k : Nat) (w : World) (hk : k ≤ 2147483647) :
    Calls Tryd.prog 14 #[.int .i64 (k : Int)] w fun e w' => e = .returned (.int .i64 (pw k : Int)) ∧ w = w' :=
  (power_ok k w hk).mono fun _ _ ⟨he, hw⟩ => ⟨he.out, hw⟩
theorem isSum_true (a : Int) (W : World) (h : 0 ≤ a ∧ a ≤ 1000002) : Calls Tryd.prog 12 #[.int .i64 a] W fun e w' => e = .returned (.bool true) ∧ W = w' := by
  have := isSum_ok a W ⟨by omega, by omega⟩
  rwa [decide_eq_true h] at this
theorem isSum_false (a : Int) (W : World) (h : ¬ (0 ≤ a ∧ a ≤ 1000002)) (hs : Small a) : Calls Tryd.prog 12 #[.int .i64 a] W fun e w' => e = .returned (.bool false) ∧ W = w' := by
  have := isSum_ok a W hs
  rwa [decide_eq_false h] at this
theorem isByte_true (a : Int) (W : World) (h : 0 ≤ a ∧ a ≤ 255) : Calls Tryd.prog 18 #[.int .i64 a] W fun e w' => e = .returned (.bool true) ∧ W = w' := by
  have := isByte_ok a W ⟨by omega, by omega⟩
  rwa [decide_eq_true h] at this
theorem isByte_false (a : Int) (W : World) (h : ¬ (0 ≤ a ∧ a ≤ 255)) (hs : Small a) : Calls Tryd.prog 18 #[.int .i64 a] W fun e w' => e = .returned (.bool false) ∧ W = w' := by
  have := isByte_ok a W hs
  rwa [decide_eq_false h] at this
theorem within_true (n a b : Int) (W : World) (h : a ≤ n ∧ n ≤ b) (ha : Small a) (hb : Small b) : Calls Tryd.prog 13 #[.int .i64 n, .int .i64 a, .int .i64 b] W fun e w' => e = .returned (.bool true) ∧ W = w' := by
  obtain ⟨h1, h2⟩ := ha
  obtain ⟨h3, h4⟩ := hb
  have := within_ok n a b W ⟨by omega, by omega⟩ ⟨h1, h2⟩ ⟨h3, h4⟩
  rwa [decide_eq_true h] at this
theorem within_false (n a b : Int) (W : World) (h : ¬ (a ≤ n ∧ n ≤ b)) (hn : Small n) (ha : Small a) (hb : Small b) : Calls Tryd.prog 13 #[.int .i64 n, .int .i64 a, .int .i64 b] W fun e w' => e = .returned (.bool false) ∧ W = w' := by
  have := within_ok n a b W hn ha hb
  rwa [decide_eq_false h] at this

set_option maxRecDepth 100000 in
set_option maxHeartbeats 1000000 in
theorem join_ok (a b n : Nat) (w : World) (ha : a < 1000003) (hb : b < 1000003) (hn : n ≤ 2147483647) :
    Calls Tryd.prog 6 #[.int .i64 (a : Int), .int .i64 (b : Int), .int .i64 (n : Int)] w fun e w' => e = .returned (.tuple #[.int .i64 (jn a b n : Int), .nilIface]) ∧ w = w' := by
  have H1 := Lib.hid (fun W => isSum_true a W (by omega))
  have H2 := Lib.hid (fun W => isSum_true b W (by omega))
  have H3 := Lib.hid (fun W => within_true n 0 2147483647 W (by omega) ⟨by omega, by omega⟩ ⟨by omega, by omega⟩)
  have H4 := Lib.hid (fun W => pow_ok n W hn)
  have hp := pw_lt n
  have hm := mul_lt a (pw n) ha hp
  have E1 : Hid (((a : Int) * (pw n : Int) + b) % 1000003 = (jn a b n : Int)) := by
    unfold Hid jn
    rw [← Int.natCast_mul]; rfl
  have E2 : ((a : Int) * (pw n : Int)) = ((a * pw n : Nat) : Int) := (Int.natCast_mul _ _).symm
  have E3 : ((a : Int) * (pw n : Int)) < 1000006000009 := by omega
  have E4 : 0 ≤ ((a : Int) * (pw n : Int)) := by omega
  clear E2 hm
  generalize jn a b n = R at *
  generalize pw n = p at *
  go_enter Tryd.func6, Tryd.ntmps6
  go_wp2_with fail
  refine (H1.out _).mono ?_
  rintro e w1 ⟨rfl, rfl⟩
  go_wp2_with fail
  refine (H2.out _).mono ?_
  rintro e w1 ⟨rfl, rfl⟩
  go_wp2_with fail
  refine (H3.out _).mono ?_
  rintro e w1 ⟨rfl, rfl⟩
  go_wp2_with fail
  refine (H4.out _).mono ?_
  rintro e w1 ⟨rfl, rfl⟩
  go_wp2
  go_ret2
  exact ⟨by rw [E1.out]; rfl, rfl⟩

/-- Are Join's numbers right? -/
def Jr (a b n : Int) : Prop := (0 ≤ a ∧ a ≤ 1000002) ∧ (0 ≤ b ∧ b ≤ 1000002) ∧ 0 ≤ n ∧ n ≤ 2147483647
set_option maxRecDepth 100000 in
set_option maxHeartbeats 1000000 in
theorem join_bad (a b n : Int) (w : World) (h : ¬ Jr a b n) (ha : Small a) (hb : Small b) (hn : Small n) :
    Calls Tryd.prog 6 #[.int .i64 a, .int .i64 b, .int .i64 n] w fun e w' => e = .returned (.tuple #[.int .i64 0, .iface 36 (.int .i64 1)]) ∧ w = w' := by
  unfold Jr at h
  by_cases h1 : 0 ≤ a ∧ a ≤ 1000002
  · have H1 := Lib.hid (fun W => isSum_true a W h1)
    by_cases h2 : 0 ≤ b ∧ b ≤ 1000002
    · have H2 := Lib.hid (fun W => isSum_true b W h2)
      have H3 := Lib.hid (fun W => within_false n 0 2147483647 W (fun e => h ⟨h1, h2, e⟩) hn ⟨by omega, by omega⟩ ⟨by omega, by omega⟩)
      clear h h1 h2
      go_enter Tryd.func6, Tryd.ntmps6
      go_wp2_with fail
      refine (H1.out _).mono ?_
      rintro e w1 ⟨rfl, rfl⟩
      go_wp2_with fail
      refine (H2.out _).mono ?_
      rintro e w1 ⟨rfl, rfl⟩
      go_wp2_with fail
      refine (H3.out _).mono ?_
      rintro e w1 ⟨rfl, rfl⟩
      go_wp2
      go_ret2
      exact ⟨rfl, rfl⟩
    · have H2 := Lib.hid (fun W => isSum_false b W h2 hb)
      clear h h1 h2
      go_enter Tryd.func6, Tryd.ntmps6
      go_wp2_with fail
      refine (H1.out _).mono ?_
      rintro e w1 ⟨rfl, rfl⟩
      go_wp2_with fail
      refine (H2.out _).mono ?_
      rintro e w1 ⟨rfl, rfl⟩
      go_wp2
      go_ret2
      exact ⟨rfl, rfl⟩
  · have H1 := Lib.hid (fun W => isSum_false a W h1 ha)
    clear h h1
    go_enter Tryd.func6, Tryd.ntmps6
    go_wp2_with fail
    refine (H1.out _).mono ?_
    rintro e w1 ⟨rfl, rfl⟩
    go_wp2
    go_ret2
    exact ⟨rfl, rfl⟩

set_option maxRecDepth 100000 in
set_option maxHeartbeats 1000000 in
theorem roll_ok (s o i n : Nat) (w : World) (hs : s < 1000003) (ho : o < 256) (hi : i < 256) (hn0 : 0 < n) (hn : n ≤ 2147483647) :
    Calls Tryd.prog 9 #[.int .i64 (s : Int), .int .i64 (o : Int), .int .i64 (i : Int), .int .i64 (n : Int)] w fun e w' => e = .returned (.tuple #[.int .i64 (rl s o i n : Int), .nilIface]) ∧ w = w' := by
  obtain ⟨k, rfl⟩ : ∃ k, n = k + 1 := ⟨n - 1, by omega⟩
  have H1 := Lib.hid (fun W => isSum_true s W (by omega))
  have H2 := Lib.hid (fun W => isByte_true o W (by omega))
  have H3 := Lib.hid (fun W => isByte_true i W (by omega))
  have H4 := Lib.hid (fun W => within_true (k + 1 : Nat) 1 2147483647 W (by omega) ⟨by omega, by omega⟩ ⟨by omega, by omega⟩)
  have H5 := Lib.hid (fun W => pow_ok k W (by omega))
  have hg := gone_lt o (k + 1)
  have H6 := Lib.hid (fun W => push_ok (s + 1000003 - gone o (k + 1)) i W (by omega) hi)
  have hp := pw_lt k
  have hm : (o + 1) * pw k ≤ 256 * 1000003 := Nat.mul_le_mul (by omega) (by omega)
  have e0 : gone o (k + 1) = (o + 1) * pw k % 1000003 := rfl
  have E0 : ((o : Int) + 1) * (pw k : Int) = (((o + 1) * pw k : Nat) : Int) := (Int.natCast_mul (o + 1) _).symm
  have E1 : Hid (((o : Int) + 1) * (pw k : Int) % 1000003 = (gone o (k + 1) : Int)) := by
    unfold Hid; rw [E0, e0]; rfl
  have E3 : ((o : Int) + 1) * (pw k : Int) ≤ 256000768 := by omega
  have E4 : 0 ≤ ((o : Int) + 1) * (pw k : Int) := by omega
  have E5 : Hid ((rl s o i (k + 1) : Nat) = ((s + 1000003 - gone o (k + 1)) * 257 + i + 1) % 1000003) := rfl
  clear E0 e0 hm
  generalize rl s o i (k + 1) = R at *
  generalize gone o (k + 1) = g at *
  generalize pw k = p at *
  go_enter Tryd.func9, Tryd.ntmps9
  go_wp2_with fail
  refine (H1.out _).mono ?_
  rintro e w1 ⟨rfl, rfl⟩
  go_wp2_with fail
  refine (H2.out _).mono ?_
  rintro e w1 ⟨rfl, rfl⟩
  go_wp2_with fail
  refine (H3.out _).mono ?_
  rintro e w1 ⟨rfl, rfl⟩
  go_wp2_with fail
  refine (H4.out _).mono ?_
  rintro e w1 ⟨rfl, rfl⟩
  go_wp2_with fail
  refine (H5.out _).mono ?_
  rintro e w1 ⟨rfl, rfl⟩
  go_wp2_with fail
  have hg' : (s : Int) - (g : Int) + 1000003 = ((s + 1000003 - g : Nat) : Int) := by omega
  rw [E1.out, hg']
  clear hg'
  refine (H6.out _).mono ?_
  rintro e w1 ⟨rfl, rfl⟩
  rw [← E5.out]
  go_wp2
  go_ret2
  exact ⟨rfl, rfl⟩

theorem roll_q (s o i n : Nat) (w : World) (hs : s < 1000003) (ho : o < 256) (hi : i < 256) (hn0 : 0 < n) (hn : n ≤ 2147483647) :
    Calls Tryd.prog 9 #[.int .i64 (s : Int), .int .i64 (o : Int), .int .i64 (i : Int), .int .i64 (n : Int)] w fun e w' => e = .returned (.tuple #[.int .i64 (rl s o i n : Int), .nilIface]) ∧ w' = w :=
  (roll_ok s o i n w hs ho hi hn0 hn).mono fun _ _ ⟨he, hw⟩ => ⟨he, hw.symm⟩

/-- Are Roll's numbers right? -/
def Rr (s o i n : Int) : Prop := (0 ≤ s ∧ s ≤ 1000002) ∧ (0 ≤ o ∧ o ≤ 255) ∧ (0 ≤ i ∧ i ≤ 255) ∧ 1 ≤ n ∧ n ≤ 2147483647
set_option maxRecDepth 100000 in
set_option maxHeartbeats 1000000 in
theorem roll_bad (s o i n : Int) (w : World) (h : ¬ Rr s o i n) (hs : Small s) (ho : Small o) (hi : Small i) (hn : Small n) :
    Calls Tryd.prog 9 #[.int .i64 s, .int .i64 o, .int .i64 i, .int .i64 n] w fun e w' => e = .returned (.tuple #[.int .i64 0, .iface 36 (.int .i64 1)]) ∧ w = w' := by
  unfold Rr at h
  by_cases h1 : 0 ≤ s ∧ s ≤ 1000002
  · have H1 := Lib.hid (fun W => isSum_true s W h1)
    by_cases h2 : 0 ≤ o ∧ o ≤ 255
    · have H2 := Lib.hid (fun W => isByte_true o W h2)
      by_cases h3 : 0 ≤ i ∧ i ≤ 255
      · have H3 := Lib.hid (fun W => isByte_true i W h3)
        have H4 := Lib.hid (fun W => within_false n 1 2147483647 W (fun e => h ⟨h1, h2, h3, e⟩) hn ⟨by omega, by omega⟩ ⟨by omega, by omega⟩)
        clear h h1 h2 h3
        go_enter Tryd.func9, Tryd.ntmps9
        go_wp2_with fail
        refine (H1.out _).mono ?_
        rintro e w1 ⟨rfl, rfl⟩
        go_wp2_with fail
        refine (H2.out _).mono ?_
        rintro e w1 ⟨rfl, rfl⟩
        go_wp2_with fail
        refine (H3.out _).mono ?_
        rintro e w1 ⟨rfl, rfl⟩
        go_wp2_with fail
        refine (H4.out _).mono ?_
        rintro e w1 ⟨rfl, rfl⟩
        go_wp2
        go_ret2
        exact ⟨rfl, rfl⟩
      · have H3 := Lib.hid (fun W => isByte_false i W h3 hi)
        clear h h1 h2 h3
        go_enter Tryd.func9, Tryd.ntmps9
        go_wp2_with fail
        refine (H1.out _).mono ?_
        rintro e w1 ⟨rfl, rfl⟩
        go_wp2_with fail
        refine (H2.out _).mono ?_
        rintro e w1 ⟨rfl, rfl⟩
        go_wp2_with fail
        refine (H3.out _).mono ?_
        rintro e w1 ⟨rfl, rfl⟩
        go_wp2
        go_ret2
        exact ⟨rfl, rfl⟩
    · have H2 := Lib.hid (fun W => isByte_false o W h2 ho)
      clear h h1 h2
      go_enter Tryd.func9, Tryd.ntmps9
      go_wp2_with fail
      refine (H1.out _).mono ?_
      rintro e w1 ⟨rfl, rfl⟩
      go_wp2_with fail
      refine (H2.out _).mono ?_
      rintro e w1 ⟨rfl, rfl⟩
      go_wp2
      go_ret2
      exact ⟨rfl, rfl⟩
  · have H1 := Lib.hid (fun W => isSum_false s W h1 hs)
    clear h h1
    go_enter Tryd.func9, Tryd.ntmps9
    go_wp2_with fail
    refine (H1.out _).mono ?_
    rintro e w1 ⟨rfl, rfl⟩
    go_wp2
    go_ret2
    exact ⟨rfl, rfl⟩

theorem ext_front (s : ByteArray) (k : Nat) : (s.extract 0 k).data.toList = s.data.toList.take k := by
  rw [ByteArray.data_extract, Array.toList_extract, List.extract_eq_take_drop]; rfl
theorem ext_back (s : ByteArray) (k : Nat) : (s.extract k s.size).data.toList = s.data.toList.drop k := by
  rw [ByteArray.data_extract, Array.toList_extract, List.extract_eq_take_drop]
  exact List.take_of_length_le (by rw [List.length_drop, data_len]; omega)
theorem bt_in (s : ByteArray) (k : Nat) (h : k < s.size) : ∃ b : UInt8, bt s k = (b.toNat : Int) ∧ s.data.toList = s.data.toList.take k ++ (b :: s.data.toList.drop (k + 1)) := by
  have hl : k < s.data.toList.length := by simpa using h
  refine ⟨s[k], (get_bt s k h).symm, ?_⟩
  have := List.take_append_drop k s.data.toList
  rw [List.drop_eq_getElem_cons hl] at this
  exact this.symm
/-- One byte of a text in another's place. -/
theorem turned (s : ByteArray) (k : Nat) (h : k < s.size) (c : UInt8) :
    (bt s k = (c.toNat : Int) ∧ sm s.data.toList = sm (s.extract 0 k ++ str [c] ++ s.extract (k + 1) s.size).data.toList) ∨
    (bt s k ≠ (c.toNat : Int) ∧ sm s.data.toList ≠ sm (s.extract 0 k ++ str [c] ++ s.extract (k + 1) s.size).data.toList) := by
  obtain ⟨b, hb, hs⟩ := bt_in s k h
  have e : (s.extract 0 k ++ str [c] ++ s.extract (k + 1) s.size).data.toList = s.data.toList.take k ++ (c :: s.data.toList.drop (k + 1)) := by
    simp only [ByteArray.data_append, Array.toList_append, ext_front, ext_back, str_data, List.append_assoc, List.cons_append, List.nil_append]
  have e2 : sm s.data.toList = sm (s.data.toList.take k ++ (b :: s.data.toList.drop (k + 1))) := by rw [← hs]
  rw [e, e2, hb]
  by_cases hc : b = c
  · exact .inl ⟨by rw [hc], by rw [hc]⟩
  · exact .inr ⟨fun h => hc (UInt8.toNat_inj.1 (by omega)), fun h => hc ((sm_one _ _ _ _).1 h)⟩
theorem bt_two (s : ByteArray) (k : Nat) (h : k + 1 < s.size) : ∃ b c : UInt8, bt s k = (b.toNat : Int) ∧ bt s (k + 1) = (c.toNat : Int) ∧ s.data.toList = s.data.toList.take k ++ (b :: c :: s.data.toList.drop (k + 2)) := by
  obtain ⟨b, hb, hs⟩ := bt_in s k (by omega)
  have hl : k + 1 < s.data.toList.length := by simpa using h
  refine ⟨b, s[k + 1], hb, (get_bt s (k + 1) h).symm, ?_⟩
  rw [List.drop_eq_getElem_cons hl] at hs
  exact hs
/-- Two neighbours in each other's place. -/
theorem swapped (s : ByteArray) (k : Nat) (h : k + 1 < s.size) : ∃ b c : UInt8, bt s k = (b.toNat : Int) ∧ bt s (k + 1) = (c.toNat : Int) ∧
    ((b = c ∧ sm s.data.toList = sm (s.extract 0 k ++ str [c, b] ++ s.extract (k + 2) s.size).data.toList) ∨
    (b ≠ c ∧ sm s.data.toList ≠ sm (s.extract 0 k ++ str [c, b] ++ s.extract (k + 2) s.size).data.toList)) := by
  obtain ⟨b, c, hb, hc, hs⟩ := bt_two s k h
  refine ⟨b, c, hb, hc, ?_⟩
  have e : (s.extract 0 k ++ str [c, b] ++ s.extract (k + 2) s.size).data.toList = s.data.toList.take k ++ (c :: b :: s.data.toList.drop (k + 2)) := by
    simp only [ByteArray.data_append, Array.toList_append, ext_front, ext_back, str_data, List.append_assoc, List.cons_append, List.nil_append]
  have e2 : sm s.data.toList = sm (s.data.toList.take k ++ (b :: c :: s.data.toList.drop (k + 2))) := by rw [← hs]
  rw [e, e2]
  by_cases hbc : b = c
  · exact .inl ⟨hbc, by rw [hbc]⟩
  · exact .inr ⟨hbc, fun h => hbc ((sm_swap _ _ _ _).1 h)⟩
theorem ext_mid (s : ByteArray) (p k : Nat) : (s.extract p k).data.toList = (s.data.toList.drop p).take (k - p) := by
  rw [ByteArray.data_extract, Array.toList_extract, List.extract_eq_take_drop]
/-- A window that moves by one byte. -/
theorem window (s : ByteArray) (p n k : Nat) (hk : k = p + n) (hn : 0 < n) (hs : k < s.size) : ∃ o c : UInt8, bt s p = (o.toNat : Int) ∧ bt s k = (c.toNat : Int) ∧
    rl (sm (s.extract p k).data.toList) o.toNat c.toNat n = sm (s.extract (p + 1) (k + 1)).data.toList := by
  have hl : p < s.data.toList.length := by rw [data_len]; omega
  have hl2 : k < s.data.toList.length := by rw [data_len]; omega
  refine ⟨s[p], s[k], (get_bt s p (by omega)).symm, (get_bt s k hs).symm, ?_⟩
  obtain ⟨j, rfl⟩ : ∃ j, n = j + 1 := ⟨n - 1, by omega⟩
  have h1 : (s.extract p k).data.toList = s.data.toList[p] :: (s.data.toList.drop (p + 1)).take j := by
    rw [ext_mid, List.drop_eq_getElem_cons hl, show k - p = j + 1 from by omega, List.take_succ_cons]
  have hj : j < (s.data.toList.drop (p + 1)).length := by rw [List.length_drop]; omega
  have h2 : (s.extract (p + 1) (k + 1)).data.toList = (s.data.toList.drop (p + 1)).take j ++ [s.data.toList[k]] := by
    rw [ext_mid, show k + 1 - (p + 1) = j + 1 from by omega, ← List.take_append_getElem hj, List.getElem_drop]
    congr 3
    omega
  have hlen : ((s.data.toList.drop (p + 1)).take j).length = j := by rw [List.length_take]; omega
  have := rl_window s.data.toList[p] s.data.toList[k] ((s.data.toList.drop (p + 1)).take j)
  rw [hlen] at this
  rw [h1, h2, ← this]
  rfl

/-- Of, at the closed texts of the laws. -/
theorem of_ab (w : World) : Calls Tryd.prog 4 #[.string ⟨#[97, 98]⟩] w fun e w' => e = .returned (.int .i64 25285) ∧ w = w' :=
  of_ok ⟨#[97, 98]⟩ w (by decide)
theorem of_ac (w : World) : Calls Tryd.prog 4 #[.string ⟨#[97, 99]⟩] w fun e w' => e = .returned (.int .i64 25286) ∧ w = w' :=
  of_ok ⟨#[97, 99]⟩ w (by decide)
theorem of_ba (w : World) : Calls Tryd.prog 4 #[.string ⟨#[98, 97]⟩] w fun e w' => e = .returned (.int .i64 25541) ∧ w = w' :=
  of_ok ⟨#[98, 97]⟩ w (by decide)
end Go.Proofs.YtplimhmdhgkplaaDoor.Sm
