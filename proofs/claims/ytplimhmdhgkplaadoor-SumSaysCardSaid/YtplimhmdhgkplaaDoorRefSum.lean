/- The walks of the reference's sums: powers by thirds, sums from the end, joined and rolled. -/
import Derived.Test.YtplimhmdhgkplaaDoorSumW
namespace Go.Proofs.YtplimhmdhgkplaaDoor.Sm
open Go.RowKit Go.IntWalk Go.PlainAid Go.Proofs.YtplimhmdhgkplaaDoor.Wd

set_option maxHeartbeats 1000000 in
theorem in_ok (n a b : Int) (w : World) (hn : Small n) (ha : Small a) (hb : Small b) :
    Calls Tryd.prog 15 #[.int .i64 n, .int .i64 a, .int .i64 b] w fun e w' => e = .returned (.bool (decide (a ≤ n ∧ n ≤ b))) ∧ w = w' := by
  obtain ⟨h1, h2⟩ := hn
  obtain ⟨h3, h4⟩ := ha
  obtain ⟨h5, h6⟩ := hb
  by_cases h : a ≤ n
  · by_cases h' : n ≤ b
    · rw [decide_eq_true ⟨h, h'⟩]
      go_enter Tryd.func15, Tryd.ntmps15
      go_wp2
      go_ret
      exact ⟨rfl, rfl⟩
    · rw [decide_eq_false (fun e => h' e.2)]
      go_enter Tryd.func15, Tryd.ntmps15
      go_wp2
      go_ret
      exact ⟨rfl, rfl⟩
  · rw [decide_eq_false (fun e => h e.1)]
    go_enter Tryd.func15, Tryd.ntmps15
    go_wp2
    go_ret
    exact ⟨rfl, rfl⟩
theorem in_true (n a b : Int) (W : World) (h : a ≤ n ∧ n ≤ b) (ha : Small a) (hb : Small b) : Calls Tryd.prog 15 #[.int .i64 n, .int .i64 a, .int .i64 b] W fun e w' => e = .returned (.bool true) ∧ W = w' := by
  obtain ⟨h1, h2⟩ := ha
  obtain ⟨h3, h4⟩ := hb
  have := in_ok n a b W ⟨by omega, by omega⟩ ⟨h1, h2⟩ ⟨h3, h4⟩
  rwa [decide_eq_true h] at this
theorem in_false (n a b : Int) (W : World) (h : ¬ (a ≤ n ∧ n ≤ b)) (hn : Small n) (ha : Small a) (hb : Small b) : Calls Tryd.prog 15 #[.int .i64 n, .int .i64 a, .int .i64 b] W fun e w' => e = .returned (.bool false) ∧ W = w' := by
  have := in_ok n a b W hn ha hb
  rwa [decide_eq_false h] at this

set_option maxRecDepth 100000 in
set_option maxHeartbeats 1000000 in
theorem refPower_any (n : Nat) : ∀ (w : World), n ≤ 2147483647 →
    Calls Tryd.prog 16 #[.int .i64 (n : Int)] w fun e w' => Hid (e = .returned (.int .i64 (pw n : Int))) ∧ w = w' := by
  induction n using Nat.strongRecOn with
  | _ n ih =>
    intro w hn
    by_cases h0 : n = 0
    · subst h0
      go_enter Tryd.func16, Tryd.ntmps16
      go_wp2
      go_ret
      exact ⟨by rw [pw_zero]; rfl, rfl⟩
    · have HI := Lib.hid (fun W => (ih (n / 3) (by omega) W (by omega)).mono fun _ _ ⟨he, hw⟩ => (⟨he.out, hw⟩ : _ = Ending.returned (.int .i64 (pw (n / 3) : Int)) ∧ W = _))
      have ht := pw_lt (n / 3)
      have hS : pw (n / 3) * pw (n / 3) % 1000003 * pw (n / 3) % 1000003 = pw (3 * (n / 3) + 0) := by rw [Nat.add_zero, pw_third]
      have HS := Lib.hid hS
      have HE : Hid (3 * (n / 3) + n % 3 = n) := by show _ = _; omega
      clear ih hS
      have hne : ((n : Int) == 0) = false := by simp; omega
      generalize pw (n / 3) = t at *
      have hm : t * t % 1000003 < 1000003 := Nat.mod_lt _ (by omega)
      have H1 := Lib.hid (mod_mul t t ht ht)
      have H2 := Lib.hid (mod_mul _ t hm ht)
      have h1n : 1 ≤ n := by omega
      clear h0
      go_enter Tryd.func16, Tryd.ntmps16
      go_wp2_with fail
      rw [show (n : Int) / 3 = ((n / 3 : Nat) : Int) from rfl]
      refine (HI.out _).mono ?_
      rintro e w1 ⟨rfl, rfl⟩
      go_wp2
      go_loop [4, 5] (fun a b => ∃ (i p : Nat), i ≤ n % 3 ∧ p < 1000003 ∧ a = .int .i64 p ∧ b = .int .i64 i ∧ Hid (p = pw (3 * (n / 3) + i))) (fun _ b => n % 3 - (intOf b).toNat)
      case atStart => 
        refine ⟨0, t * t % 1000003 * t % 1000003, by omega, Nat.mod_lt _ (by omega), ?_, rfl, HS.out⟩
        have h1 := H1.out
        have h2 := H2.out
        first | rfl | (rw [h1, h2])
      case round =>
        obtain ⟨i, p, hi, hp, rfl, rfl, HP⟩ := hrel
        by_cases hlt : i < n % 3
        · have HN : Hid (p * 257 % 1000003 = pw (3 * (n / 3) + (i + 1))) := by
            show _ = _
            rw [← Nat.add_assoc, pw_succ, ← HP.out]
          go_wp2
          go_round
          case rel => exact ⟨i + 1, p * 257 % 1000003, by omega, Nat.mod_lt _ (by omega), by go_num, by go_num, HN⟩
          case measure => simp [intOf]; omega
        · obtain rfl : i = n % 3 := by omega
          have HQ : Hid (p = pw n) := by
            have := HP.out
            rwa [HE.out] at this
          go_wp2
          go_ret
          exact ⟨by rw [← HQ.out]; rfl, rfl⟩
theorem refPow_ok (n : Nat) (w : World) (hn : n ≤ 2147483647) :
    Calls Tryd.prog 16 #[.int .i64 (n : Int)] w fun e w' => e = .returned (.int .i64 (pw n : Int)) ∧ w = w' :=
  (refPower_any n w hn).mono fun _ _ ⟨he, hw⟩ => ⟨he.out, hw⟩

set_option maxRecDepth 100000 in
set_option maxHeartbeats 1000000 in
theorem refSum_any (s : ByteArray) (w : World) (hs : s.size ≤ maxLen) :
    Calls Tryd.prog 5 #[.string s] w fun e w' => Hid (e = .returned (.int .i64 (sm s.data.toList : Int))) ∧ w = w' := by
  unfold maxLen at hs
  have hbt := get_bt s
  go_enter Tryd.func5, Tryd.ntmps5
  go_wp2
  go_loop [3, 4, 5] (fun a b c => ∃ (k x y : Nat), k ≤ s.size ∧ x < 1000003 ∧ y < 1000003 ∧ a = .int .i64 x ∧ b = .int .i64 y ∧ c = .int .i64 ((k : Int) - 1) ∧ Hid (x = sm (s.data.toList.drop k)) ∧ Hid (y = pw (s.size - k))) (fun _ _ c => (intOf c + 1).toNat)
  case atStart => exact ⟨s.size, 0, 1, by omega, by omega, by omega, rfl, rfl, rfl, by show _ = _; rw [List.drop_of_length_le (by rw [data_len]; omega)]; rfl, by show _ = _; rw [Nat.sub_self]; rfl⟩
  case round =>
    obtain ⟨k, x, y, hk, hx, hy, rfl, rfl, rfl, HX, HY⟩ := hrel
    by_cases h0 : 0 < k
    · obtain ⟨j, rfl⟩ : ∃ j, k = j + 1 := ⟨k - 1, by omega⟩
      have e1 : ((j + 1 : Nat) : Int) - 1 = (j : Int) := by omega
      rw [e1]
      clear e1
      obtain ⟨c, hc, hl⟩ := bt_in s j (by omega)
      have hd : s.data.toList.drop j = c :: s.data.toList.drop (j + 1) := by
        have hjl : j < s.data.toList.length := by rw [data_len]; omega
        have h2 := congrArg (List.drop j) hl
        rw [List.drop_left' (by rw [List.length_take]; omega)] at h2
        exact h2
      have hlen : (s.data.toList.drop (j + 1)).length = s.size - (j + 1) := by rw [List.length_drop, data_len]
      have HN : Hid ((x + (c.toNat + 1) * y) % 1000003 = sm (s.data.toList.drop j)) := by
        show _ = _
        rw [hd, sm_cons, hlen, ← HX.out, ← HY.out]
      have HM : Hid (y * 257 % 1000003 = pw (s.size - j)) := by
        show _ = _
        rw [show s.size - j = s.size - (j + 1) + 1 from by omega, pw_succ, ← HY.out]
      have hc2 := c.toNat_lt
      clear hd hl hlen
      generalize c.toNat = b at *
      have hm : (b + 1) * y ≤ 256 * 1000003 := Nat.mul_le_mul (by omega) (by omega)
      have E0 : ((b : Int) + 1) * (y : Int) = (((b + 1) * y : Nat) : Int) := (Int.natCast_mul (b + 1) _).symm
      have E1 : Hid (((x : Int) + ((b : Int) + 1) * (y : Int)) % 1000003 = (((x + (b + 1) * y) % 1000003 : Nat) : Int)) := by
        show _ = _; rw [E0]; rfl
      have E3 : ((b : Int) + 1) * (y : Int) ≤ 256000768 := by omega
      have E4 : 0 ≤ ((b : Int) + 1) * (y : Int) := by omega
      have hj1 : (j : Int) < (s.size : Int) := by omega
      clear E0 hm
      go_wp2
      go_round
      case rel => exact ⟨j, (x + (b + 1) * y) % 1000003, y * 257 % 1000003, by omega, Nat.mod_lt _ (by omega), Nat.mod_lt _ (by omega), by rw [E1.out], by go_num, by go_num, HN, HM⟩
      case measure => simp [intOf]
    · obtain rfl : k = 0 := by omega
      have HE : Hid (x = sm s.data.toList) := HX.out
      go_wp2
      go_ret
      exact ⟨by rw [← HE.out]; rfl, rfl⟩
theorem refSum_ok (s : ByteArray) (w : World) (hs : s.size ≤ maxLen) :
    Calls Tryd.prog 5 #[.string s] w fun e w' => e = .returned (.int .i64 (sm s.data.toList : Int)) ∧ w = w' :=
  (refSum_any s w hs).mono fun _ _ ⟨he, hw⟩ => ⟨he.out, hw⟩

set_option maxRecDepth 100000 in
set_option maxHeartbeats 1000000 in
theorem refJoin_ok (a b n : Nat) (w : World) (ha : a < 1000003) (hb : b < 1000003) (hn : n ≤ 2147483647) :
    Calls Tryd.prog 7 #[.int .i64 (a : Int), .int .i64 (b : Int), .int .i64 (n : Int)] w fun e w' => e = .returned (.tuple #[.int .i64 (jn a b n : Int), .int .i64 0]) ∧ w = w' := by
  have H1 := Lib.hid (fun W => in_true a 0 1000002 W (by omega) ⟨by omega, by omega⟩ ⟨by omega, by omega⟩)
  have H2 := Lib.hid (fun W => in_true b 0 1000002 W (by omega) ⟨by omega, by omega⟩ ⟨by omega, by omega⟩)
  have H3 := Lib.hid (fun W => in_true n 0 2147483647 W (by omega) ⟨by omega, by omega⟩ ⟨by omega, by omega⟩)
  have H4 := Lib.hid (fun W => refPow_ok n W hn)
  have hp := pw_lt n
  have hm := mul_lt a (pw n) ha hp
  have E1 : Hid (((a : Int) * (pw n : Int) + b) % 1000003 = (jn a b n : Int)) := by
    unfold Hid jn
    rw [← Int.natCast_mul]; rfl
  have E2 : ((a : Int) * (pw n : Int)) = ((a * pw n : Nat) : Int) := (Int.natCast_mul _ _).symm
  have E3 : ((a : Int) * (pw n : Int)) < 1000006000009 := by omega
  have E4 : 0 ≤ ((a : Int) * (pw n : Int)) := by omega
  clear E2 hm
  generalize jn a b n = R at *
  generalize pw n = p at *
  go_enter Tryd.func7, Tryd.ntmps7
  go_wp2_with fail
  refine (H1.out _).mono ?_
  rintro e w1 ⟨rfl, rfl⟩
  go_wp2_with fail
  refine (H2.out _).mono ?_
  rintro e w1 ⟨rfl, rfl⟩
  go_wp2_with fail
  refine (H3.out _).mono ?_
  rintro e w1 ⟨rfl, rfl⟩
  go_wp2_with fail
  refine (H4.out _).mono ?_
  rintro e w1 ⟨rfl, rfl⟩
  go_wp2
  go_ret2
  exact ⟨by rw [E1.out]; rfl, rfl⟩

set_option maxRecDepth 100000 in
set_option maxHeartbeats 1000000 in
theorem refJoin_bad (a b n : Int) (w : World) (h : ¬ Jr a b n) (ha : Small a) (hb : Small b) (hn : Small n) :
    Calls Tryd.prog 7 #[.int .i64 a, .int .i64 b, .int .i64 n] w fun e w' => e = .returned (.tuple #[.int .i64 0, .int .i64 1]) ∧ w = w' := by
  unfold Jr at h
  by_cases h1 : 0 ≤ a ∧ a ≤ 1000002
  · have H1 := Lib.hid (fun W => in_true a 0 1000002 W h1 ⟨by omega, by omega⟩ ⟨by omega, by omega⟩)
    by_cases h2 : 0 ≤ b ∧ b ≤ 1000002
    · have H2 := Lib.hid (fun W => in_true b 0 1000002 W h2 ⟨by omega, by omega⟩ ⟨by omega, by omega⟩)
      have H3 := Lib.hid (fun W => in_false n 0 2147483647 W (fun e => h ⟨h1, h2, e⟩) hn ⟨by omega, by omega⟩ ⟨by omega, by omega⟩)
      clear h h1 h2
      go_enter Tryd.func7, Tryd.ntmps7
      go_wp2_with fail
      refine (H1.out _).mono ?_
      rintro e w1 ⟨rfl, rfl⟩
      go_wp2_with fail
      refine (H2.out _).mono ?_
      rintro e w1 ⟨rfl, rfl⟩
      go_wp2_with fail
      refine (H3.out _).mono ?_
      rintro e w1 ⟨rfl, rfl⟩
      go_wp2
      go_ret2
      exact ⟨rfl, rfl⟩
    · have H2 := Lib.hid (fun W => in_false b 0 1000002 W h2 hb ⟨by omega, by omega⟩ ⟨by omega, by omega⟩)
      clear h h1 h2
      go_enter Tryd.func7, Tryd.ntmps7
      go_wp2_with fail
      refine (H1.out _).mono ?_
      rintro e w1 ⟨rfl, rfl⟩
      go_wp2_with fail
      refine (H2.out _).mono ?_
      rintro e w1 ⟨rfl, rfl⟩
      go_wp2
      go_ret2
      exact ⟨rfl, rfl⟩
  · have H1 := Lib.hid (fun W => in_false a 0 1000002 W h1 ha ⟨by omega, by omega⟩ ⟨by omega, by omega⟩)
    clear h h1
    go_enter Tryd.func7, Tryd.ntmps7
    go_wp2_with fail
    refine (H1.out _).mono ?_
    rintro e w1 ⟨rfl, rfl⟩
    go_wp2
    go_ret2
    exact ⟨rfl, rfl⟩

set_option maxRecDepth 100000 in
set_option maxHeartbeats 1000000 in
theorem refRoll_bad (s o i n : Int) (w : World) (h : ¬ Rr s o i n) (hs : Small s) (ho : Small o) (hi : Small i) (hn : Small n) :
    Calls Tryd.prog 10 #[.int .i64 s, .int .i64 o, .int .i64 i, .int .i64 n] w fun e w' => e = .returned (.tuple #[.int .i64 0, .int .i64 1]) ∧ w = w' := by
  unfold Rr at h
  by_cases h1 : 0 ≤ s ∧ s ≤ 1000002
  · have H1 := Lib.hid (fun W => in_true s 0 1000002 W h1 ⟨by omega, by omega⟩ ⟨by omega, by omega⟩)
    by_cases h2 : 0 ≤ o ∧ o ≤ 255
    · have H2 := Lib.hid (fun W => in_true o 0 255 W h2 ⟨by omega, by omega⟩ ⟨by omega, by omega⟩)
      by_cases h3 : 0 ≤ i ∧ i ≤ 255
      · have H3 := Lib.hid (fun W => in_true i 0 255 W h3 ⟨by omega, by omega⟩ ⟨by omega, by omega⟩)
        have H4 := Lib.hid (fun W => in_false n 1 2147483647 W (fun e => h ⟨h1, h2, h3, e⟩) hn ⟨by omega, by omega⟩ ⟨by omega, by omega⟩)
        clear h h1 h2 h3
        go_enter Tryd.func10, Tryd.ntmps10
        go_wp2_with fail
        refine (H1.out _).mono ?_
        rintro e w1 ⟨rfl, rfl⟩
        go_wp2_with fail
        refine (H2.out _).mono ?_
        rintro e w1 ⟨rfl, rfl⟩
        go_wp2_with fail
        refine (H3.out _).mono ?_
        rintro e w1 ⟨rfl, rfl⟩
        go_wp2_with fail
        refine (H4.out _).mono ?_
        rintro e w1 ⟨rfl, rfl⟩
        go_wp2
        go_ret2
        exact ⟨rfl, rfl⟩
      · have H3 := Lib.hid (fun W => in_false i 0 255 W h3 hi ⟨by omega, by omega⟩ ⟨by omega, by omega⟩)
        clear h h1 h2 h3
        go_enter Tryd.func10, Tryd.ntmps10
        go_wp2_with fail
        refine (H1.out _).mono ?_
        rintro e w1 ⟨rfl, rfl⟩
        go_wp2_with fail
        refine (H2.out _).mono ?_
        rintro e w1 ⟨rfl, rfl⟩
        go_wp2_with fail
        refine (H3.out _).mono ?_
        rintro e w1 ⟨rfl, rfl⟩
        go_wp2
        go_ret2
        exact ⟨rfl, rfl⟩
    · have H2 := Lib.hid (fun W => in_false o 0 255 W h2 ho ⟨by omega, by omega⟩ ⟨by omega, by omega⟩)
      clear h h1 h2
      go_enter Tryd.func10, Tryd.ntmps10
      go_wp2_with fail
      refine (H1.out _).mono ?_
      rintro e w1 ⟨rfl, rfl⟩
      go_wp2_with fail
      refine (H2.out _).mono ?_
      rintro e w1 ⟨rfl, rfl⟩
      go_wp2
      go_ret2
      exact ⟨rfl, rfl⟩
  · have H1 := Lib.hid (fun W => in_false s 0 1000002 W h1 hs ⟨by omega, by omega⟩ ⟨by omega, by omega⟩)
    clear h h1
    go_enter Tryd.func10, Tryd.ntmps10
    go_wp2_with fail
    refine (H1.out _).mono ?_
    rintro e w1 ⟨rfl, rfl⟩
    go_wp2
    go_ret2
    exact ⟨rfl, rfl⟩

theorem twice (L : Int) (h1 : -4611686018427387904 ≤ L) (h2 : L ≤ 4611686018427387904) : (wrap64 (L.tmod 1000003 + 1000003)).tmod 1000003 = L % 1000003 := by
  have hb : -1000003 < L.tmod 1000003 ∧ L.tmod 1000003 < 1000003 ∧ (L.tmod 1000003 + 1000003) % 1000003 = L % 1000003 := by
    by_cases h : 0 ≤ L
    · rw [Int.tmod_eq_emod_of_nonneg h]
      omega
    · have e : L.tmod 1000003 = -((-L).tmod 1000003) := by rw [Int.neg_tmod, Int.neg_neg]
      rw [e, Int.tmod_eq_emod_of_nonneg (show 0 ≤ -L by omega)]
      omega
  obtain ⟨a, b, c⟩ := hb
  rw [wrap64_in _ ⟨by omega, by omega⟩, Int.tmod_eq_emod_of_nonneg (by omega), c]

set_option maxRecDepth 100000 in
set_option maxHeartbeats 1000000 in
theorem refRoll_ok (s o i n : Nat) (w : World) (hs : s < 1000003) (ho : o < 256) (hi : i < 256) (hn0 : 0 < n) (hn : n ≤ 2147483647) :
    Calls Tryd.prog 10 #[.int .i64 (s : Int), .int .i64 (o : Int), .int .i64 (i : Int), .int .i64 (n : Int)] w fun e w' => e = .returned (.tuple #[.int .i64 (rl s o i n : Int), .int .i64 0]) ∧ w = w' := by
  have H1 := Lib.hid (fun W => in_true s 0 1000002 W (by omega) ⟨by omega, by omega⟩ ⟨by omega, by omega⟩)
  have H2 := Lib.hid (fun W => in_true o 0 255 W (by omega) ⟨by omega, by omega⟩ ⟨by omega, by omega⟩)
  have H3 := Lib.hid (fun W => in_true i 0 255 W (by omega) ⟨by omega, by omega⟩ ⟨by omega, by omega⟩)
  have H4 := Lib.hid (fun W => in_true n 1 2147483647 W (by omega) ⟨by omega, by omega⟩ ⟨by omega, by omega⟩)
  have H5 := Lib.hid (fun W => refPow_ok n W hn)
  have HR := Lib.hid (rl_whole s o i n hn0)
  have hp := pw_lt n
  have hm : (o + 1) * pw n ≤ 256 * 1000003 := Nat.mul_le_mul (by omega) (by omega)
  have E0 : ((o : Int) + 1) * (pw n : Int) = (((o + 1) * pw n : Nat) : Int) := (Int.natCast_mul (o + 1) _).symm
  have hg : (o + 1) * pw n % 1000003 < 1000003 := Nat.mod_lt _ (by omega)
  have E1 : Hid (((o : Int) + 1) * (pw n : Int) % 1000003 = (((o + 1) * pw n % 1000003 : Nat) : Int)) := by
    show _ = _; rw [E0]; rfl
  have E3 : ((o : Int) + 1) * (pw n : Int) ≤ 256000768 := by omega
  have E4 : 0 ≤ ((o : Int) + 1) * (pw n : Int) := by omega
  clear E0 hm
  generalize rl s o i n = R at *
  generalize (o + 1) * pw n % 1000003 = g at *
  generalize pw n = p at *
  go_enter Tryd.func10, Tryd.ntmps10
  go_wp2_with fail
  refine (H1.out _).mono ?_
  rintro e w1 ⟨rfl, rfl⟩
  go_wp2_with fail
  refine (H2.out _).mono ?_
  rintro e w1 ⟨rfl, rfl⟩
  go_wp2_with fail
  refine (H3.out _).mono ?_
  rintro e w1 ⟨rfl, rfl⟩
  go_wp2_with fail
  refine (H4.out _).mono ?_
  rintro e w1 ⟨rfl, rfl⟩
  go_wp2_with fail
  refine (H5.out _).mono ?_
  rintro e w1 ⟨rfl, rfl⟩
  go_wp2
  rw [E1.out, twice _ (by omega) (by omega), ← HR.out]
  go_ret2
  exact ⟨rfl, rfl⟩
end Go.Proofs.YtplimhmdhgkplaaDoor.Sm
