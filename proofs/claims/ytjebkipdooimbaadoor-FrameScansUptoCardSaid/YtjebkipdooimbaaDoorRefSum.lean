/- The walks of the reference's sums: powers by thirds, sums from the end, joined and rolled. -/
import Derived.Test.YtjebkipdooimbaaDoorSumW
namespace Go.Proofs.YtjebkipdooimbaaDoor.Sm
open Go.RowKit Go.IntWalk Go.PlainAid Go.Proofs.YtjebkipdooimbaaDoor.Wd

set_option maxRecDepth 100000 in
set_option maxHeartbeats 1000000 in
theorem refSum_any (s : ByteArray) (w : World) (hs : s.size ≤ maxLen) :
    Calls Tryd.prog 21 #[.string s] w fun e w' => Hid (e = .returned (.int .i64 (sm s.data.toList : Int))) ∧ w = w' := by
  unfold maxLen at hs
  have hbt := get_bt s
  go_enter Tryd.func21, Tryd.ntmps21
  go_wp2
  go_loop [3, 4, 5] (fun a b c => ∃ (k x y : Nat), k ≤ s.size ∧ x < 1000003 ∧ y < 1000003 ∧ a = .int .i64 x ∧ b = .int .i64 y ∧ c = .int .i64 ((k : Int) - 1) ∧ Hid (x = sm (s.data.toList.drop k)) ∧ Hid (y = pw (s.size - k))) (fun _ _ c => (intOf c + 1).toNat)
  case atStart => exact ⟨s.size, 0, 1, by omega, by omega, by omega, rfl, rfl, rfl, by show _ = _; rw [List.drop_of_length_le (by rw [data_len]; omega)]; rfl, by show _ = _; rw [Nat.sub_self]; rfl⟩
  case round =>
    obtain ⟨k, x, y, hk, hx, hy, rfl, rfl, rfl, HX, HY⟩ := hrel
    by_cases h0 : 0 < k
    · obtain ⟨j, rfl⟩ : ∃ j, k = j + 1 := ⟨k - 1, by omega⟩
      have e1 : ((j + 1 : Nat) : Int) - 1 = (j : Int) := by omega
      rw [e1]
      clear e1
      obtain ⟨c, hc, hl⟩ := bt_in s j (by omega)
      have hd : s.data.toList.drop j = c :: s.data.toList.drop (j + 1) := by
        have hjl : j < s.data.toList.length := by rw [data_len]; omega
        have h2 := congrArg (List.drop j) hl
        rw [List.drop_left' (by rw [List.length_take]; omega)] at h2
        exact h2
      have hlen : (s.data.toList.drop (j + 1)).length = s.size - (j + 1) := by rw [List.length_drop, data_len]
      have HN : Hid ((x + (c.toNat + 1) * y) % 1000003 = sm (s.data.toList.drop j)) := by
        show _ = _
        rw [hd, sm_cons, hlen, ← HX.out, ← HY.out]
      have HM : Hid (y * 257 % 1000003 = pw (s.size - j)) := by
        show _ = _
        rw [show s.size - j = s.size - (j + 1) + 1 from by omega, pw_succ, ← HY.out]
      have hc2 := c.toNat_lt
      clear hd hl hlen
      generalize c.toNat = b at *
      have hm : (b + 1) * y ≤ 256 * 1000003 := Nat.mul_le_mul (by omega) (by omega)
      have E0 : ((b : Int) + 1) * (y : Int) = (((b + 1) * y : Nat) : Int) := (Int.natCast_mul (b + 1) _).symm
      have E1 : Hid (((x : Int) + ((b : Int) + 1) * (y : Int)) % 1000003 = (((x + (b + 1) * y) % 1000003 : Nat) : Int)) := by
        show _ = _; rw [E0]; rfl
      have E3 : ((b : Int) + 1) * (y : Int) ≤ 256000768 := by omega
      have E4 : 0 ≤ ((b : Int) + 1) * (y : Int) := by omega
      have hj1 : (j : Int) < (s.size : Int) := by omega
      clear E0 hm
      go_wp2
      go_round
      case rel => exact ⟨j, (x + (b + 1) * y) % 1000003, y * 257 % 1000003, by omega, Nat.mod_lt _ (by omega), Nat.mod_lt _ (by omega), by rw [E1.out], by go_num, by go_num, HN, HM⟩
      case measure => simp [intOf]
    · obtain rfl : k = 0 := by omega
      have HE : Hid (x = sm s.data.toList) := HX.out
      go_wp2
      go_ret
      exact ⟨by rw [← HE.out]; rfl, rfl⟩
theorem refSum_ok (s : ByteArray) (w : World) (hs : s.size ≤ maxLen) :
    Calls Tryd.prog 21 #[.string s] w fun e w' => e = .returned (.int .i64 (sm s.data.toList : Int)) ∧ w = w' :=
  (refSum_any s w hs).mono fun _ _ ⟨he, hw⟩ => ⟨he.out, hw⟩

theorem twice (L : Int) (h1 : -4611686018427387904 ≤ L) (h2 : L ≤ 4611686018427387904) : (wrap64 (L.tmod 1000003 + 1000003)).tmod 1000003 = L % 1000003 := by
  have hb : -1000003 < L.tmod 1000003 ∧ L.tmod 1000003 < 1000003 ∧ (L.tmod 1000003 + 1000003) % 1000003 = L % 1000003 := by
    by_cases h : 0 ≤ L
    · rw [Int.tmod_eq_emod_of_nonneg h]
      omega
    · have e : L.tmod 1000003 = -((-L).tmod 1000003) := by rw [Int.neg_tmod, Int.neg_neg]
      rw [e, Int.tmod_eq_emod_of_nonneg (show 0 ≤ -L by omega)]
      omega
  obtain ⟨a, b, c⟩ := hb
  rw [wrap64_in _ ⟨by omega, by omega⟩, Int.tmod_eq_emod_of_nonneg (by omega), c]

end Go.Proofs.YtjebkipdooimbaaDoor.Sm
