/- The walks of package pack's readers: what ReadNum and ReadList return, by plain base-128 digits. -/
import Derived.Test.YtjebkipdooimbaaDoorPackW
import Derived.Deep.QuietTactic
import Derived.BigQuiet
import Derived.PlainAid
namespace Go.Proofs.YtjebkipdooimbaaDoor.Pk
open Go.RowKit Go.IntWalk Go.PlainAid Go.Proofs.YtjebkipdooimbaaDoor.Wd

theorem or_nat (a b : Nat) (ha : a < 9223372036854775808) (hb : b < 9223372036854775808) : bits .or .i64 (a : Int) (b : Int) = ((a ||| b : Nat) : Int) := by
  have hx : a ||| b < 2 ^ 63 := Nat.or_lt_two_pow (by omega) (by omega)
  have h (c : Nat) (hc : c < 9223372036854775808) : (BitVec.ofInt 64 (c : Int)).toNat = c := by
    rw [BitVec.ofInt_natCast, BitVec.toNat_ofNat]; exact Nat.mod_eq_of_lt (by omega)
  show IntKind.i64.wrap ((BitVec.ofInt 64 (a : Int) ||| BitVec.ofInt 64 (b : Int)).toNat : Int) = _
  rw [BitVec.toNat_or, h a ha, h b hb]
  exact IntWalk.i64_in _ ⟨by omega, by omega⟩
/-- The bits of a digit fall where the number has none. -/
theorem or_digit (v x k : Nat) (hk : k ≤ 8) (hv : v < 128 ^ k) (hx : x < 128) :
    bits .or .i64 (v : Int) (wrap64 ((x : Int) * 2 ^ (7 * k))) = ((v + 128 ^ k * x : Nat) : Int) := by
  have e : (2 : Nat) ^ (7 * k) = 128 ^ k := by rw [Nat.pow_mul]
  have hp : 128 ^ k * 128 ≤ 9223372036854775808 := by
    have h1 : 128 ^ k ≤ 128 ^ 8 := Nat.pow_le_pow_right (by omega) hk
    have h2 : 128 ^ 8 * 128 = 9223372036854775808 := by decide
    omega
  have hm : 128 ^ k * x + 128 ^ k ≤ 128 ^ k * 128 := by
    rw [← Nat.mul_succ]; exact Nat.mul_le_mul_left _ hx
  have e2 : wrap64 ((x : Int) * 2 ^ (7 * k)) = ((128 ^ k * x : Nat) : Int) := by
    have e3 : (x : Int) * 2 ^ (7 * k) = ((128 ^ k * x : Nat) : Int) := by
      rw [Nat.mul_comm (128 ^ k) x, Int.natCast_mul, ← e, Int.natCast_pow]
      rfl
    rw [e3]
    exact wrap64_in _ ⟨by omega, by omega⟩
  have ho : (v ||| 128 ^ k * x) = v + 128 ^ k * x := by
    rw [← e, Nat.or_comm, ← Nat.two_pow_add_eq_or_of_lt (by rw [e]; exact hv) x, Nat.add_comm]
  rw [e2, or_nat _ _ (by omega) (by omega), ho]
/-- The same in the reader's own words: all before place k is high. -/
def Upto (s : ByteArray) (k v : Nat) : Prop := v = val (s.data.toList.take k) ∧ ∀ c ∈ s.data.toList.take k, 128 ≤ c.toNat
theorem bt_at (s : ByteArray) (k : Nat) (h : k < s.size) : ∃ b : UInt8, bt s k = (b.toNat : Int) ∧ s.data.toList = s.data.toList.take k ++ b :: s.data.toList.drop (k + 1) := by
  refine ⟨s[k], (get_bt s k h).symm, ?_⟩
  have hl : k < s.data.toList.length := by simpa using h
  have := List.take_append_drop k s.data.toList
  rw [List.drop_eq_getElem_cons hl] at this
  exact this.symm
theorem upto_lt {s : ByteArray} {k v : Nat} (h : Upto s k v) (hk : k ≤ s.size) : v < 128 ^ k := by
  have := val_lt (s.data.toList.take k)
  rw [List.length_take, Nat.min_eq_left (by simpa using hk)] at this
  rw [h.1]; exact this
theorem take_snoc {s : ByteArray} {k : Nat} {b : UInt8} (h : k < s.size) (hs : s.data.toList = s.data.toList.take k ++ b :: s.data.toList.drop (k + 1)) : s.data.toList.take (k + 1) = s.data.toList.take k ++ [b] := by
  have hl : (s.data.toList.take k).length = k := by rw [List.length_take]; exact Nat.min_eq_left (by simpa using Nat.le_of_lt h)
  have : s.data.toList.take (k + 1) = (s.data.toList.take k ++ b :: s.data.toList.drop (k + 1)).take (k + 1) := by rw [← hs]
  rw [this, List.take_append, hl, List.take_of_length_le (by omega), show k + 1 - k = 1 from by omega]
  rfl
theorem upto_next {s : ByteArray} {k v : Nat} (h : Upto s k v) (h9 : k < 9) (hk : k < s.size) (hb : 128 ≤ bt s k) :
    ∃ v' : Nat, bits .or .i64 (v : Int) (wrap64 ((bt s k - 128) * 2 ^ (7 * k))) = (v' : Int) ∧ Upto s (k + 1) v' := by
  obtain ⟨b, hb', hs⟩ := bt_at s k hk
  have hlt := upto_lt h (by omega)
  have hl : (s.data.toList.take k).length = k := by rw [List.length_take]; exact Nat.min_eq_left (by simpa using Nat.le_of_lt hk)
  have hbl := b.toNat_lt
  refine ⟨v + 128 ^ k * (b.toNat - 128), ?_, ?_, ?_⟩
  · rw [hb', show ((b.toNat : Int) - 128) = ((b.toNat - 128 : Nat) : Int) from by omega]
    exact or_digit _ _ _ (by omega) hlt (by omega)
  · rw [take_snoc hk hs, val_append, hl, ← h.1]
    simp only [val, Nat.mul_zero, Nat.add_zero, show b.toNat % 128 = b.toNat - 128 from by omega]
  · rw [take_snoc hk hs]
    intro c hc
    rcases List.mem_append.1 hc with hc | hc
    · exact h.2 c hc
    · simp at hc; subst hc; omega
theorem upto_stop {s : ByteArray} {k v : Nat} (h : Upto s k v) (h9 : k < 9) (hk : k < s.size) (hb : bt s k < 128) (h0 : bt s k ≠ 0 ∨ k = 0) :
    ∃ v' : Nat, bits .or .i64 (v : Int) (wrap64 (bt s k * 2 ^ (7 * k))) = (v' : Int) ∧ rd s.data.toList = (v', k + 1, 0) := by
  obtain ⟨b, hb', hs⟩ := bt_at s k hk
  have hlt := upto_lt h (by omega)
  have hl : (s.data.toList.take k).length = k := by rw [List.length_take]; exact Nat.min_eq_left (by simpa using Nat.le_of_lt hk)
  refine ⟨v + 128 ^ k * b.toNat, ?_, ?_⟩
  · rw [hb']
    exact or_digit _ _ _ (by omega) hlt (by omega)
  · rw [hs, rd_stop _ _ b h.2 (by omega) (by omega), if_neg, val_append, hl, ← h.1]
    · simp only [val, Nat.mul_zero, Nat.add_zero, Nat.mod_eq_of_lt (show b.toNat < 128 by omega)]
    · rintro ⟨h1, h2⟩
      rcases h0 with h0 | rfl
      · omega
      · simp at h2
theorem upto_zero {s : ByteArray} {k v : Nat} (h : Upto s k v) (h9 : k < 9) (hk : k < s.size) (hb : bt s k = 0) (h0 : 0 < k) : rd s.data.toList = (0, 0, 2) := by
  obtain ⟨b, hb', hs⟩ := bt_at s k hk
  have hl : (s.data.toList.take k).length = k := by rw [List.length_take]; exact Nat.min_eq_left (by simpa using Nat.le_of_lt hk)
  rw [hs, rd_stop _ _ b h.2 (by omega) (by omega), if_pos]
  refine ⟨by omega, fun e => ?_⟩
  rw [e] at hl; simp at hl; omega
theorem upto_short {s : ByteArray} {v : Nat} (h : Upto s s.size v) (h9 : s.size < 9) : rd s.data.toList = (0, 0, 5) := by
  have e : s.data.toList.take s.size = s.data.toList := List.take_of_length_le (by simp)
  have h2 := h.2
  rw [e] at h2
  exact rd_short _ h2 (by simpa using h9)
theorem upto_long {s : ByteArray} {v : Nat} (h : Upto s 9 v) (h9 : 9 ≤ s.size) : rd s.data.toList = (0, 0, 2) := by
  rw [← List.take_append_drop 9 s.data.toList]
  exact rd_long _ _ h.2 (by rw [List.length_take]; exact Nat.min_eq_left (by simpa using h9))

def numOut (x : Nat × Nat × Nat) : Ending := .returned (.tuple #[.int .i64 (x.1 : Int), .int .i64 (x.2.1 : Int), errV x.2.2])

set_option maxRecDepth 100000 in
set_option maxHeartbeats 1000000 in
theorem readNum_any (s : ByteArray) (w : World) (hs : s.size ≤ maxLen) :
    Calls Tryd.prog 23 #[.string s] w fun e w' => Hid (e = numOut (rd s.data.toList)) ∧ w = w' := by
  unfold maxLen at hs
  have hbt := get_bt s
  go_enter Tryd.func23, Tryd.ntmps23
  go_wp2
  go_loop [5, 6] (fun n i => ∃ (k v : Nat), k ≤ 9 ∧ k ≤ s.size ∧ i = .int .i64 k ∧ n = .int .i64 v ∧ Hid (Upto s k v)) (fun _ i => s.size - (intOf i).toNat)
  case atStart => exact ⟨0, 0, by omega, by omega, rfl, rfl, by simp [val, Hid, Upto]⟩
  case round =>
    obtain ⟨k, v, hk9, hks, rfl, rfl, HV⟩ := hrel
    have b0 := bt_nonneg s k
    have b1 := bt_le s k
    by_cases h9 : k < 9
    · by_cases hlt : k < s.size
      · by_cases hb : 128 ≤ bt s k
        · go_wp2
          obtain ⟨v', hv', HV'⟩ := upto_next HV.out h9 hlt hb
          rw [hv']
          go_round
          case rel => exact ⟨k + 1, v', by omega, by omega, by go_num, rfl, HV'⟩
          case measure => simp [intOf]; omega
        · by_cases hz : bt s k = 0
          · have hz1 : (bt s k == 0) = true := by rw [hz]; rfl
            by_cases h0 : 0 < k
            · have HR : Hid (rd s.data.toList = (0, 0, 2)) := upto_zero HV.out h9 hlt hz h0
              have HZ := Lib.hid hz
              clear hz
              go_wp2
              go_ret3
              exact ⟨by rw [HR.out]; rfl, rfl⟩
            · have HZ := Lib.hid hz
              clear hz
              obtain ⟨v', hv', hr⟩ := upto_stop HV.out h9 hlt (by omega) (.inr (by omega))
              have HV' := Lib.hid hv'
              have HR := Lib.hid hr
              clear hv' hr
              go_wp2
              go_ret3
              exact ⟨by rw [HV'.out, HR.out]; rfl, rfl⟩
          · have hz1 : (bt s k == 0) = false := by simpa using hz
            obtain ⟨v', hv', hr⟩ := upto_stop HV.out h9 hlt (by omega) (.inl hz)
            have HV' := Lib.hid hv'
            have HR := Lib.hid hr
            clear hv' hr hz
            go_wp2
            go_ret3
            exact ⟨by rw [HV'.out, HR.out]; rfl, rfl⟩
      · obtain rfl : k = s.size := by omega
        have HR : Hid (rd s.data.toList = (0, 0, 5)) := upto_short HV.out h9
        go_wp2
        go_ret3
        exact ⟨by rw [HR.out]; rfl, rfl⟩
    · have hk : 9 ≤ k := by omega
      have HR : Hid (rd s.data.toList = (0, 0, 2)) := upto_long (s := s) (v := v) (by have e : k = 9 := by omega
                                                                                      rw [← e]; exact HV.out) (by omega)
      by_cases hlt : k < s.size
      · go_wp2
        go_ret3
        exact ⟨by rw [HR.out]; rfl, rfl⟩
      · go_wp2
        go_ret3
        exact ⟨by rw [HR.out]; rfl, rfl⟩

/-! ### lists -/
theorem info3 : (Tryd.prog.info? 3).map (fun i => (i.zero, i.size, i.bytes)) = some (some (.int .i64 0), 1, 8) := by kernel_rfl
def nv (n : Nat) : Value := .int .i64 (n : Int)
theorem ext_drop (s : ByteArray) (k : Nat) : (s.extract k s.size).data.toList = s.data.toList.drop k := by
  rw [ByteArray.data_extract, Array.toList_extract, List.extract_eq_take_drop]
  exact List.take_of_length_le (by rw [List.length_drop, data_len]; omega)
/-- What ReadList leaves: its ints in a row of its own from block B on. -/
def Ints (B : Nat) (w0 : World) (l : List Nat) (v : Value) (w : World) : Prop :=
  w.ownsRow B 3 1 v l.length (l.map nv) ∧ Below B w0 w ∧ B ≤ w.heap.size
theorem ints_nil (w : World) : Ints w.heap.size w [] (.slice none 0 0) w := ⟨World.ownsRow_nil _ _ _ _, Below.refl _ _, Nat.le_refl _⟩
theorem ints_none {B : Nat} {w0 w : World} {l : List Nat} {v : Value} (h : Ints B w0 l v w) : Ints B w0 [] (.slice none 0 0) w := ⟨World.ownsRow_nil _ _ _ _, h.2.1, h.2.2⟩
theorem ints_more {B : Nat} {w0 w w1 : World} {l : List Nat} {v v' : Value} {n : Nat} {o : Obj} (h : Ints B w0 l v w)
    (hown : w1.ownsRow B 3 1 v' (l.length + 1) (l.map nv ++ [nv n])) (hg : (w.alloc o).grownBy w1 v.ownBlock) : Ints B w0 (l ++ [n]) v' w1 := by
  obtain ⟨h1, h2, h3⟩ := h
  refine ⟨by simpa using hown, (h2.alloc h3 o).grown hg (by simp; omega) (fun k hk => (h1.lt k hk).1), ?_⟩
  have := hg.size
  simp at this
  omega
def ListOut (B : Nat) (w0 : World) (R : List Nat × Nat × Nat) (e : Ending) (w' : World) : Prop :=
  ∃ v', e = .returned (.tuple #[v', .int .i64 (R.2.1 : Int), errV R.2.2]) ∧ Ints B w0 R.1 v' w' ∧ (R.2.2 ≠ 0 → v' = .slice none 0 0)
theorem listOut_bad {B : Nat} {w0 w : World} {R : List Nat × Nat × Nat} {e : Nat} (h : R = ([], 0, e)) (hi : Ints B w0 [] (.slice none 0 0) w) :
    ListOut B w0 R (.returned (.tuple #[.slice none 0 0, .int .i64 0, errV e])) w := by
  subst h; exact ⟨_, rfl, hi, fun _ => rfl⟩
theorem listOut_ok {B : Nat} {w0 w : World} {R : List Nat × Nat × Nat} {l : List Nat} {u : Nat} {v : Value} (h : R = (l, u, 0)) (hi : Ints B w0 l v w) :
    ListOut B w0 R (.returned (.tuple #[v, .int .i64 (u : Int), .nilIface])) w := by
  subst h; exact ⟨_, rfl, hi, fun h => absurd rfl h⟩
theorem one_nv (n : Nat) : ∀ (u : Value), u ∈ [nv n] → u.oneCell' = true := by
  intro u hu
  simp at hu; subst hu; rfl
theorem rdL_step (s : List UInt8) (m a n u : Nat) (acc : List Nat) (h : rd (s.drop a) = (n, u, 0)) : rdL s (m + 1) a acc = rdL s m (a + u) (acc ++ [n]) := by
  rw [rdL, h]
theorem rdL_stop (s : List UInt8) (m a n u e : Nat) (acc : List Nat) (h : rd (s.drop a) = (n, u, e + 1)) : rdL s (m + 1) a acc = ([], 0, e + 1) := by
  rw [rdL, h]
/-- ReadNum, by the two ways it ends. -/
theorem readNum_ok (s : ByteArray) (w : World) (hs : s.size ≤ maxLen) (n u : Nat) (h : rd s.data.toList = (n, u, 0)) :
    Calls Tryd.prog 23 #[.string s] w fun e w' => e = .returned (.tuple #[.int .i64 (n : Int), .int .i64 (u : Int), .nilIface]) ∧ w = w' :=
  (readNum_any s w hs).mono fun e w' ⟨he, hw⟩ => ⟨by rw [he.out, h]; rfl, hw⟩
theorem readNum_bad (s : ByteArray) (w : World) (hs : s.size ≤ maxLen) (e0 : Nat) (h : rd s.data.toList = (0, 0, e0 + 1)) :
    Calls Tryd.prog 23 #[.string s] w fun e w' => e = .returned (.tuple #[.int .i64 0, .int .i64 0, .iface 48 (.int .i64 ((e0 + 1 : Nat) : Int))]) ∧ w = w' :=
  (readNum_any s w hs).mono fun e w' ⟨he, hw⟩ => ⟨by rw [he.out, h]; rfl, hw⟩

/-! ### what the laws ask of the contracts -/
theorem ints_at {B : Nat} {w0 w : World} {l : List Nat} {v : Value} (h : Ints B w0 l v w) :
    ∃ (A : Option Addr) (cap : Nat) (zs : List Int), v = .slice A zs.length cap ∧ Hid (zs = l.map Int.ofNat) ∧ ((∀ n ∈ l, n < 9223372036854775808) → IntsAt w w.heap.size A zs) := by
  obtain ⟨h1, h2, h3⟩ := h
  obtain ⟨A, cap, hv⟩ : ∃ (A : Option Addr) (cap : Nat), v = .slice A l.length cap := by
    rcases h1.2 with ⟨e, h0⟩ | ⟨g, cap, cur, e, _⟩
    · exact ⟨none, 0, by rw [e, h0]⟩
    · exact ⟨_, cap, e⟩
  subst hv
  refine ⟨A, cap, l.map Int.ofNat, by rw [List.length_map], rfl, fun hn => ⟨?_, ?_⟩⟩
  · have := Cells.own h1
    have e : (l.map Int.ofNat).map i64 = l.map nv := by rw [List.map_map]; rfl
    rw [e]; exact this
  · intro z hz
    obtain ⟨n, hn', rfl⟩ := List.mem_map.1 hz
    have := hn n hn'
    exact ⟨by show _ ≤ (n : Int); omega, by show (n : Int) ≤ _; omega⟩
theorem lstOut_nat (l : List Nat) (h : l.length ≤ 200) : lstOut (l.map Int.ofNat) = (lst l, 0) := by
  unfold lstOut
  rw [List.length_map, if_neg (by omega), if_pos, List.map_map]
  · have : (Int.toNat ∘ Int.ofNat) = id := by funext n; rfl
    rw [this, List.map_id]
  · rw [List.all_eq_true]
    intro z hz
    obtain ⟨n, _, rfl⟩ := List.mem_map.1 hz
    simp
theorem str_take (s : ByteArray) (l : List UInt8) (u : Nat) (h : l = s.data.toList.take u) : str l = s.extract 0 u := by
  rw [← str_of (s.extract 0 u), ByteArray.data_extract, Array.toList_extract, List.extract_eq_take_drop, h]
  simp
/-- Num of 300. -/
theorem num300 : str (num 300) = ⟨#[172, 2]⟩ := by
  have : num 300 = [172, 2] := by decide +kernel
  rw [this]; rfl
theorem num_300 (w : World) : Calls Tryd.prog 18 #[.int .i64 300] w fun e w' => e = .returned (.tuple #[.string ⟨#[172, 2]⟩, .nilIface]) ∧ Below w.heap.size w w' := by
  have := num_ok 300 w (by omega)
  rw [num300] at this
  exact this
end Go.Proofs.YtjebkipdooimbaaDoor.Pk
