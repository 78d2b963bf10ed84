/- The walks of package word: Check, Only, Mirror, Sub and Less return what the plain mathematics says. -/
import Derived.Test.YtiaoffaaflmgiaaProg
import Derived.Test.YtiaoffaaflmgiaaWordM
import Derived.Test.YtiaoffaaflmgiaaInts
import Derived.Deep.QuietTactic
import Derived.BigQuiet
import Derived.Laws.BitsLemmas
namespace Go.Proofs.Ytiaoffaaflmgiaa.Wo
open Go.RowKit Go.IntWalk Go.Proofs.Ytiaoffaaflmgiaa.Wd

set_option maxRecDepth 100000 in
set_option maxHeartbeats 1000000 in
theorem check_any (L : Int) (A : Option Addr) (c : Nat) (z : List Int) (w : World) (hL : Small L) (hA : IntsAt w w.heap.size A z) (hz : z.length ≤ 17592186044416) :
    Calls Try.prog 16 #[.int .i64 L, .slice A z.length c] w fun e w' => Hid (e = .returned (errV (chk L z))) ∧ w = w' := by
  obtain ⟨l1, l2⟩ := hL
  by_cases h : L < 1 ∨ 6 < L
  · have HR := Lib.hid (chk_one h z)
    rcases h with h | h
    all_goals
      go_enter Try.func16, Try.ntmps16
      go_wp2
      go_ret
      exact ⟨by rw [HR.out]; rfl, rfl⟩
  · have hh := h
    obtain ⟨g1, g2⟩ : 1 ≤ L ∧ L ≤ 6 := by omega
    by_cases h2 : 80 < z.length
    · have HR := Lib.hid (chk_four h h2)
      clear h hh
      go_enter Try.func16, Try.ntmps16
      go_wp2
      go_ret
      exact ⟨by rw [HR.out]; rfl, rfl⟩
    · have HB := Lib.hid (fun k hk h3 => chk_bad h h2 (k := k) hk h3)
      have HE := Lib.hid (upto_end h h2)
      have HA := Lib.hid hA
      have h80 : z.length ≤ 80 := by omega
      clear h hh hA h2
      go_enter Try.func16, Try.ntmps16
      go_wp2
      go_loop [20] (fun i => ∃ (k : Nat), k ≤ z.length ∧ i = .int .i64 k ∧ Hid (Upto L z k)) (fun i => z.length - (intOf i).toNat)
      case atStart => exact ⟨0, by omega, rfl, upto_zero L z⟩
      case round =>
        obtain ⟨k, hk, rfl, HU⟩ := hrel
        by_cases hlt : k < z.length
        · obtain ⟨ad, rfl, hadb, hcell, hs1, hs2⟩ := HA.out.at_ k hlt
          by_cases h0 : z[k] < 0
          · have HR := Lib.hid (HB.out k hlt (.inl h0))
            generalize z[k] = x at *
            go_wp2
            go_ret
            exact ⟨by rw [HR.out]; rfl, rfl⟩
          · by_cases h1 : L ≤ z[k]
            · have HR := Lib.hid (HB.out k hlt (.inr h1))
              generalize z[k] = x at *
              go_wp2
              go_ret
              exact ⟨by rw [HR.out]; rfl, rfl⟩
            · have HN := Lib.hid (upto_next HU.out hlt (by omega) (by omega))
              generalize z[k] = x at *
              go_wp2
              go_round
              case rel => exact ⟨k + 1, by omega, by go_num, HN⟩
              case measure => simp [intOf]; omega
        · obtain rfl : k = z.length := by omega
          have HR := Lib.hid (HE.out HU.out)
          go_wp2
          go_ret
          exact ⟨by rw [HR.out]; rfl, rfl⟩
/-- Check, by its two ways. -/
theorem check_ok (L : Int) (A : Option Addr) (c : Nat) (z : List Int) (w : World) (hL : Small L) (hA : IntsAt w w.heap.size A z) (hz : z.length ≤ 17592186044416) (h : chk L z = 0) :
    Calls Try.prog 16 #[.int .i64 L, .slice A z.length c] w fun e w' => e = .returned .nilIface ∧ w = w' :=
  (check_any L A c z w hL hA hz).mono fun e w' ⟨he, hw⟩ => ⟨by rw [he.out, h]; rfl, hw⟩
theorem check_bad (L : Int) (A : Option Addr) (c : Nat) (z : List Int) (w : World) (hL : Small L) (hA : IntsAt w w.heap.size A z) (hz : z.length ≤ 17592186044416) (x : Value) (e0 : Nat) (h : chk L z = e0 + 1) (hx : x = .int .i64 ((e0 + 1 : Nat) : Int)) :
    Calls Try.prog 16 #[.int .i64 L, .slice A z.length c] w fun e w' => e = .returned (.iface 45 x) ∧ w = w' :=
  (check_any L A c z w hL hA hz).mono fun e w' ⟨he, hw⟩ => ⟨by rw [he.out, h, hx]; rfl, hw⟩

/-- '1 << letters'. -/
theorem shl_lim {L : Int} (h1 : 1 ≤ L) (h2 : L ≤ 6) : ∃ P : Int, wrap64 (2 ^ L.toNat) = P ∧ 2 ^ L.toNat = P ∧ 2 ≤ P ∧ P ≤ 64 := by
  refine ⟨_, ?_, rfl, ?_⟩
  all_goals have : L = 1 ∨ L = 2 ∨ L = 3 ∨ L = 4 ∨ L = 5 ∨ L = 6 := by omega
  all_goals rcases this with rfl | rfl | rfl | rfl | rfl | rfl <;> decide +kernel
theorem and_one (n : Int) : bits .and .i64 n 1 = n % 2 := by
  have h1 : (BitVec.ofInt 64 1).toNat = 2 ^ 1 - 1 := by decide
  have key : (BitVec.ofInt 64 n &&& BitVec.ofInt 64 1).toNat = (n % ((2 ^ 64 : Nat) : Int)).toNat % 2 ^ 1 := by
    rw [BitVec.toNat_and, BitVec.toNat_ofInt, h1, Nat.and_two_pow_sub_one_eq_mod]
  show IntKind.i64.wrap ((BitVec.ofInt 64 n &&& BitVec.ofInt 64 1).toNat : Nat) = n % 2
  rw [key, IntKind.wrap_i64]
  omega
theorem and_nat (a b : Nat) (ha : a < 9223372036854775808) (hb : b < 9223372036854775808) : bits .and .i64 (a : Int) (b : Int) = ((a &&& b : Nat) : Int) := by
  have hx : a &&& b < 2 ^ 63 := Nat.and_lt_two_pow _ (by omega)
  have h1 : (BitVec.ofInt 64 (a : Int)).toNat = a := by
    rw [BitVec.ofInt_natCast, BitVec.toNat_ofNat]; exact Nat.mod_eq_of_lt (by omega)
  have h2 : (BitVec.ofInt 64 (b : Int)).toNat = b := by
    rw [BitVec.ofInt_natCast, BitVec.toNat_ofNat]; exact Nat.mod_eq_of_lt (by omega)
  show IntKind.i64.wrap ((BitVec.ofInt 64 (a : Int) &&& BitVec.ofInt 64 (b : Int)).toNat : Int) = _
  rw [BitVec.toNat_and, h1, h2, IntKind.wrap_i64]
  omega
theorem bit_has {s a : Int} (h : 0 ≤ s) : (bits .and .i64 (s / 2 ^ a.toNat) 1 == 1) = has s a := by
  obtain ⟨n, rfl⟩ := Int.eq_ofNat_of_zero_le h
  unfold has
  rw [and_one, Int.toNat_natCast]
  have e : (n : Int) / 2 ^ a.toNat % 2 = ((n / 2 ^ a.toNat % 2 : Nat) : Int) := by
    rw [Int.natCast_emod, Int.natCast_ediv, Int.natCast_pow]; rfl
  rw [e, Bool.eq_iff_iff]
  simp
  omega

set_option maxRecDepth 100000 in
set_option maxHeartbeats 1000000 in
theorem only_any (L : Int) (A : Option Addr) (c : Nat) (z : List Int) (s : Int) (w : World) (hL : Small L) (hs : Small s) (hA : IntsAt w w.heap.size A z) (hz : z.length ≤ 17592186044416) :
    Calls Try.prog 13 #[.int .i64 L, .slice A z.length c, .int .i64 s] w fun e w' => Hid (∃ v, e = .returned (.tuple #[v, errV (onlyOut L z s).2]) ∧ Nums w.heap.size w (onlyOut L z s).1 v w') := by
  rcases hc : chk L z with _ | e0
  · have HC := Lib.hid (check_ok L A c z w hL hA hz hc)
    have hf := chk_iff.1 hc
    obtain ⟨⟨g1, g2⟩, h80, hle⟩ := hf
    obtain ⟨s1, s2⟩ := hs
    have HA := Lib.hid hA
    have HL := Lib.hid hle
    obtain ⟨P, hP, p1, p2, p3⟩ := shl_lim g1 g2
    have HO : Hid ((onlyOut L z s) = if 0 ≤ s ∧ s < P then (only s z, 0) else ([], 1)) := by
      unfold onlyOut Hid; rw [if_pos hc]; simp only [setOk, p1]
    clear hA hc hle p1
    by_cases hsP : 0 ≤ s ∧ s < P
    · obtain ⟨q1, q2⟩ := hsP
      have HR : Hid (onlyOut L z s = (only s z, 0)) := by unfold Hid; rw [HO.out, if_pos ⟨q1, q2⟩]
      clear HO
      go_enter Try.func13, Try.ntmps13
      go_wp2_with fail
      refine HC.out.mono ?_
      rintro e w1 ⟨rfl, rfl⟩
      clear HC
      go_wp2
      go_loopw [9, 29] (fun v i wr => ∃ (k : Nat), k ≤ z.length ∧ i = .int .i64 k ∧ Hid (Nums w.heap.size w (only s (z.take k)) v wr)) (fun _ i _ => z.length - (intOf i).toNat)
      case atStart => exact ⟨0, by omega, rfl, nums_nil w⟩
      case round =>
        obtain ⟨k, hk, rfl, HN⟩ := hrel
        by_cases hlt : k < z.length
        · obtain ⟨ad, rfl, hadb, hcell, hs1, hs2⟩ := (nums_keep HN.out rfl HA.out).at_ k hlt
          obtain ⟨r1, r2⟩ := HL.out z[k] (List.getElem_mem hlt)
          have hst := only_step s hlt
          have hln := only_len s (z.take k)
          rw [List.length_take] at hln
          have hbh := bit_has (a := z[k]) q1
          by_cases hh : has s z[k] = true
          · rw [if_pos hh] at hst
            rw [hh] at hbh
            have HS := Lib.hid hst
            clear hst hh
            generalize z[k] = x at *
            go_wp2_with (at_builtin; refine app_one rfl _ _ rfl rfl HN.out rfl ?c1 ?_)
            case c1 => omega
            intro v' w1 hn'
            have HN2 : Hid (Nums w.heap.size w (only s (z.take (k + 1))) v' w1) := by unfold Hid; rw [HS.out]; exact hn'
            clear hn'
            go_wp2
            go_roundw
            case rel => exact ⟨k + 1, by omega, by go_num, HN2⟩
            case measure => simp [intOf]; omega
          · rw [if_neg hh] at hst
            rw [Bool.not_eq_true] at hh
            rw [hh] at hbh
            have hn2 := HN.out
            rw [← hst] at hn2
            have HN2 := Lib.hid hn2
            clear hst hh HN hn2
            generalize z[k] = x at *
            go_wp2
            go_roundw
            case rel => exact ⟨k + 1, by omega, by go_num, HN2⟩
            case measure => simp [intOf]; omega
        · obtain rfl : k = z.length := by omega
          have hN := HN.out
          rw [List.take_length] at hN
          have HN2 := Lib.hid hN
          clear hN HN
          go_wp2
          go_ret2
          exact ⟨_, by rw [HR.out]; rfl, by rw [HR.out]; exact HN2.out⟩
    · have HR : Hid (onlyOut L z s = ([], 1)) := by unfold Hid; rw [HO.out, if_neg hsP]
      clear HO
      rcases (show s < 0 ∨ (0 ≤ s ∧ P ≤ s) by omega) with h | ⟨h, h'⟩
      all_goals
        clear hsP
        go_enter Try.func13, Try.ntmps13
        go_wp2_with fail
        refine HC.out.mono ?_
        rintro e w1 ⟨rfl, rfl⟩
        clear HC
        go_wp2
        go_ret2
        exact ⟨_, by rw [HR.out]; rfl, by rw [HR.out]; exact nums_nil _⟩
  · have HC := Lib.hid (check_bad L A c z w hL hA hz _ e0 hc rfl)
    have HR : Hid (onlyOut L z s = ([], e0 + 1)) := by unfold onlyOut Hid; rw [if_neg (by omega), hc]
    clear hc
    generalize hE : ((e0 + 1 : Nat) : Int) = E at *
    have HE := Lib.hid hE
    clear hE
    go_enter Try.func13, Try.ntmps13
    go_wp2_with fail
    refine HC.out.mono ?_
    rintro e w1 ⟨rfl, rfl⟩
    clear HC
    go_wp2
    go_ret2
    obtain rfl := HE.out
    exact ⟨_, by rw [HR.out]; rfl, by rw [HR.out]; exact nums_nil _⟩

set_option maxRecDepth 100000 in
set_option maxHeartbeats 1000000 in
theorem mirror_any (L : Int) (A : Option Addr) (c : Nat) (z : List Int) (w : World) (hL : Small L) (hA : IntsAt w w.heap.size A z) (hz : z.length ≤ 17592186044416) :
    Calls Try.prog 9 #[.int .i64 L, .slice A z.length c] w fun e w' => Hid (∃ v, e = .returned (.tuple #[v, errV (mirOut L z).2]) ∧ Nums w.heap.size w (mirOut L z).1 v w') := by
  rcases hc : chk L z with _ | e0
  · have HC := Lib.hid (check_ok L A c z w hL hA hz hc)
    obtain ⟨_, h80, _⟩ := chk_iff.1 hc
    have HA := Lib.hid hA
    have HR : Hid (mirOut L z = (z.reverse, 0)) := by unfold mirOut Hid; rw [if_pos hc]
    clear hA hc
    go_enter Try.func9, Try.ntmps9
    go_wp2_with fail
    refine HC.out.mono ?_
    rintro e w1 ⟨rfl, rfl⟩
    clear HC
    go_wp2_with (at_make; refine mk_ints rfl _ _ rfl z.length rfl rfl (by omega) ?_)
    intro w1 hn
    have HN : Hid (∃ l, Nums w.heap.size w l (.slice (some ⟨w.heap.size, 0, none⟩) z.length z.length) w1 ∧ Mir z l 0) := ⟨_, hn, mir_start z⟩
    clear hn
    go_wp2
    go_loopw [21] (fun i wr => ∃ (k : Nat), k ≤ z.length ∧ i = .int .i64 k ∧ Hid (∃ l, Nums w.heap.size w l (.slice (some ⟨w.heap.size, 0, none⟩) z.length z.length) wr ∧ Mir z l k)) (fun i _ => z.length - (intOf i).toNat)
    case atStart => exact ⟨0, by omega, rfl, HN⟩
    case round =>
      obtain ⟨k, hk, rfl, HM⟩ := hrel
      obtain ⟨l, hl, hm⟩ := HM.out
      have HL := Lib.hid hl
      have HMM := Lib.hid hm
      clear HM HN hl hm
      by_cases hlt : k < z.length
      · obtain ⟨ad, rfl, hadb, hcell, hs1, hs2⟩ := (nums_keep HL.out rfl HA.out).at_ k hlt
        have hll := HMM.out.1
        obtain ⟨hc1, hf1⟩ := nums_cell HL.out hll.symm (z.length - 1 - k) (by omega)
        have HN : Hid (∃ l, Nums w.heap.size w l (.slice (some ⟨w.heap.size, 0, none⟩) z.length z.length) (wr.setCell ⟨w.heap.size, z.length - 1 - k, none⟩ (.int .i64 z[k])) ∧ Mir z l (k + 1)) :=
          ⟨_, nums_set HL.out hll.symm _ _, mir_step HMM.out hlt⟩
        generalize z[k] = x at *
        generalize l[z.length - 1 - k] = y at *
        clear hll
        go_wp2
        go_roundw
        case rel => exact ⟨k + 1, by omega, by go_num, HN⟩
        case measure => simp [intOf]; omega
      · obtain rfl : k = z.length := by omega
        have HE : Hid (l = z.reverse) := mir_end HMM.out
        go_wp2
        go_ret2
        exact ⟨_, by rw [HR.out]; rfl, by rw [HR.out, ← HE.out]; exact HL.out⟩
  · have HC := Lib.hid (check_bad L A c z w hL hA hz _ e0 hc rfl)
    have HR : Hid (mirOut L z = ([], e0 + 1)) := by unfold mirOut Hid; rw [if_neg (by omega), hc]
    clear hc
    generalize hE : ((e0 + 1 : Nat) : Int) = E at *
    have HE := Lib.hid hE
    clear hE
    go_enter Try.func9, Try.ntmps9
    go_wp2_with fail
    refine HC.out.mono ?_
    rintro e w1 ⟨rfl, rfl⟩
    clear HC
    go_wp2
    go_ret2
    obtain rfl := HE.out
    exact ⟨_, by rw [HR.out]; rfl, by rw [HR.out]; exact nums_nil _⟩

theorem check2_any (L : Int) (A : Option Addr) (c : Nat) (v : List Int) (B : Option Addr) (d : Nat) (z : List Int) (w : World) (hL : Small L) (hA : IntsAt w w.heap.size A v) (hB : IntsAt w w.heap.size B z) (hv : v.length ≤ 17592186044416) (hz : z.length ≤ 17592186044416) :
    Calls Try.prog 19 #[.int .i64 L, .slice A v.length c, .slice B z.length d] w fun e w' => Hid (e = .returned (errV (chk2 L v z))) ∧ w = w' := by
  rcases hc : chk L v with _ | e0
  · have HC := Lib.hid (check_ok L A c v w hL hA hv hc)
    have HD := Lib.hid (check_any L B d z w hL hB hz)
    obtain ⟨E, HE⟩ : ∃ E, Hid (E = errV (chk2 L v z)) := ⟨_, rfl⟩
    have HR : Hid (E = errV (chk L z)) := by unfold Hid; rw [HE.out]; unfold chk2; rw [if_pos hc]
    clear hc hA hB
    go_enter Try.func19, Try.ntmps19
    go_wp2_with fail
    refine HC.out.mono ?_
    rintro e w1 ⟨rfl, rfl⟩
    clear HC
    go_wp2_with fail
    refine HD.out.mono ?_
    rintro e w1 ⟨he, rfl⟩
    obtain rfl : e = .returned E := by rw [he.out, HR.out]
    clear he HD
    go_wp2
    go_ret
    exact ⟨by rw [← HE.out]; rfl, rfl⟩
  · have HC := Lib.hid (check_bad L A c v w hL hA hv _ e0 hc rfl)
    have HR : Hid (chk2 L v z = e0 + 1) := by unfold chk2 Hid; rw [if_neg (by omega), hc]
    clear hc
    generalize hE : ((e0 + 1 : Nat) : Int) = E at *
    have HE := Lib.hid hE
    clear hE
    go_enter Try.func19, Try.ntmps19
    go_wp2_with fail
    refine HC.out.mono ?_
    rintro e w1 ⟨rfl, rfl⟩
    clear HC
    go_wp2
    go_ret
    obtain rfl := HE.out
    exact ⟨by rw [HR.out]; rfl, rfl⟩
theorem check2_ok (L : Int) (A : Option Addr) (c : Nat) (v : List Int) (B : Option Addr) (d : Nat) (z : List Int) (w : World) (hL : Small L) (hA : IntsAt w w.heap.size A v) (hB : IntsAt w w.heap.size B z) (hv : v.length ≤ 17592186044416) (hz : z.length ≤ 17592186044416) (h : chk2 L v z = 0) :
    Calls Try.prog 19 #[.int .i64 L, .slice A v.length c, .slice B z.length d] w fun e w' => e = .returned .nilIface ∧ w = w' :=
  (check2_any L A c v B d z w hL hA hB hv hz).mono fun e w' ⟨he, hw⟩ => ⟨by rw [he.out, h]; rfl, hw⟩
theorem check2_bad (L : Int) (A : Option Addr) (c : Nat) (v : List Int) (B : Option Addr) (d : Nat) (z : List Int) (w : World) (hL : Small L) (hA : IntsAt w w.heap.size A v) (hB : IntsAt w w.heap.size B z) (hv : v.length ≤ 17592186044416) (hz : z.length ≤ 17592186044416) (e0 : Nat) (h : chk2 L v z = e0 + 1) :
    Calls Try.prog 19 #[.int .i64 L, .slice A v.length c, .slice B z.length d] w fun e w' => e = .returned (.iface 45 (.int .i64 ((e0 + 1 : Nat) : Int))) ∧ w = w' :=
  (check2_any L A c v B d z w hL hA hB hv hz).mono fun e w' ⟨he, hw⟩ => ⟨by rw [he.out, h]; rfl, hw⟩

def boolOut (x : Bool × Nat) : Ending := .returned (.tuple #[.bool x.1, errV x.2])
set_option maxRecDepth 100000 in
set_option maxHeartbeats 1000000 in
theorem sub_any (L : Int) (A : Option Addr) (c : Nat) (v : List Int) (B : Option Addr) (d : Nat) (z : List Int) (w : World) (hL : Small L) (hA : IntsAt w w.heap.size A v) (hB : IntsAt w w.heap.size B z) (hv : v.length ≤ 17592186044416) (hz : z.length ≤ 17592186044416) :
    Calls Try.prog 11 #[.int .i64 L, .slice A v.length c, .slice B z.length d] w fun e w' => Hid (e = boolOut (subOut L v z)) ∧ w = w' := by
  rcases hc : chk2 L v z with _ | e0
  · have HC := Lib.hid (check2_ok L A c v B d z w hL hA hB hv hz hc)
    obtain ⟨⟨_, h80, _⟩, _, k80, _⟩ := chk2_iff.1 hc
    have HA := Lib.hid hA
    have HB := Lib.hid hB
    have HR : Hid (subOut L v z = (v.isSublist z, 0)) := by unfold subOut Hid; rw [if_pos hc]
    clear hA hB hc
    go_enter Try.func11, Try.ntmps11
    go_wp2_with fail
    refine HC.out.mono ?_
    rintro e w1 ⟨rfl, rfl⟩
    clear HC
    go_wp2
    go_loop [9, 21] (fun f j => ∃ (i k : Nat), i ≤ v.length ∧ k ≤ z.length ∧ f = .int .i64 i ∧ j = .int .i64 k ∧ Hid (At v z i k)) (fun _ j => z.length - (intOf j).toNat)
    case atStart => exact ⟨0, 0, by omega, by omega, rfl, rfl, at_start v z⟩
    case round =>
      obtain ⟨i, k, hi, hk, rfl, rfl, HT⟩ := hrel
      by_cases hlt : k < z.length
      · obtain ⟨ad, rfl, hadb, hcell, hs1, hs2⟩ := HB.out.at_ k hlt
        by_cases hil : i < v.length
        · obtain ⟨ad2, rfl, hadb2, hcell2, ht1, ht2⟩ := HA.out.at_ i hil
          by_cases he : v[i] = z[k]
          · have HN : Hid (At v z (i + 1) (k + 1)) := (sub_hit hil hlt he).trans HT.out
            have he1 : (v[i] == z[k]) = true := by rw [he]; simp
            clear he
            generalize z[k] = x at *
            generalize v[i] = y at *
            go_wp2
            go_round
            case rel => exact ⟨i + 1, k + 1, by omega, by omega, by go_num, by go_num, HN⟩
            case measure => simp [intOf]; omega
          · have HN : Hid (At v z i (k + 1)) := (sub_miss hil hlt he).trans HT.out
            have he1 : (v[i] == z[k]) = false := by simpa using he
            clear he
            generalize z[k] = x at *
            generalize v[i] = y at *
            go_wp2
            go_round
            case rel => exact ⟨i, k + 1, by omega, by omega, rfl, by go_num, HN⟩
            case measure => simp [intOf]; omega
        · have HN : Hid (At v z i (k + 1)) := (sub_over (by omega)).trans ((sub_over (by omega)).symm.trans HT.out)
          generalize z[k] = x at *
          go_wp2
          go_round
          case rel => exact ⟨i, k + 1, by omega, by omega, rfl, by go_num, HN⟩
          case measure => simp [intOf]; omega
      · have HE : Hid (v.isSublist z = ((i : Int) == (v.length : Int))) := by
          unfold Hid
          rw [← HT.out, sub_end (by omega), Bool.eq_iff_iff]
          simp; omega
        go_wp2
        go_ret2
        exact ⟨by rw [HR.out]; unfold boolOut; rw [HE.out]; rfl, rfl⟩
  · have HC := Lib.hid (check2_bad L A c v B d z w hL hA hB hv hz e0 hc)
    have HR : Hid (subOut L v z = (false, e0 + 1)) := by unfold subOut Hid; rw [if_neg (by omega), hc]
    clear hc
    generalize hE : ((e0 + 1 : Nat) : Int) = E at *
    have HE := Lib.hid hE
    clear hE
    go_enter Try.func11, Try.ntmps11
    go_wp2_with fail
    refine HC.out.mono ?_
    rintro e w1 ⟨rfl, rfl⟩
    clear HC
    go_wp2
    go_ret2
    obtain rfl := HE.out
    exact ⟨by rw [HR.out]; rfl, rfl⟩

/-! ### Less -/
theorem nan_any (a : Int) (w : World) : Calls Try.prog 23 #[.int .i64 a] w fun e w' => e = .returned (.bool false) ∧ w = w' := by
  have h : (a != a) = false := by simp
  go_enter Try.func23, Try.ntmps23
  go_wp2
  go_ret
  exact ⟨rfl, rfl⟩
def cmpv (a b : Int) : Int := if a < b then -1 else if b < a then 1 else 0
theorem cmp_any (a b : Int) (w : World) : Calls Try.prog 22 #[.int .i64 a, .int .i64 b] w fun e w' => Hid (e = .returned (.int .i64 (cmpv a b))) ∧ w = w' := by
  have HA := Lib.hid (fun w => nan_any a w)
  have HB := Lib.hid (fun w => nan_any b w)
  rcases (show a < b ∨ (¬ a < b ∧ b < a) ∨ (¬ a < b ∧ ¬ b < a) by omega) with h | ⟨h, h'⟩ | ⟨h, h'⟩
  · have HR : Hid (cmpv a b = -1) := by unfold cmpv Hid; rw [if_pos h]
    go_enter Try.func22, Try.ntmps22
    go_wp2_with fail
    refine (HA.out _).mono ?_
    rintro e w1 ⟨rfl, rfl⟩
    go_wp2_with fail
    refine (HB.out _).mono ?_
    rintro e w1 ⟨rfl, rfl⟩
    go_wp2
    go_ret
    exact ⟨by rw [HR.out]; rfl, rfl⟩
  · have HR : Hid (cmpv a b = 1) := by unfold cmpv Hid; rw [if_neg h, if_pos h']
    go_enter Try.func22, Try.ntmps22
    go_wp2_with fail
    refine (HA.out _).mono ?_
    rintro e w1 ⟨rfl, rfl⟩
    go_wp2_with fail
    refine (HB.out _).mono ?_
    rintro e w1 ⟨rfl, rfl⟩
    go_wp2
    go_ret
    exact ⟨by rw [HR.out]; rfl, rfl⟩
  · have HR : Hid (cmpv a b = 0) := by unfold cmpv Hid; rw [if_neg h, if_neg h']
    go_enter Try.func22, Try.ntmps22
    go_wp2_with fail
    refine (HA.out _).mono ?_
    rintro e w1 ⟨rfl, rfl⟩
    go_wp2_with fail
    refine (HB.out _).mono ?_
    rintro e w1 ⟨rfl, rfl⟩
    go_wp2
    go_ret
    exact ⟨by rw [HR.out]; rfl, rfl⟩
/-- What slices.Compare of two words of one length says. -/
def CmpOut (v z : List Int) (e : Ending) : Prop := ∃ c : Int, e = .returned (.int .i64 c) ∧ decide (c < 0) = lx v z
set_option maxRecDepth 100000 in
set_option maxHeartbeats 1000000 in
theorem compare_any (A : Option Addr) (c : Nat) (v : List Int) (B : Option Addr) (d : Nat) (z : List Int) (w : World) (hA : IntsAt w w.heap.size A v) (hB : IntsAt w w.heap.size B z) (hl : v.length = z.length) (hv : v.length ≤ 80) :
    Calls Try.prog 20 #[.slice A v.length c, .slice B z.length d] w fun e w' => Hid (CmpOut v z e) ∧ w = w' := by
  have HA := Lib.hid hA
  have HB := Lib.hid hB
  have hl1 : v.length ≤ z.length := by omega
  have hl2 : z.length ≤ v.length := by omega
  have HC := Lib.hid (fun a b w => cmp_any a b w)
  clear hA hB hl
  go_enter Try.func20, Try.ntmps20
  go_wp2
  go_loop [11] (fun j => ∃ (k : Nat), k ≤ v.length ∧ j = .int .i64 k ∧ Hid (lx (v.drop k) (z.drop k) = lx v z)) (fun j => v.length - (intOf j).toNat)
  case atStart => exact ⟨0, by omega, rfl, rfl⟩
  case round =>
    obtain ⟨k, hk, rfl, HT⟩ := hrel
    by_cases hlt : k < v.length
    · obtain ⟨ad, rfl, hadb, hcell, hs1, hs2⟩ := HA.out.at_ k hlt
      obtain ⟨ad2, rfl, hadb2, hcell2, ht1, ht2⟩ := HB.out.at_ k (by omega)
      have hlz : k < z.length := by omega
      by_cases he : v[k] = z[k]
      · have HN : Hid (lx (v.drop (k + 1)) (z.drop (k + 1)) = lx v z) := (lx_same hlt hlz he).trans HT.out
        have HV : Hid (cmpv v[k] z[k] = 0) := by unfold cmpv Hid; rw [if_neg (by omega), if_neg (by omega)]
        have HX := Lib.hid (fun w => HC.out v[k] z[k] w)
        clear he HC
        generalize z[k] = x at *
        generalize v[k] = y at *
        go_wp2_with fail
        refine (HX.out _).mono ?_
        rintro e w1 ⟨he, rfl⟩
        obtain rfl : e = .returned (.int .i64 0) := by rw [he.out, HV.out]
        clear he HX
        go_wp2
        go_round
        case rel => exact ⟨k + 1, by omega, by go_num, HN⟩
        case measure => simp [intOf]; omega
      · have HN : Hid (decide (v[k] < z[k]) = lx v z) := (lx_diff hlt hlz he).symm.trans HT.out
        have HX := Lib.hid (fun w => HC.out v[k] z[k] w)
        clear HC
        generalize z[k] = x at *
        generalize v[k] = y at *
        obtain ⟨q, HQ, hq0⟩ : ∃ q, Hid (cmpv y x = q ∧ (q < 0 ↔ y < x)) ∧ (q != 0) = true := by
          unfold cmpv
          by_cases h : y < x
          · exact ⟨-1, by simp [Hid, h], by decide⟩
          · exact ⟨1, by simp [Hid, h, show x < y by omega], by decide⟩
        clear he
        go_wp2_with fail
        refine (HX.out _).mono ?_
        rintro e w1 ⟨he, rfl⟩
        obtain rfl : e = .returned (.int .i64 q) := by rw [he.out, HQ.out.1]
        clear he HX
        go_wp2
        go_ret
        exact ⟨⟨q, rfl, by rw [← HN.out, decide_eq_decide]; exact HQ.out.2⟩, rfl⟩
    · have HE : Hid (lx v z = false) := by unfold Hid; rw [← HT.out]; exact lx_end (by omega)
      go_wp2
      go_ret
      exact ⟨⟨0, rfl, by rw [HE.out]; rfl⟩, rfl⟩

set_option maxRecDepth 100000 in
set_option maxHeartbeats 1000000 in
theorem less_any (L : Int) (A : Option Addr) (c : Nat) (v : List Int) (B : Option Addr) (d : Nat) (z : List Int) (w : World) (hL : Small L) (hA : IntsAt w w.heap.size A v) (hB : IntsAt w w.heap.size B z) (hv : v.length ≤ 17592186044416) (hz : z.length ≤ 17592186044416) :
    Calls Try.prog 12 #[.int .i64 L, .slice A v.length c, .slice B z.length d] w fun e w' => Hid (e = boolOut (lessOut L v z)) ∧ w = w' := by
  rcases hc : chk2 L v z with _ | e0
  · have HC := Lib.hid (check2_ok L A c v B d z w hL hA hB hv hz hc)
    obtain ⟨⟨_, h80, _⟩, _, k80, _⟩ := chk2_iff.1 hc
    have HR : Hid (lessOut L v z = (lss v z, 0)) := by unfold lessOut Hid; rw [if_pos hc]
    clear hc
    by_cases hl : v.length = z.length
    · have HX := Lib.hid (compare_any A c v B d z w hA hB hl h80)
      have HS : Hid (lss v z = lx v z) := by unfold lss Hid; rw [if_pos hl]
      have hne : ((v.length : Int) != (z.length : Int)) = false := by simp; omega
      clear hl hA hB
      go_enter Try.func12, Try.ntmps12
      go_wp2_with fail
      refine HC.out.mono ?_
      rintro e w1 ⟨rfl, rfl⟩
      clear HC
      go_wp2_with fail
      refine HX.out.mono ?_
      rintro e w1 ⟨he, rfl⟩
      obtain ⟨q, rfl, hq⟩ := he.out
      have HQ := Lib.hid hq
      clear he hq HX
      go_wp2
      go_ret2
      exact ⟨by rw [HR.out, HS.out, ← HQ.out]; rfl, rfl⟩
    · have HS : Hid (lss v z = decide ((v.length : Int) < (z.length : Int))) := by
        unfold lss Hid; rw [if_neg hl, decide_eq_decide]; omega
      have hne : ((v.length : Int) != (z.length : Int)) = true := by simp; omega
      clear hl hA hB
      go_enter Try.func12, Try.ntmps12
      go_wp2_with fail
      refine HC.out.mono ?_
      rintro e w1 ⟨rfl, rfl⟩
      clear HC
      go_wp2
      go_ret2
      exact ⟨by unfold Hid; rw [HR.out, HS.out]; simp [boolOut, errV], rfl⟩
  · have HC := Lib.hid (check2_bad L A c v B d z w hL hA hB hv hz e0 hc)
    have HR : Hid (lessOut L v z = (false, e0 + 1)) := by unfold lessOut Hid; rw [if_neg (by omega), hc]
    clear hc
    generalize hE : ((e0 + 1 : Nat) : Int) = E at *
    have HE := Lib.hid hE
    clear hE
    go_enter Try.func12, Try.ntmps12
    go_wp2_with fail
    refine HC.out.mono ?_
    rintro e w1 ⟨rfl, rfl⟩
    clear HC
    go_wp2
    go_ret2
    obtain rfl := HE.out
    exact ⟨by rw [HR.out]; rfl, rfl⟩

/-! ### the laws' own -/
end Go.Proofs.Ytiaoffaaflmgiaa.Wo
