/- The walks of package near's small functions: slices.Index, behind, checkBoth and nextRow. -/
import Derived.Test.YtfiknbdpjnpkdaaProg
import Derived.Test.YtfiknbdpjnpkdaaNearM
import Derived.Test.YtfiknbdpjnpkdaaWordW
import Derived.Deep.QuietTactic
import Derived.BigQuiet
namespace Go.Proofs.Ytfiknbdpjnpkdaa.Ne
open Go.RowKit Go.IntWalk Go.Proofs.Ytfiknbdpjnpkdaa.Wd Go.Proofs.Ytfiknbdpjnpkdaa.Wo

theorem cut_hit {a : Int} {z : List Int} {k : Nat} (hk : k < z.length) (he : z[k] = a) : cut a (z.drop k) = some (z.drop (k + 1)) := by
  rw [List.drop_eq_getElem_cons hk, cut, if_pos he]
theorem cut_miss {a : Int} {z : List Int} {k : Nat} (hk : k < z.length) (he : ¬ z[k] = a) : cut a (z.drop (k + 1)) = cut a (z.drop k) := by
  rw [List.drop_eq_getElem_cons hk, cut, if_neg he]
theorem cut_over {a : Int} {z : List Int} {k : Nat} (hk : z.length ≤ k) : cut a (z.drop k) = none := by
  rw [List.drop_of_length_le hk]; rfl
/-- What slices.Index returns. -/
def IdxOut (a : Int) (z : List Int) (r : Int) : Prop := (r = -1 ∧ cut a z = none) ∨ ∃ k : Nat, r = k ∧ k < z.length ∧ cut a z = some (z.drop (k + 1))
set_option maxRecDepth 100000 in
set_option maxHeartbeats 1000000 in
theorem idx_any (A : Option Addr) (c : Nat) (z : List Int) (a : Int) (w : World) (hA : IntsAt w w.heap.size A z) (hz : z.length ≤ 17592186044416) :
    Calls Try.prog 57 #[.slice A z.length c, .int .i64 a] w fun e w' => Hid (∃ r : Int, e = .returned (.int .i64 r) ∧ IdxOut a z r) ∧ w = w' := by
  have HA := Lib.hid hA
  clear hA
  go_enter Try.func57, Try.ntmps57
  go_wp2
  go_loop [8] (fun j => ∃ (k : Nat), k ≤ z.length ∧ j = .int .i64 k ∧ Hid (cut a (z.drop k) = cut a z)) (fun j => z.length - (intOf j).toNat)
  case atStart => exact ⟨0, by omega, rfl, rfl⟩
  case round =>
    obtain ⟨k, hk, rfl, HT⟩ := hrel
    by_cases hlt : k < z.length
    · obtain ⟨ad, rfl, hadb, hcell, hs1, hs2⟩ := HA.out.at_ k hlt
      by_cases he : z[k] = a
      · have HR : Hid (cut a z = some (z.drop (k + 1))) := HT.out.symm.trans (cut_hit hlt he)
        have he1 : (a == z[k]) = true := by rw [he]; simp
        clear he
        generalize z[k] = x at *
        go_wp2
        go_ret
        exact ⟨⟨k, rfl, .inr ⟨k, rfl, hlt, HR.out⟩⟩, rfl⟩
      · have HN : Hid (cut a (z.drop (k + 1)) = cut a z) := (cut_miss hlt he).trans HT.out
        have he1 : (a == z[k]) = false := by simpa using fun e => he e.symm
        clear he
        generalize z[k] = x at *
        go_wp2
        go_round
        case rel => exact ⟨k + 1, by omega, by go_num, HN⟩
        case measure => simp [intOf]; omega
    · have HR : Hid (cut a z = none) := HT.out.symm.trans (cut_over (by omega))
      go_wp2
      go_ret
      exact ⟨⟨-1, rfl, .inl ⟨rfl, HR.out⟩⟩, rfl⟩

set_option maxRecDepth 100000 in
/-- 'z[i:]', what came in or was made. -/
theorem slice_from {w : World} {B : Nat} {A : Option Addr} {z : List Int} (hA : IntsAt w B A z) {c : Nat} (hc : z.length ≤ c) {i : Nat} (hi : i ≤ z.length) :
    ∃ A' : Option Addr, (∀ W : World, (Instr.slice 26 (.slice A z.length c) (some (.int .i64 (i : Int))) none none).run Try.prog W = .ok (.slice A' (z.drop i).length (c - i)) W) ∧ IntsAt w B A' (z.drop i) := by
  refine ⟨if c = i then A else A.map (·.add i), fun W => ?_, ?_⟩
  · have h := run_slice_l (P := Try.prog) W 26 A z.length c (by exact Try.underlying26) .i64 (i : Int) (by omega) (by omega)
    obtain ⟨i0, hi0, hz0, hz1, hz2⟩ := info_parts infoI
    rw [h]
    have he : Try.prog.elem 26 = 3 := by kernel_rfl
    rw [he]
    simp [sizeOf, typeInfo, hi0, hz1, sliced, Result.andThen]
  · refine ⟨fun k u hk => ?_, fun x hx => hA.2 x (List.mem_of_mem_drop hx)⟩
    rw [List.map_drop, List.getElem?_drop] at hk
    have hlt : i + k < z.length := by
      have := (List.getElem?_eq_some_iff.1 hk).1
      simpa using this
    obtain ⟨ad, e, h1, h2⟩ := hA.1 _ _ hk
    subst e
    rw [if_neg (by omega)]
    refine ⟨ad.add i, rfl, by rw [block_add]; exact h1, ?_⟩
    rw [Addr.add_add]
    exact h2
/-- What behind returns. -/
def BehOut (a : Int) (z : List Int) (i : Nat) (e : Ending) : Prop :=
  (e = .returned (.tuple #[.int .i64 0, .bool false]) ∧ cut a (z.drop i) = none) ∨ ∃ k : Nat, e = .returned (.tuple #[.int .i64 (k : Int), .bool true]) ∧ i < k ∧ k ≤ z.length ∧ cut a (z.drop i) = some (z.drop k)
/-! ### checkBoth -/
theorem nchk_any (L : Int) (A : Option Addr) (c : Nat) (v : List Int) (B : Option Addr) (d : Nat) (z : List Int) (w : World) (hL : Small L) (hA : IntsAt w w.heap.size A v) (hB : IntsAt w w.heap.size B z) (hv : v.length ≤ 17592186044416) (hz : z.length ≤ 17592186044416) :
    Calls Try.prog 25 #[.int .i64 L, .slice A v.length c, .slice B z.length d] w fun e w' => Hid (e = .returned (errV (chk2 L v z))) ∧ w = w' := by
  rcases hc : chk L v with _ | e0
  · have HC := Lib.hid (check_ok L A c v w hL hA hv hc)
    have HD := Lib.hid (check_any L B d z w hL hB hz)
    obtain ⟨E, HE⟩ : ∃ E, Hid (E = errV (chk2 L v z)) := ⟨_, rfl⟩
    have HR : Hid (E = errV (chk L z)) := by unfold Hid; rw [HE.out]; unfold chk2; rw [if_pos hc]
    clear hc hA hB
    go_enter Try.func25, Try.ntmps25
    go_wp2_with fail
    refine HC.out.mono ?_
    rintro e w1 ⟨rfl, rfl⟩
    clear HC
    go_wp2_with fail
    refine HD.out.mono ?_
    rintro e w1 ⟨he, rfl⟩
    obtain rfl : e = .returned E := by rw [he.out, HR.out]
    clear he HD
    go_wp2
    go_ret
    exact ⟨by rw [← HE.out]; rfl, rfl⟩
  · have HC := Lib.hid (check_bad L A c v w hL hA hv _ e0 hc rfl)
    have HR : Hid (chk2 L v z = e0 + 1) := by unfold chk2 Hid; rw [if_neg (by omega), hc]
    clear hc
    generalize hE : ((e0 + 1 : Nat) : Int) = E at *
    have HE := Lib.hid hE
    clear hE
    go_enter Try.func25, Try.ntmps25
    go_wp2_with fail
    refine HC.out.mono ?_
    rintro e w1 ⟨rfl, rfl⟩
    clear HC
    go_wp2
    go_ret
    obtain rfl := HE.out
    exact ⟨by rw [HR.out]; rfl, rfl⟩
theorem nchk_ok (L : Int) (A : Option Addr) (c : Nat) (v : List Int) (B : Option Addr) (d : Nat) (z : List Int) (w : World) (hL : Small L) (hA : IntsAt w w.heap.size A v) (hB : IntsAt w w.heap.size B z) (hv : v.length ≤ 17592186044416) (hz : z.length ≤ 17592186044416) (h : chk2 L v z = 0) :
    Calls Try.prog 25 #[.int .i64 L, .slice A v.length c, .slice B z.length d] w fun e w' => e = .returned .nilIface ∧ w = w' :=
  (nchk_any L A c v B d z w hL hA hB hv hz).mono fun e w' ⟨he, hw⟩ => ⟨by rw [he.out, h]; rfl, hw⟩
theorem nchk_bad (L : Int) (A : Option Addr) (c : Nat) (v : List Int) (B : Option Addr) (d : Nat) (z : List Int) (w : World) (hL : Small L) (hA : IntsAt w w.heap.size A v) (hB : IntsAt w w.heap.size B z) (hv : v.length ≤ 17592186044416) (hz : z.length ≤ 17592186044416) (e0 : Nat) (h : chk2 L v z = e0 + 1) :
    Calls Try.prog 25 #[.int .i64 L, .slice A v.length c, .slice B z.length d] w fun e w' => e = .returned (.iface 55 (.int .i64 ((e0 + 1 : Nat) : Int))) ∧ w = w' :=
  (nchk_any L A c v B d z w hL hA hB hv hz).mono fun e w' ⟨he, hw⟩ => ⟨by rw [he.out, h]; rfl, hw⟩

/-! ### nextRow -/
theorem nums_ex {B : Nat} {w0 w : World} {l : List Int} {g n cap : Nat} (h : Nums B w0 l (.slice (some ⟨g, 0, none⟩) n cap) w) (hn : l.length = n) (j : Nat) (hj : j < n) :
    ∃ y : Int, l[j]? = some y ∧ w.cell? ⟨g, j, none⟩ = some (.int .i64 y) ∧ w.frozen? ⟨g, j, none⟩ = false := by
  have := nums_cell h hn.symm j (by omega)
  exact ⟨_, List.getElem?_eq_getElem (by omega), this.1, this.2⟩
theorem add_zero (a : Addr) : a.add 0 = a := by
  unfold Addr.add
  split <;> simp_all
theorem ints_get {w : World} {B : Nat} {a : Option Addr} {zs : List Int} (h : IntsAt w B a zs) {k : Nat} {y : Int} (hk : zs[k]? = some y) :
    ∃ ad, a = some ad ∧ ad.block < B ∧ w.cell? (ad.add k) = some (.int .i64 y) ∧ k < zs.length := by
  obtain ⟨h1, h2⟩ := List.getElem?_eq_some_iff.1 hk
  obtain ⟨ad, e, h3, h4, _⟩ := h.at_ k h1
  exact ⟨ad, e, h3, by rw [← h2]; exact h4, h1⟩
/-- The distances of v from all beginnings of z. -/
def PRow (v z l : List Int) : Prop := l.length = z.length + 1 ∧ ∀ j, j ≤ z.length → l[j]? = some ((lev v (z.take j) : Nat) : Int)
/-- .. as far as place k. -/
def PPart (v z : List Int) (k : Nat) (l : List Int) : Prop := l.length = z.length + 1 ∧ ∀ j, j ≤ k → l[j]? = some ((lev v (z.take j) : Nat) : Int)
theorem ppart_zero {v z l : List Int} (h : l.length = z.length + 1) : PPart v z 0 (l.set 0 (v.length : Int)) := by
  refine ⟨by rw [List.length_set]; exact h, fun j hj => ?_⟩
  obtain rfl : j = 0 := by omega
  rw [List.getElem?_set, if_pos rfl, if_pos (by omega), List.take_zero, lev_nil2]
theorem ppart_next {v z : List Int} {k : Nat} {l : List Int} (h : PPart v z k l) (x : Int) (hk : k < z.length) (hx : x = ((lev v (z.take (k + 1)) : Nat) : Int)) : PPart v z (k + 1) (l.set (k + 1) x) := by
  refine ⟨by rw [List.length_set]; exact h.1, fun j hj => ?_⟩
  rw [List.getElem?_set]
  split
  · rename_i e
    subst e
    rw [if_pos (by rw [h.1]; omega), hx]
  · exact h.2 j (by omega)
theorem ppart_end {v z l : List Int} (h : PPart v z z.length l) : PRow v z l := h
theorem lev_row {v z : List Int} {a : Int} {k : Nat} (hk : k < z.length) : lev (v ++ [a]) (z.take (k + 1)) = min (lev v (z.take k) + neq a z[k]) (min (lev v (z.take (k + 1)) + 1) (lev (v ++ [a]) (z.take k) + 1)) := by
  rw [← List.take_append_getElem hk, lev_snoc]
theorem lev_take (v z : List Int) (k : Nat) : lev v (z.take k) ≤ v.length + z.length := by
  have h := lev_max v (z.take k)
  have := List.length_take (i := k) (l := z)
  omega
/-- Go's min of three. -/
theorem min_three (x y z v : Int) (hv : v = min x (min y z)) (W : World) : (Builtin.min_ #[3, 3, 3] 3 #[.int .i64 x, .int .i64 y, .int .i64 z]).run Try.prog W = .ok (.int .i64 v) W := by
  have e : v = if z < (if y < x then y else x) then z else (if y < x then y else x) := by
    rw [hv]; repeat' split
    all_goals omega
  rw [e]
  simp [Builtin.min_, Builtin.min2, List.foldlM]
set_option maxRecDepth 100000 in
set_option maxHeartbeats 1000000 in
theorem nextRow_any (R : Option Addr) (c : Nat) (l : List Int) (a : Int) (B : Option Addr) (d : Nat) (z v : List Int) (w : World) (hR : IntsAt w w.heap.size R l) (hB : IntsAt w w.heap.size B z) (hl : PRow v z l) (hz : z.length ≤ 80) (hv : v.length ≤ 80) :
    Calls Try.prog 26 #[.slice R (z.length + 1) c, .int .i64 a, .slice B z.length d] w fun e w' => Hid (∃ x l', e = .returned x ∧ Nums w.heap.size w l' x w' ∧ PRow (v ++ [a]) z l') := by
  have HR := Lib.hid hR
  have HB := Lib.hid hB
  have HP := Lib.hid hl
  obtain ⟨n, hn⟩ : ∃ n, n = z.length + 1 := ⟨_, rfl⟩
  have h00 : Hid (∃ y : Int, l[0]? = some y ∧ y + 1 = ((v ++ [a]).length : Int)) := ⟨_, hl.2 0 (by omega), by rw [List.take_zero, lev_nil2]; simp⟩
  obtain ⟨y, hy1, hy2⟩ := h00.out
  obtain ⟨ad, had, hadb, hcell, _⟩ := ints_get hR hy1
  subst had
  have hy3 : 0 ≤ y ∧ y ≤ 200 := by
    have : y + 1 = (v.length : Int) + 1 := by rw [hy2]; simp
    omega
  have HY := Lib.hid hy2
  clear hR hB hl h00 hy1 hy2
  go_enter Try.func26, Try.ntmps26
  go_wp2_with (at_make; refine mk_ints rfl _ _ rfl (z.length + 1) rfl rfl (by omega) ?_)
  intro w1 hn1
  have HN := Lib.hid hn1
  obtain ⟨hc1, hf1⟩ := nums_cell hn1 (by simp) 0 (by simp)
  have hcell1 : w1.cell? (ad.add 0) = some (.int .i64 y) := (hn1.2.1.cell (by rw [block_add]; exact hadb)).trans hcell
  rw [add_zero ad] at hcell1
  clear hn1 hcell
  generalize (List.replicate (z.length + 1) (0 : Int))[0] = y0 at *
  have HS : Hid (∃ l', Nums w.heap.size w l' (.slice (some ⟨w.heap.size, 0, none⟩) (z.length + 1) (z.length + 1)) (w1.setCell ⟨w.heap.size, 0, none⟩ (.int .i64 (y + 1))) ∧ PPart (v ++ [a]) z 0 l') := by
    rw [HY.out]
    exact ⟨_, nums_set HN.out (by simp) 0 _, ppart_zero (by simp)⟩
  clear HN HY
  go_wp2
  go_loopw [23] (fun i wr => ∃ (k : Nat), k ≤ z.length ∧ i = .int .i64 k ∧ Hid (∃ l', Nums w.heap.size w l' (.slice (some ⟨w.heap.size, 0, none⟩) (z.length + 1) (z.length + 1)) wr ∧ PPart (v ++ [a]) z k l')) (fun i _ => z.length - (intOf i).toNat)
  case atStart => exact ⟨0, by omega, rfl, HS⟩
  case round =>
    obtain ⟨k, hk, rfl, HM⟩ := hrel
    obtain ⟨m, hm, hp⟩ := HM.out
    have HL := Lib.hid hm
    have HQ := Lib.hid hp
    clear HM HS hm hp hf1 hcell1 hc1
    by_cases hlt : k < z.length
    · obtain ⟨bd, rfl, hbdb, hcb, _, _⟩ := (nums_keep HL.out rfl HB.out).at_ k hlt
      have hR := nums_keep HL.out rfl HR.out
      obtain ⟨ad1, q1, hadb1, hx, _⟩ := ints_get hR (HP.out.2 k (by omega))
      cases q1
      obtain ⟨ad2, q2, hadb2, hy, _⟩ := ints_get hR (HP.out.2 (k + 1) (by omega))
      cases q2
      rw [Addr.add_succ'] at hy
      obtain ⟨y1, hz0, hc0, _⟩ := nums_ex HL.out HQ.out.1 k (by omega)
      obtain rfl := Option.some.inj (hz0.symm.trans (HQ.out.2 k (by omega)))
      obtain ⟨old, _, hc1, hf1⟩ := nums_ex HL.out HQ.out.1 (k + 1) (by omega)
      have hle := lev_row (v := v) (a := a) hlt
      have b1 := lev_take v z k
      have b2 := lev_take v z (k + 1)
      have b3 := lev_take (v ++ [a]) z k
      rw [List.length_append, List.length_singleton] at b3
      have HN : Hid (∀ x : Int, x = ((lev (v ++ [a]) (z.take (k + 1)) : Nat) : Int) → ∃ l', Nums w.heap.size w l' (.slice (some ⟨w.heap.size, 0, none⟩) (z.length + 1) (z.length + 1)) (wr.setCell ⟨w.heap.size, k + 1, none⟩ (.int .i64 x)).drew ∧ PPart (v ++ [a]) z (k + 1) l') :=
        fun x hx => ⟨_, nums_on (nums_set HL.out HQ.out.1.symm _ _) (Below.refl _ _).drew, ppart_next HQ.out _ hlt hx⟩
      have HE := Lib.hid hle
      clear hR hle hz0
      generalize lev v (z.take k) = X at *
      generalize lev v (z.take (k + 1)) = Y at *
      generalize lev (v ++ [a]) (z.take k) = Z at *
      generalize lev (v ++ [a]) (z.take (k + 1)) = V at *
      have hw1 : IntKind.i64.wrap ((k : Int) + 1) = (k : Int) + 1 := IntWalk.i64_in _ ⟨by omega, by omega⟩
      have hw2 : IntKind.i64.wrap ((Y : Int) + 1) = (Y : Int) + 1 := IntWalk.i64_in _ ⟨by omega, by omega⟩
      have hw3 : IntKind.i64.wrap ((Z : Int) + 1) = (Z : Int) + 1 := IntWalk.i64_in _ ⟨by omega, by omega⟩
      have hk1 : (0 : Int) ≤ (k : Int) + 1 := by omega
      have hk2 : (k : Int) + 1 < (z.length : Int) + 1 := by omega
      have hk3 : (k : Int) < (z.length : Int) + 1 := by omega
      by_cases he : a = z[k]
      · have he1 : (z[k] != a) = false := by rw [he]; simp
        have hmin := min_three (X : Int) ((Y : Int) + 1) ((Z : Int) + 1) (V : Int) (by have := HE.out; rw [← he, neq_self] at this; omega)
        clear he HE
        generalize z[k] = b at *
        go_wp2_with fail
        go_region
        go_wp2
        go_roundw
        case rel => exact ⟨k + 1, by omega, by go_num, HN.out _ rfl⟩
        case measure => simp [intOf]; omega
      · have he1 : (z[k] != a) = true := by simpa using fun e => he e.symm
        have hmin := min_three ((X : Int) + 1) ((Y : Int) + 1) ((Z : Int) + 1) (V : Int) (by have := HE.out; unfold neq at this; rw [if_neg he] at this; omega)
        clear he HE
        generalize z[k] = b at *
        go_wp2_with fail
        go_region
        go_wp2
        go_roundw
        case rel => exact ⟨k + 1, by omega, by go_num, HN.out _ rfl⟩
        case measure => simp [intOf]; omega
    · obtain rfl : k = z.length := by omega
      go_wp2
      go_ret
      exact ⟨_, m, rfl, HL.out, ppart_end HQ.out⟩
end Go.Proofs.Ytfiknbdpjnpkdaa.Ne
