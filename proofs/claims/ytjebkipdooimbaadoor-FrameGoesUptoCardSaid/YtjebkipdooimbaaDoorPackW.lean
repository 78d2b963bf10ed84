/- The walks of package pack's writers: what appendNum, Num and List return, by plain base-128 digits. -/
import Derived.Test.YtjebkipdooimbaaDoorProg
import Derived.Test.YtjebkipdooimbaaDoorPackM
import Derived.Test.YtjebkipdooimbaaDoorWords
import Derived.WalkKit
import Derived.OpenShut
import Derived.Laws.IdiomStrings
import Derived.Lib.Hide
namespace Go.Proofs.YtjebkipdooimbaaDoor.Pk
open Go.RowKit Go.IntWalk Go.Proofs.YtjebkipdooimbaaDoor.Wd

/-- A byte as a cell. -/
def cel (b : UInt8) : Value := .int .u8 (b.toNat : Int)
theorem info5 : (Tryd.prog.info? 5).map (fun i => (i.zero, i.size, i.bytes)) = some (some (.int .u8 0), 1, 1) := by kernel_rfl

theorem cel_ofNat (n : Nat) (h : n < 256) : cel (UInt8.ofNat n) = .int .u8 (n : Int) := by
  unfold cel; rw [ofNat_toNat n h]

theorem one_cell (w : World) (x y : Value) (t : TypeId) (h : y = x) : ∀ (j : Nat) (u : Value), [x][j]? = some u → (w.alloc (.cells #[y] t)).cell? ((⟨w.heap.size, 0, none⟩ : Addr).add j) = some u := by
  intro j u hj
  subst h
  rcases j with _ | j
  · simp at hj; subst hj; simp [Addr.add]
  · simp at hj
theorem one_one (b : UInt8) : ∀ (u : Value), u ∈ [cel b] → u.oneCell' = true := by
  intro u hu
  simp at hu; subst hu; rfl

/-- What a writer leaves: the bytes so far, in a row of its own from block B on. -/
def Wrote (B : Nat) (w0 : World) (l : List UInt8) (v : Value) (w : World) : Prop :=
  w.ownsRow B 5 1 v l.length (l.map cel) ∧ Below B w0 w ∧ B ≤ w.heap.size
theorem wrote_nil (w : World) : Wrote w.heap.size w [] (.slice none 0 0) w := ⟨World.ownsRow_nil _ _ _ _, Below.refl _ _, Nat.le_refl _⟩
theorem wrote_more {B : Nat} {w0 w w1 : World} {l : List UInt8} {v v' : Value} {b : UInt8} {o : Obj} (h : Wrote B w0 l v w)
    (hown : w1.ownsRow B 5 1 v' (l.length + 1) (l.map cel ++ [cel b])) (hg : (w.alloc o).grownBy w1 v.ownBlock) : Wrote B w0 (l ++ [b]) v' w1 := by
  obtain ⟨h1, h2, h3⟩ := h
  refine ⟨by simpa using hown, (h2.alloc h3 o).grown hg (by simp; omega) (fun k hk => (h1.lt k hk).1), ?_⟩
  have := hg.size
  simp at this
  omega

/-- The place in the loop: what is written, what is left. -/
def Left (n : Nat) (done : List UInt8) (m : Nat) : Prop := ∃ f, m < 128 ^ (f + 1) ∧ done ++ enc f m = num n
theorem left_start (n : Nat) (h : n < 9223372036854775808) : Left n [] n := ⟨8, by
  have e9 : 128 ^ (8 + 1) = 9223372036854775808 := by decide
  omega, rfl⟩
theorem left_step {n m : Nat} {done : List UInt8} (h : Left n done m) (hm : 128 ≤ m) : Left n (done ++ [UInt8.ofNat (m % 128 + 128)]) (m / 128) := by
  obtain ⟨f, h1, h2⟩ := h
  rcases f with _ | f
  · simp at h1; omega
  · refine ⟨f, ?_, ?_⟩
    · rw [Nat.pow_succ] at h1
      exact Nat.div_lt_of_lt_mul (by omega)
    · rw [← h2, List.append_assoc]
      unfold enc
      rw [if_neg (by omega)]
      cases f <;> simp [enc]
theorem left_end {n m : Nat} {done : List UInt8} (h : Left n done m) (hm : m < 128) : done ++ [UInt8.ofNat m] = num n := by
  obtain ⟨f, h1, h2⟩ := h
  rw [← h2]
  cases f <;> simp [enc, hm]
theorem left_len {n m : Nat} {done : List UInt8} (h : Left n done m) : done.length < 9 := by
  obtain ⟨f, h1, h2⟩ := h
  have := num_len n
  have h3 := enc_len f m
  rw [← h2, List.length_append] at this
  omega

set_option maxRecDepth 100000 in
set_option maxHeartbeats 1000000 in
theorem appendNum_any (v : Value) (bs : List UInt8) (n : Nat) (w0 w : World) (B : Nat) (hW : Wrote B w0 bs v w) (hn : n < 9223372036854775808) (hl : bs.length ≤ 100000) :
    Calls Tryd.prog 27 #[v, .int .i64 (n : Int)] w fun e w' => ∃ v', e = .returned v' ∧ Wrote B w0 (bs ++ num n) v' w' := by
  obtain ⟨i0, hi, hz0, hz1, hz2⟩ := info_parts info5
  have hn' : (n : Int) ≤ 9223372036854775807 := by omega
  have HS : Hid (Left n [] n) := left_start n hn
  have HW : Hid (Wrote B w0 bs v w) := Lib.hid hW
  clear hW hn
  go_enter Tryd.func27, Tryd.ntmps27
  go_wp2
  go_loopw [0, 1] (fun b i wr => ∃ (m : Nat) (done cur : List UInt8), (m : Int) ≤ 9223372036854775807 ∧ i = .int .i64 m ∧ Hid (Left n done m) ∧ Hid (cur = bs ++ done) ∧ Hid (Wrote B w0 cur b wr)) (fun _ i _ => (intOf i).toNat)
  case atStart => exact ⟨n, [], bs, hn', rfl, HS, (List.append_nil bs).symm, HW⟩
  case round =>
    obtain ⟨m, done, cur, hm, rfl, HL, HC, HO⟩ := hrel
    have hdl := left_len HL.out
    have hbl : cur.length ≤ 100100 := by rw [HC.out, List.length_append]; omega
    by_cases h128 : 128 ≤ m
    · obtain ⟨x, HX⟩ : ∃ x, Hid (x = UInt8.ofNat (m % 128 + 128)) := ⟨_, rfl⟩
      have hown := HO.out.1
      have hbase := HO.out.2.2
      have HO' := HO
      clear HO
      go_wp2_with (at_builtin; refine wpList_append_own _ rfl _ _ 46 rfl B 5 i0 (.int .u8 0) 1 1 Tryd.underlying46 hi hz0 hz1 hz2 rfl (by decide) _ _ _ rfl (hown.alloc _) ⟨wr.heap.size, 0, none⟩ 1 1 [cel x] rfl rfl ?c1 ?c2 ?c3 ?c4 ?c5 ?_)
      case c1 => exact one_cell _ _ _ _ (by rw [HX.out, cel_ofNat _ (by omega)]; go_num)
      case c2 => exact one_one _
      case c3 => unfold maxLen; omega
      case c4 => omega
      case c5 => simp; omega
      intro v' w1 hown' hgrow _
      have HN : Hid (Wrote B w0 (cur ++ [x]) v' w1) := by
        exact wrote_more HO'.out hown' hgrow
      clear hown' hgrow HO' hown
      go_wp2
      go_roundw
      case rel => exact ⟨m / 128, _, cur ++ [x], by omega, by go_num, left_step HL.out h128, by rw [HC.out, HX.out, List.append_assoc]; rfl, HN⟩
      case measure => simp [intOf]; omega
    · obtain ⟨x, HX⟩ : ∃ x, Hid (x = UInt8.ofNat m) := ⟨_, rfl⟩
      have hown := HO.out.1
      have hbase := HO.out.2.2
      have HO' := HO
      clear HO
      go_wp2_with (at_builtin; refine wpList_append_own _ rfl _ _ 46 rfl B 5 i0 (.int .u8 0) 1 1 Tryd.underlying46 hi hz0 hz1 hz2 rfl (by decide) _ _ _ rfl (hown.alloc _) ⟨wr.heap.size, 0, none⟩ 1 1 [cel x] rfl rfl ?d1 ?d2 ?d3 ?d4 ?d5 ?_)
      case d1 => exact one_cell _ _ _ _ (by rw [HX.out, cel_ofNat _ (by omega)])
      case d2 => exact one_one _
      case d3 => unfold maxLen; omega
      case d4 => omega
      case d5 => simp; omega
      intro v' w1 hown' hgrow _
      have HN : Hid (Wrote B w0 (bs ++ num n) v' w1) := by
        rw [← left_end HL.out (by omega), ← List.append_assoc, ← HC.out, ← HX.out]; exact wrote_more HO'.out hown' hgrow
      clear hown' hgrow HO' hown
      go_wp2
      go_ret
      exact ⟨v', rfl, HN⟩

theorem wrote_conv {B : Nat} {w0 w : World} {l : List UInt8} {v : Value} (h : Wrote B w0 l v w) (hne : 0 < l.length) :
    ∃ g cap, v = .slice (some ⟨g, 0, none⟩) l.length cap ∧ (convert 46 9 (.slice (some ⟨g, 0, none⟩) l.length cap)).run Tryd.prog w = .ok (.string (str l)) w := by
  obtain ⟨h1, _, _⟩ := h
  rcases h1.2 with ⟨_, h0⟩ | ⟨g, cap, cur, rfl, _⟩
  · omega
  · refine ⟨g, cap, rfl, run_convert_bytes_back (P := Tryd.prog) w 46 9 5 ⟨g, 0, none⟩ cap l Tryd.underlying46 Tryd.underlying5 Tryd.underlying9 ?_⟩
    intro j hj
    exact h1.cells (g := g) rfl j _ (by rw [List.getElem?_map, List.getElem?_eq_getElem hj]; rfl)

/-- Num of a number from 0 on. -/
theorem num_ok (n : Nat) (w : World) (hn : n < 9223372036854775808) :
    Calls Tryd.prog 18 #[.int .i64 (n : Int)] w fun e w' => e = .returned (.tuple #[.string (str (num n)), .nilIface]) ∧ Below w.heap.size w w' := by
  obtain ⟨l, HL⟩ : ∃ l, Hid (l = num n) := ⟨_, rfl⟩
  have hl : 0 < l.length := by rw [HL.out]; exact (num_len n).1
  have hfin : Hid (∀ w' : World, Below w.heap.size w w' → (Ending.returned (.tuple #[.string (str l), .nilIface]) : Ending) = .returned (.tuple #[.string (str (num n)), .nilIface]) ∧ Below w.heap.size w w') := fun w' hb => ⟨by rw [HL.out], hb⟩
  have hc := appendNum_any (.slice none 0 0) [] n w w w.heap.size (wrote_nil w) hn (by simp)
  have HC := Lib.hid hc
  clear hc
  have hn' : (n : Int) ≤ 9223372036854775807 := by omega
  clear hn
  go_enter Tryd.func18, Tryd.ntmps18
  go_wp2_with fail
  refine HC.out.mono ?_
  rintro e w' ⟨v', rfl, hw⟩
  rw [List.nil_append, ← HL.out] at hw
  obtain ⟨g, cap, rfl, hcv⟩ := wrote_conv hw hl
  have HB := Lib.hid hw.2.1
  clear hw
  go_wp2
  go_ret2
  exact hfin.out _ HB.out
theorem num_neg (n : Int) (w : World) (hn : n < 0) :
    Calls Tryd.prog 18 #[.int .i64 n] w fun e w' => e = .returned (.tuple #[.string (str []), .iface 48 (.int .i64 1)]) ∧ w = w' := by
  go_enter Tryd.func18, Tryd.ntmps18
  go_wp2
  go_ret2
  exact ⟨rfl, rfl⟩

/-! ### lists -/
/-- What List returns: the bytes, and what is wrong. -/
def lstOut (l : List Int) : List UInt8 × Nat :=
  if 200 < l.length then ([], 4) else if l.all (fun z => decide (0 ≤ z)) then (lst (l.map Int.toNat), 0) else ([], 1)
/-- An error's number as a value. -/
def errV : Nat → Value
  | 0 => .nilIface
  | e + 1 => .iface 48 (.int .i64 ((e + 1 : Nat) : Int))
theorem lstOut_cases (z : List Int) (hs : ∀ x ∈ z, Small x) : (∃ e9, lstOut z = ([], e9 + 1)) ∨ (∃ l : List Nat, l.length ≤ 200 ∧ z = l.map Int.ofNat ∧ ∀ n ∈ l, n < 9223372036854775808) := by
  by_cases h : 200 < z.length
  · exact .inl ⟨3, by unfold lstOut; rw [if_pos h]⟩
  · by_cases h' : z.all (fun x => decide (0 ≤ x)) = true
    · refine .inr ⟨z.map Int.toNat, by rw [List.length_map]; omega, ?_, ?_⟩
      · rw [List.map_map]
        conv => lhs; rw [← List.map_id z]
        apply List.map_congr_left
        intro x hx
        have := List.all_eq_true.1 h' x hx
        simp at this
        show x = ((x.toNat : Nat) : Int)
        omega
      · intro n hn
        obtain ⟨x, hx, rfl⟩ := List.mem_map.1 hn
        have := hs x hx
        unfold Small at this
        omega
    · exact .inl ⟨0, by unfold lstOut; rw [if_neg h, if_neg h']⟩
def strOut (x : List UInt8 × Nat) : Ending := .returned (.tuple #[.string (str x.1), errV x.2])
/-- The place in List's loop. -/
def LUp (l : List Int) (k : Nat) (bs : List UInt8) : Prop := bs = num l.length ++ items ((l.take k).map Int.toNat) ∧ ∀ z ∈ l.take k, 0 ≤ z
theorem lup_next {l : List Int} {k : Nat} {bs : List UInt8} (h : LUp l k bs) (hk : k < l.length) (h0 : 0 ≤ l[k]) : LUp l (k + 1) (bs ++ num l[k].toNat) := by
  have e : l.take (k + 1) = l.take k ++ [l[k]] := (List.take_append_getElem hk).symm
  refine ⟨?_, ?_⟩
  · rw [h.1, e, List.map_append, items, items, List.flatMap_append, List.append_assoc]
    simp only [List.map_cons, List.map_nil, List.flatMap_cons, List.flatMap_nil, List.append_nil]
  · rw [e]; intro z hz
    rcases List.mem_append.1 hz with hz | hz
    · exact h.2 z hz
    · simp at hz; omega
theorem lup_end {l : List Int} {bs : List UInt8} (h : LUp l l.length bs) (hl : l.length ≤ 200) : lstOut l = (bs, 0) := by
  have h2 := h.2
  rw [List.take_length] at h2
  unfold lstOut
  rw [if_neg (by omega), if_pos (by rw [List.all_eq_true]; intro z hz; simpa using h2 z hz), h.1]
  simp [lst]
theorem lup_neg {l : List Int} {k : Nat} (hk : k < l.length) (hl : l.length ≤ 200) (h0 : l[k] < 0) : lstOut l = ([], 1) := by
  unfold lstOut
  rw [if_neg (by omega), if_neg]
  intro h
  have := List.all_eq_true.1 h _ (List.getElem_mem hk)
  simp at this; omega
theorem lup_len {l : List Int} {k : Nat} {bs : List UInt8} (h : LUp l k bs) (hl : l.length ≤ 200) : 0 < bs.length ∧ bs.length ≤ 2000 := by
  have h1 := num_len l.length
  have h2 := items_le ((l.take k).map Int.toNat)
  rw [List.length_map, List.length_take] at h2
  rw [h.1, List.length_append]
  omega

end Go.Proofs.YtjebkipdooimbaaDoor.Pk
