/- The walk of near.longestOfEnds: a table of rows, made from its last row on. -/
import Derived.Test.YtiaoffaaflmgiaaDoorNearW
import Derived.Deep.OwnRows
namespace Go.Proofs.YtiaoffaaflmgiaaDoor.Ne
open Go.RowKit Go.IntWalk Go.Proofs.YtiaoffaaflmgiaaDoor.Wd Go.Proofs.YtiaoffaaflmgiaaDoor.Wo

theorem infoR : (Tryd.prog.info? 22).map (fun i => (i.zero, i.size, i.bytes)) = some (some (.slice none 0 0), 1, 24) := by kernel_rfl
/-- A new row of n zero values of type t. -/
def Made (w : World) (t : TypeId) (z : Value) (n : Nat) (w' : World) : Prop := w' = w.alloc (.cells (madeCells #[z] n) t)
/-- 'make([]int, n)', the world told in full. -/
theorem mk_row {w : World} {ops : Array Oper} {rest : List Oper} {o : Oper} {a : Act} {Q : Exit → Act → World → Prop} (hgd : o.guard = none) (l c : Operand)
    (ho : o.op = Op.makeSlice 22 l c) (n : Nat) (hl : a.eval l = .int .i64 (n : Int)) (hc : a.eval c = .int .i64 (n : Int)) (hn : n ≤ 17592186044416)
    (h : ∀ w', Made w 3 (.int .i64 0) n w' → wpList Tryd.prog ops Q rest (a.put o.dst (.slice (some ⟨w.heap.size, 0, none⟩) n n)) w') : wpList Tryd.prog ops Q (o :: rest) a w := by
  obtain ⟨i0, hi, hz0, hz1, hz2⟩ := info_parts infoI
  exact wpList_make_row w hgd l c 22 ho 3 i0 (.int .i64 0) Tryd.underlying22 hi hz0 hz1 rfl .i64 .i64 n hl hc (by rw [hz2]; omega) (by omega) (h _ rfl)
/-- 'make([][]int, n)'. -/
theorem mk_rows {w : World} {ops : Array Oper} {rest : List Oper} {o : Oper} {a : Act} {Q : Exit → Act → World → Prop} (hgd : o.guard = none) (l c : Operand)
    (ho : o.op = Op.makeSlice 36 l c) (n : Nat) (hl : a.eval l = .int .i64 (n : Int)) (hc : a.eval c = .int .i64 (n : Int)) (hn : n ≤ 1099511627776)
    (h : ∀ w', Made w 22 (.slice none 0 0) n w' → wpList Tryd.prog ops Q rest (a.put o.dst (.slice (some ⟨w.heap.size, 0, none⟩) n n)) w') : wpList Tryd.prog ops Q (o :: rest) a w := by
  obtain ⟨i0, hi, hz0, hz1, hz2⟩ := info_parts infoR
  exact wpList_make_row w hgd l c 36 ho 22 i0 (.slice none 0 0) Tryd.underlying36 hi hz0 hz1 rfl .i64 .i64 n hl hc (by rw [hz2]; omega) (by omega) (h _ rfl)

/-- The block of row i. -/
def gb (N n i : Nat) : Nat := N + 1 + (n - i)
/-- The rows behind i are full; row i is full from place c on. -/
structure Fill (w wi : World) (v z : List Int) (i c : Nat) : Prop where
  below : Below w.heap.size w wi
  size : wi.heap.size = w.heap.size + 1 + (v.length - i) + 1
  top : ∃ f : Nat → Value, wi.rowIs w.heap.size 22 (v.length + 1) f ∧ ∀ j, i ≤ j → j ≤ v.length → f j = .slice (some ⟨gb w.heap.size v.length j, 0, none⟩) (z.length + 1) (z.length + 1)
  rows : ∀ j, i < j → j ≤ v.length → wi.rowIs (gb w.heap.size v.length j) 3 (z.length + 1) (fun q => .int .i64 ((ll (v.drop j) (z.drop q) : Nat) : Int))
  cur : ∃ f : Nat → Value, wi.rowIs (gb w.heap.size v.length i) 3 (z.length + 1) f ∧ ∀ q, c ≤ q → q ≤ z.length → f q = .int .i64 ((ll (v.drop i) (z.drop q) : Nat) : Int)
theorem rowIs_of_made {w w' : World} {t : TypeId} {z : Value} {n : Nat} (h : Made w t z n w') : w'.rowIs w.heap.size t n (fun _ => z) := by
  unfold Made at h; rw [h]; exact World.rowIs_made w z n t
theorem fill_start {w w1 w2 : World} {v z : List Int} (h1 : Made w 22 (.slice none 0 0) (v.length + 1) w1) (h2 : Made w1 3 (.int .i64 0) (z.length + 1) w2) :
    Fill w (w2.setCell ⟨w.heap.size, v.length, none⟩ (.slice (some ⟨w1.heap.size, 0, none⟩) (z.length + 1) (z.length + 1))) v z v.length 0 := by
  have r1 := rowIs_of_made h1
  have r2 := rowIs_of_made h2
  unfold Made at h1 h2
  have s1 : w1.heap.size = w.heap.size + 1 := by rw [h1]; simp
  have hg : gb w.heap.size v.length v.length = w1.heap.size := by unfold gb; omega
  refine ⟨?_, ?_, ?_, fun j h3 h4 => by omega, ?_⟩
  · rw [h2, h1]
    exact (((Below.refl _ _).alloc (Nat.le_refl _) _).alloc (by simp) _).setCell (Nat.le_refl _) _
  · rw [show (w2.setCell _ _).heap.size = w2.heap.size by simp [World.setCell], h2]
    simp; omega
  · refine ⟨_, ((h2 ▸ r1.alloc _ : w2.rowIs w.heap.size _ _ _)).set v.length _, fun j h3 h4 => ?_⟩
    rw [if_pos (by omega), show j = v.length by omega, hg]
  · rw [hg]
    refine ⟨_, r2.setOther (by show w1.heap.size ≠ w.heap.size; omega) _, fun q _ _ => ?_⟩
    rw [List.drop_of_length_le (Nat.le_refl _), ll_nil]; rfl
theorem fill_down {w wr w2 : World} {v z : List Int} {i : Nat} (h : Fill w wr v z (i + 1) 0) (hi : i < v.length) (h2 : Made wr 3 (.int .i64 0) (z.length + 1) w2) :
    Fill w (w2.setCell ⟨w.heap.size, i, none⟩ (.slice (some ⟨wr.heap.size, 0, none⟩) (z.length + 1) (z.length + 1))) v z i z.length := by
  have r2 := rowIs_of_made h2
  unfold Made at h2
  have hs := h.size
  have hg : gb w.heap.size v.length i = wr.heap.size := by unfold gb; omega
  refine ⟨?_, ?_, ?_, fun j h3 h4 => ?_, ?_⟩
  · rw [h2]
    exact (h.below.alloc (by omega) _).setCell (Nat.le_refl _) _
  · rw [show (w2.setCell _ _).heap.size = w2.heap.size by simp [World.setCell], h2]
    simp; omega
  · obtain ⟨f, h5, h6⟩ := h.top
    refine ⟨_, ((h2 ▸ h5.alloc _ : w2.rowIs w.heap.size _ _ _)).set i _, fun j h3 h4 => ?_⟩
    by_cases e : j = i
    · rw [if_pos e, e, hg]
    · rw [if_neg e]; exact h6 j (by omega) h4
  · have h5 : w2.rowIs (gb w.heap.size v.length j) 3 (z.length + 1) (fun q => .int .i64 ((ll (v.drop j) (z.drop q) : Nat) : Int)) := by
      rw [h2]
      by_cases e : j = i + 1
      · subst e
        obtain ⟨f, h5, h6⟩ := h.cur
        exact (h5.congr fun q hq => h6 q (by omega) (by omega)).alloc _
      · exact (h.rows j (by omega) h4).alloc _
    exact h5.setOther (by show gb w.heap.size v.length j ≠ w.heap.size; unfold gb; omega) _
  · rw [hg]
    refine ⟨_, r2.setOther (by show wr.heap.size ≠ w.heap.size; omega) _, fun q h3 h4 => ?_⟩
    rw [List.drop_of_length_le (show z.length ≤ q by omega), ll_nil2]; rfl
theorem fill_drewN {w wi : World} {v z : List Int} {i c : Nat} (h : Fill w wi v z i c) (n : Nat) : Fill w (wi.drewN n) v z i c :=
  ⟨below_drewN h.below n, h.size, h.top, h.rows, h.cur⟩
theorem fill_set {w wi : World} {v z : List Int} {i c : Nat} (h : Fill w wi v z i (c + 1)) (hi : i ≤ v.length) (x : Int) (hx : x = ((ll (v.drop i) (z.drop c) : Nat) : Int)) :
    Fill w (wi.setCell ⟨gb w.heap.size v.length i, c, none⟩ (.int .i64 x)) v z i c := by
  refine ⟨h.below.setCell (by show w.heap.size ≤ gb w.heap.size v.length i; unfold gb; omega) _, ?_, ?_, fun j h3 h4 => ?_, ?_⟩
  · rw [show (wi.setCell _ _).heap.size = wi.heap.size by simp [World.setCell], h.size]
  · obtain ⟨f, h5, h6⟩ := h.top
    exact ⟨f, h5.setOther (by show w.heap.size ≠ gb w.heap.size v.length i; unfold gb; omega) _, h6⟩
  · exact (h.rows j h3 h4).setOther (by show gb w.heap.size v.length j ≠ gb w.heap.size v.length i; unfold gb; omega) _
  · obtain ⟨f, h5, h6⟩ := h.cur
    refine ⟨_, h5.set c _, fun q h3 h4 => ?_⟩
    by_cases e : q = c
    · rw [if_pos e, e, hx]
    · rw [if_neg e]; exact h6 q (by omega) h4
theorem ll_hit {v z : List Int} {i c : Nat} (hi : i < v.length) (hc : c < z.length) (he : v[i] = z[c]) : ll (v.drop i) (z.drop c) = ll (v.drop (i + 1)) (z.drop (c + 1)) + 1 := by
  rw [List.drop_eq_getElem_cons hi, List.drop_eq_getElem_cons hc, ll_cons, if_pos he]
theorem ll_miss {v z : List Int} {i c : Nat} (hi : i < v.length) (hc : c < z.length) (he : ¬ v[i] = z[c]) : ll (v.drop i) (z.drop c) = max (ll (v.drop (i + 1)) (z.drop c)) (ll (v.drop i) (z.drop (c + 1))) := by
  rw [List.drop_eq_getElem_cons hi, List.drop_eq_getElem_cons hc, ll_cons, if_neg he]
/-- The whole table, for reading. -/
structure Tab (w : World) (T : Nat) (v z : List Int) : Prop where
  lt : T < w.heap.size
  row : ∀ i, i ≤ v.length → ∃ g, g < w.heap.size ∧ w.cell? ⟨T, i, none⟩ = some (.slice (some ⟨g, 0, none⟩) (z.length + 1) (z.length + 1)) ∧
    ∀ c, c ≤ z.length → w.cell? ⟨g, c, none⟩ = some (.int .i64 ((ll (v.drop i) (z.drop c) : Nat) : Int))
theorem Tab.on {w w' : World} {T : Nat} {v z : List Int} (h : Tab w T v z) (hb : Below w.heap.size w w') : Tab w' T v z := by
  refine ⟨Nat.lt_of_lt_of_le h.lt hb.size, fun i hi => ?_⟩
  obtain ⟨g, h1, h2, h3⟩ := h.row i hi
  exact ⟨g, Nat.lt_of_lt_of_le h1 hb.size, (hb.cell h.lt).trans h2, fun c hc => (hb.cell (p := ⟨g, c, none⟩) h1).trans (h3 c hc)⟩
theorem fill_tab {w wi : World} {v z : List Int} (h : Fill w wi v z 0 0) : Tab wi w.heap.size v z := by
  have hs := h.size
  refine ⟨by omega, fun i hi => ⟨gb w.heap.size v.length i, by unfold gb; omega, ?_, fun c hc => ?_⟩⟩
  · obtain ⟨f, h5, h6⟩ := h.top
    rw [h5.cell (by omega), h6 i (by omega) hi]
  · by_cases e : i = 0
    · subst e
      obtain ⟨f, h5, h6⟩ := h.cur
      rw [h5.cell (by omega), h6 c (by omega) hc]
    · rw [(h.rows i (by omega) hi).cell (by omega)]
/-- Go's max of two, told at its value. -/
theorem max_two (x y v : Int) (hv : v = max x y) (W : World) : (Builtin.max_ #[3, 3] 3 #[.int .i64 x, .int .i64 y]).run Tryd.prog W = .ok (.int .i64 v) W := by
  have e : v = if y > x then y else x := by
    rw [hv]; split
    all_goals omega
  rw [e]
  simp [Builtin.max_, Builtin.max2]
set_option maxRecDepth 100000 in
set_option maxHeartbeats 2000000 in
theorem longest_any (A : Option Addr) (c : Nat) (v : List Int) (B : Option Addr) (d : Nat) (z : List Int) (w : World) (hA : IntsAt w w.heap.size A v) (hB : IntsAt w w.heap.size B z) (hv : v.length ≤ 80) (hz : z.length ≤ 80) :
    Calls Tryd.prog 18 #[.slice A v.length c, .slice B z.length d] w fun e w' => Hid (∃ g, e = .returned (.slice (some ⟨g, 0, none⟩) (v.length + 1) (v.length + 1)) ∧ Tab w' g v z) ∧ Below w.heap.size w w' := by
  have HA := Lib.hid hA
  have HB := Lib.hid hB
  clear hA hB
  go_enter Tryd.func18, Tryd.ntmps18
  go_wp2_with (at_make; refine mk_rows rfl _ _ rfl (v.length + 1) rfl rfl (by omega) ?_)
  intro w1 hm
  have HM1 := Lib.hid hm
  clear hm
  go_wp2_with (at_make; refine mk_row rfl _ _ rfl (z.length + 1) rfl rfl (by omega) ?_)
  intro w2 hm
  have HS := Lib.hid (fill_start HM1.out hm)
  have hc1 : w2.cell? ⟨w.heap.size, v.length, none⟩ = some (.slice none 0 0) := by
    unfold Made at hm; rw [hm]
    exact ((rowIs_of_made HM1.out).alloc _).cell (by omega)
  have hf1 : w2.frozen? ⟨w.heap.size, v.length, none⟩ = false := by
    unfold Made at hm; rw [hm]
    exact ((rowIs_of_made HM1.out).alloc _).frozen _
  clear HM1 hm
  have hk3 : (v.length : Int) < (v.length : Int) + 1 := by omega
  go_wp2
  clear hc1 hf1
  go_loopw [6] (fun s wr => ∃ (p : Nat) (x : Int), p ≤ v.length ∧ s = .int .i64 x ∧ x = (p : Int) - 1 ∧ Hid (Fill w wr v z p 0)) (fun s _ => (intOf s + 1).toNat)
  case atStart => exact ⟨v.length, _, by omega, rfl, rfl, HS⟩
  case round =>
    clear HS
    obtain ⟨p, x, hp, rfl, hx, HS⟩ := hrel
    rcases p with _ | i
    · have hx0 : x < 0 := by omega
      clear hx
      go_wp2
      go_ret
      exact ⟨⟨_, rfl, fill_tab HS.out⟩, HS.out.below⟩
    · obtain rfl : x = (i : Int) := by omega
      clear hx
      have hlt : i < v.length := by omega
      go_wp2_with (at_make; refine mk_row rfl _ _ rfl (z.length + 1) rfl rfl (by omega) ?_)
      intro w3 hm
      have HF := Lib.hid (fill_down HS.out hlt hm)
      obtain ⟨f, hf, _⟩ := HS.out.top
      have hc1 : w3.cell? ⟨w.heap.size, i, none⟩ = some (f i) := by
        unfold Made at hm; rw [hm]
        exact (hf.alloc _).cell (by omega)
      have hf1 : w3.frozen? ⟨w.heap.size, i, none⟩ = false := by
        unfold Made at hm; rw [hm]
        exact (hf.alloc _).frozen _
      have hk3 : (i : Int) < (v.length : Int) + 1 := by omega
      clear hf hm HS
      go_wp2
      clear hc1 hf1
      generalize f i = fi at *
      go_loopw [7] (fun s wi => ∃ (q : Nat) (x : Int), q ≤ z.length ∧ s = .int .i64 x ∧ x = (q : Int) - 1 ∧ Hid (Fill w wi v z i q)) (fun s _ => (intOf s + 1).toNat)
      case atStart => exact ⟨z.length, _, by omega, rfl, rfl, HF⟩
      case round =>
        clear HF
        obtain ⟨q, x, hq, rfl, hx, HS⟩ := hrel
        rcases q with _ | c
        · have hx0 : x < 0 := by omega
          clear hx
          go_wp2
          go_roundw
          case rel => exact ⟨i, _, by omega, rfl, rfl, HS⟩
          case measure => first | (simp [intOf]; done) | (simp [intOf]; omega)
        · obtain rfl : x = (c : Int) := by omega
          clear hx
          have hlc : c < z.length := by omega
          obtain ⟨adv, rfl, hadvb, hcv, _, _⟩ := (HA.out.on HS.out.below).at_ i hlt
          obtain ⟨adz, rfl, hadzb, hcz, _, _⟩ := (HB.out.on HS.out.below).at_ c hlc
          obtain ⟨f, hf, hff⟩ := HS.out.top
          have ht1 : wr.cell? ⟨w.heap.size, i, none⟩ = some (.slice (some ⟨gb w.heap.size v.length i, 0, none⟩) (z.length + 1) (z.length + 1)) := by
            rw [hf.cell (by omega), hff i (by omega) (by omega)]
          have ht2 : wr.cell? ⟨w.heap.size, i + 1, none⟩ = some (.slice (some ⟨gb w.heap.size v.length (i + 1), 0, none⟩) (z.length + 1) (z.length + 1)) := by
            rw [hf.cell (by omega), hff (i + 1) (by omega) (by omega)]
          have hr1 := (HS.out.rows (i + 1) (by omega) (by omega)).cell (i := c) (by omega)
          have hr2 := (HS.out.rows (i + 1) (by omega) (by omega)).cell (i := c + 1) (by omega)
          obtain ⟨f2, hf2, hff2⟩ := HS.out.cur
          have hr3 := hf2.cell (i := c + 1) (by omega)
          rw [hff2 (c + 1) (by omega) (by omega)] at hr3
          have hr4 := hf2.cell (i := c) (by omega)
          have hf1 := hf2.frozen c
          have HN := Lib.hid (fun n => fill_set (fill_drewN HS.out n) (by omega))
          have b1 := ll_le (v.drop (i + 1)) (z.drop (c + 1))
          have b2 := ll_le (v.drop (i + 1)) (z.drop c)
          have b3 := ll_le (v.drop i) (z.drop (c + 1))
          have hd1 := List.length_drop (i := i) (l := v)
          have hd2 := List.length_drop (i := i + 1) (l := v)
          replace b1 : ll (v.drop (i + 1)) (z.drop (c + 1)) ≤ 80 := by omega
          replace b2 : ll (v.drop (i + 1)) (z.drop c) ≤ 80 := by omega
          replace b3 : ll (v.drop i) (z.drop (c + 1)) ≤ 80 := by omega
          have hw1 : IntKind.i64.wrap ((i : Int) + 1) = (i : Int) + 1 := IntWalk.i64_in _ ⟨by omega, by omega⟩
          have hw2 : IntKind.i64.wrap ((c : Int) + 1) = (c : Int) + 1 := IntWalk.i64_in _ ⟨by omega, by omega⟩
          have hk1 : (0 : Int) ≤ (i : Int) + 1 := by omega
          have hk2 : (i : Int) + 1 < (v.length : Int) + 1 := by omega
          have hk4 : (0 : Int) ≤ (c : Int) + 1 := by omega
          have hk5 : (c : Int) + 1 < (z.length : Int) + 1 := by omega
          have hk6 : (c : Int) < (z.length : Int) + 1 := by omega
          clear hf hff hf2 hff2 hd1 hd2 HS
          by_cases he : v[i] = z[c]
          · have HE := Lib.hid (ll_hit hlt hlc he)
            have he1 : (v[i] == z[c]) = true := by rw [he]; simp
            have HN := Lib.hid (fun n => HN.out n _ rfl)
            clear he
            generalize v[i] = x1 at *
            generalize z[c] = x2 at *
            rw [HE.out] at HN
            clear HE
            generalize ll (v.drop (i + 1)) (z.drop (c + 1)) = X at *
            generalize ll (v.drop (i + 1)) (z.drop c) = Y at *
            generalize ll (v.drop i) (z.drop (c + 1)) = Z at *
            generalize f2 c = old at *
            generalize gb w.heap.size v.length i = g1 at *
            generalize gb w.heap.size v.length (i + 1) = g2 at *
            have hw3 : IntKind.i64.wrap ((X : Int) + 1) = (X : Int) + 1 := IntWalk.i64_in _ ⟨by omega, by omega⟩
            go_wp2_with fail
            go_quiet (fail)
            go_wp2_with fail
            go_region
            go_wp2
            go_roundw
            case rel => exact ⟨c, _, by omega, rfl, rfl, HN.out _⟩
            case measure => first | (simp [intOf]; done) | (simp [intOf]; omega)
          · have HE := Lib.hid (ll_miss hlt hlc he)
            have he1 : (v[i] == z[c]) = false := by simpa using he
            have HN := Lib.hid (fun n => HN.out n _ rfl)
            clear he
            generalize v[i] = x1 at *
            generalize z[c] = x2 at *
            have hmax := max_two ((ll (v.drop (i + 1)) (z.drop c) : Nat) : Int) ((ll (v.drop i) (z.drop (c + 1)) : Nat) : Int) ((ll (v.drop i) (z.drop c) : Nat) : Int) (by have := HE.out; omega)
            clear HE
            generalize ll (v.drop (i + 1)) (z.drop (c + 1)) = X at *
            generalize ll (v.drop (i + 1)) (z.drop c) = Y at *
            generalize ll (v.drop i) (z.drop (c + 1)) = Z at *
            generalize ll (v.drop i) (z.drop c) = V at *
            generalize f2 c = old at *
            generalize gb w.heap.size v.length i = g1 at *
            generalize gb w.heap.size v.length (i + 1) = g2 at *
            go_wp2_with fail
            go_quiet (fail)
            go_wp2_with fail
            go_region
            go_wp2
            go_roundw
            case rel => exact ⟨c, _, by omega, rfl, rfl, HN.out _⟩
            case measure => first | (simp [intOf]; done) | (simp [intOf]; omega)
end Go.Proofs.YtiaoffaaflmgiaaDoor.Ne
