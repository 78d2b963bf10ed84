/- The walk of near.longestOfEnds: a table of rows, made from its last row on. -/
import Derived.Test.YtfiknbdpjnpkdaaNearW
import Derived.Deep.OwnRows
namespace Go.Proofs.Ytfiknbdpjnpkdaa.Ne
open Go.RowKit Go.IntWalk Go.Proofs.Ytfiknbdpjnpkdaa.Wd Go.Proofs.Ytfiknbdpjnpkdaa.Wo

theorem infoR : (Try.prog.info? 26).map (fun i => (i.zero, i.size, i.bytes)) = some (some (.slice none 0 0), 1, 24) := by kernel_rfl
/-- A new row of n zero values of type t. -/
def Made (w : World) (t : TypeId) (z : Value) (n : Nat) (w' : World) : Prop := w' = w.alloc (.cells (madeCells #[z] n) t)
/-- 'make([]int, n)', the world told in full. -/
theorem mk_row {w : World} {ops : Array Oper} {rest : List Oper} {o : Oper} {a : Act} {Q : Exit → Act → World → Prop} (hgd : o.guard = none) (l c : Operand)
    (ho : o.op = Op.makeSlice 26 l c) (n : Nat) (hl : a.eval l = .int .i64 (n : Int)) (hc : a.eval c = .int .i64 (n : Int)) (hn : n ≤ 17592186044416)
    (h : ∀ w', Made w 3 (.int .i64 0) n w' → wpList Try.prog ops Q rest (a.put o.dst (.slice (some ⟨w.heap.size, 0, none⟩) n n)) w') : wpList Try.prog ops Q (o :: rest) a w := by
  obtain ⟨i0, hi, hz0, hz1, hz2⟩ := info_parts infoI
  exact wpList_make_row w hgd l c 26 ho 3 i0 (.int .i64 0) Try.underlying26 hi hz0 hz1 rfl .i64 .i64 n hl hc (by rw [hz2]; omega) (by omega) (h _ rfl)
/-- 'make([][]int, n)'. -/
theorem mk_rows {w : World} {ops : Array Oper} {rest : List Oper} {o : Oper} {a : Act} {Q : Exit → Act → World → Prop} (hgd : o.guard = none) (l c : Operand)
    (ho : o.op = Op.makeSlice 22 l c) (n : Nat) (hl : a.eval l = .int .i64 (n : Int)) (hc : a.eval c = .int .i64 (n : Int)) (hn : n ≤ 1099511627776)
    (h : ∀ w', Made w 26 (.slice none 0 0) n w' → wpList Try.prog ops Q rest (a.put o.dst (.slice (some ⟨w.heap.size, 0, none⟩) n n)) w') : wpList Try.prog ops Q (o :: rest) a w := by
  obtain ⟨i0, hi, hz0, hz1, hz2⟩ := info_parts infoR
  exact wpList_make_row w hgd l c 22 ho 26 i0 (.slice none 0 0) Try.underlying22 hi hz0 hz1 rfl .i64 .i64 n hl hc (by rw [hz2]; omega) (by omega) (h _ rfl)

/-- The block of row i. -/
def gb (N n i : Nat) : Nat := N + 1 + (n - i)
/-- The rows behind i are full; row i is full from place c on. -/
structure Fill (w wi : World) (v z : List Int) (i c : Nat) : Prop where
  below : Below w.heap.size w wi
  size : wi.heap.size = w.heap.size + 1 + (v.length - i) + 1
  top : ∃ f : Nat → Value, wi.rowIs w.heap.size 26 (v.length + 1) f ∧ ∀ j, i ≤ j → j ≤ v.length → f j = .slice (some ⟨gb w.heap.size v.length j, 0, none⟩) (z.length + 1) (z.length + 1)
  rows : ∀ j, i < j → j ≤ v.length → wi.rowIs (gb w.heap.size v.length j) 3 (z.length + 1) (fun q => .int .i64 ((ll (v.drop j) (z.drop q) : Nat) : Int))
  cur : ∃ f : Nat → Value, wi.rowIs (gb w.heap.size v.length i) 3 (z.length + 1) f ∧ ∀ q, c ≤ q → q ≤ z.length → f q = .int .i64 ((ll (v.drop i) (z.drop q) : Nat) : Int)
theorem rowIs_of_made {w w' : World} {t : TypeId} {z : Value} {n : Nat} (h : Made w t z n w') : w'.rowIs w.heap.size t n (fun _ => z) := by
  unfold Made at h; rw [h]; exact World.rowIs_made w z n t
theorem fill_start {w w1 w2 : World} {v z : List Int} (h1 : Made w 26 (.slice none 0 0) (v.length + 1) w1) (h2 : Made w1 3 (.int .i64 0) (z.length + 1) w2) :
    Fill w (w2.setCell ⟨w.heap.size, v.length, none⟩ (.slice (some ⟨w1.heap.size, 0, none⟩) (z.length + 1) (z.length + 1))) v z v.length 0 := by
  have r1 := rowIs_of_made h1
  have r2 := rowIs_of_made h2
  unfold Made at h1 h2
  have s1 : w1.heap.size = w.heap.size + 1 := by rw [h1]; simp
  have hg : gb w.heap.size v.length v.length = w1.heap.size := by unfold gb; omega
  refine ⟨?_, ?_, ?_, fun j h3 h4 => by omega, ?_⟩
  · rw [h2, h1]
    exact (((Below.refl _ _).alloc (Nat.le_refl _) _).alloc (by simp) _).setCell (Nat.le_refl _) _
  · rw [show (w2.setCell _ _).heap.size = w2.heap.size by simp [World.setCell], h2]
    simp; omega
  · refine ⟨_, ((h2 ▸ r1.alloc _ : w2.rowIs w.heap.size _ _ _)).set v.length _, fun j h3 h4 => ?_⟩
    rw [if_pos (by omega), show j = v.length by omega, hg]
  · rw [hg]
    refine ⟨_, r2.setOther (by show w1.heap.size ≠ w.heap.size; omega) _, fun q _ _ => ?_⟩
    rw [List.drop_of_length_le (Nat.le_refl _), ll_nil]; rfl
theorem fill_down {w wr w2 : World} {v z : List Int} {i : Nat} (h : Fill w wr v z (i + 1) 0) (hi : i < v.length) (h2 : Made wr 3 (.int .i64 0) (z.length + 1) w2) :
    Fill w (w2.setCell ⟨w.heap.size, i, none⟩ (.slice (some ⟨wr.heap.size, 0, none⟩) (z.length + 1) (z.length + 1))) v z i z.length := by
  have r2 := rowIs_of_made h2
  unfold Made at h2
  have hs := h.size
  have hg : gb w.heap.size v.length i = wr.heap.size := by unfold gb; omega
  refine ⟨?_, ?_, ?_, fun j h3 h4 => ?_, ?_⟩
  · rw [h2]
    exact (h.below.alloc (by omega) _).setCell (Nat.le_refl _) _
  · rw [show (w2.setCell _ _).heap.size = w2.heap.size by simp [World.setCell], h2]
    simp; omega
  · obtain ⟨f, h5, h6⟩ := h.top
    refine ⟨_, ((h2 ▸ h5.alloc _ : w2.rowIs w.heap.size _ _ _)).set i _, fun j h3 h4 => ?_⟩
    by_cases e : j = i
    · rw [if_pos e, e, hg]
    · rw [if_neg e]; exact h6 j (by omega) h4
  · have h5 : w2.rowIs (gb w.heap.size v.length j) 3 (z.length + 1) (fun q => .int .i64 ((ll (v.drop j) (z.drop q) : Nat) : Int)) := by
      rw [h2]
      by_cases e : j = i + 1
      · subst e
        obtain ⟨f, h5, h6⟩ := h.cur
        exact (h5.congr fun q hq => h6 q (by omega) (by omega)).alloc _
      · exact (h.rows j (by omega) h4).alloc _
    exact h5.setOther (by show gb w.heap.size v.length j ≠ w.heap.size; unfold gb; omega) _
  · rw [hg]
    refine ⟨_, r2.setOther (by show wr.heap.size ≠ w.heap.size; omega) _, fun q h3 h4 => ?_⟩
    rw [List.drop_of_length_le (show z.length ≤ q by omega), ll_nil2]; rfl
theorem fill_drewN {w wi : World} {v z : List Int} {i c : Nat} (h : Fill w wi v z i c) (n : Nat) : Fill w (wi.drewN n) v z i c :=
  ⟨below_drewN h.below n, h.size, h.top, h.rows, h.cur⟩
theorem fill_set {w wi : World} {v z : List Int} {i c : Nat} (h : Fill w wi v z i (c + 1)) (hi : i ≤ v.length) (x : Int) (hx : x = ((ll (v.drop i) (z.drop c) : Nat) : Int)) :
    Fill w (wi.setCell ⟨gb w.heap.size v.length i, c, none⟩ (.int .i64 x)) v z i c := by
  refine ⟨h.below.setCell (by show w.heap.size ≤ gb w.heap.size v.length i; unfold gb; omega) _, ?_, ?_, fun j h3 h4 => ?_, ?_⟩
  · rw [show (wi.setCell _ _).heap.size = wi.heap.size by simp [World.setCell], h.size]
  · obtain ⟨f, h5, h6⟩ := h.top
    exact ⟨f, h5.setOther (by show w.heap.size ≠ gb w.heap.size v.length i; unfold gb; omega) _, h6⟩
  · exact (h.rows j h3 h4).setOther (by show gb w.heap.size v.length j ≠ gb w.heap.size v.length i; unfold gb; omega) _
  · obtain ⟨f, h5, h6⟩ := h.cur
    refine ⟨_, h5.set c _, fun q h3 h4 => ?_⟩
    by_cases e : q = c
    · rw [if_pos e, e, hx]
    · rw [if_neg e]; exact h6 q (by omega) h4
theorem ll_hit {v z : List Int} {i c : Nat} (hi : i < v.length) (hc : c < z.length) (he : v[i] = z[c]) : ll (v.drop i) (z.drop c) = ll (v.drop (i + 1)) (z.drop (c + 1)) + 1 := by
  rw [List.drop_eq_getElem_cons hi, List.drop_eq_getElem_cons hc, ll_cons, if_pos he]
theorem ll_miss {v z : List Int} {i c : Nat} (hi : i < v.length) (hc : c < z.length) (he : ¬ v[i] = z[c]) : ll (v.drop i) (z.drop c) = max (ll (v.drop (i + 1)) (z.drop c)) (ll (v.drop i) (z.drop (c + 1))) := by
  rw [List.drop_eq_getElem_cons hi, List.drop_eq_getElem_cons hc, ll_cons, if_neg he]
/-- The whole table, for reading. -/
structure Tab (w : World) (T : Nat) (v z : List Int) : Prop where
  lt : T < w.heap.size
  row : ∀ i, i ≤ v.length → ∃ g, g < w.heap.size ∧ w.cell? ⟨T, i, none⟩ = some (.slice (some ⟨g, 0, none⟩) (z.length + 1) (z.length + 1)) ∧
    ∀ c, c ≤ z.length → w.cell? ⟨g, c, none⟩ = some (.int .i64 ((ll (v.drop i) (z.drop c) : Nat) : Int))
theorem Tab.on {w w' : World} {T : Nat} {v z : List Int} (h : Tab w T v z) (hb : Below w.heap.size w w') : Tab w' T v z := by
  refine ⟨Nat.lt_of_lt_of_le h.lt hb.size, fun i hi => ?_⟩
  obtain ⟨g, h1, h2, h3⟩ := h.row i hi
  exact ⟨g, Nat.lt_of_lt_of_le h1 hb.size, (hb.cell h.lt).trans h2, fun c hc => (hb.cell (p := ⟨g, c, none⟩) h1).trans (h3 c hc)⟩
theorem fill_tab {w wi : World} {v z : List Int} (h : Fill w wi v z 0 0) : Tab wi w.heap.size v z := by
  have hs := h.size
  refine ⟨by omega, fun i hi => ⟨gb w.heap.size v.length i, by unfold gb; omega, ?_, fun c hc => ?_⟩⟩
  · obtain ⟨f, h5, h6⟩ := h.top
    rw [h5.cell (by omega), h6 i (by omega) hi]
  · by_cases e : i = 0
    · subst e
      obtain ⟨f, h5, h6⟩ := h.cur
      rw [h5.cell (by omega), h6 c (by omega) hc]
    · rw [(h.rows i (by omega) hi).cell (by omega)]
/-- Go's max of two, told at its value. -/
theorem max_two (x y v : Int) (hv : v = max x y) (W : World) : (Builtin.max_ #[3, 3] 3 #[.int .i64 x, .int .i64 y]).run Try.prog W = .ok (.int .i64 v) W := by
  have e : v = if y > x then y else x := by
    rw [hv]; split
    all_goals omega
  rw [e]
  simp [Builtin.max_, Builtin.max2]
end Go.Proofs.Ytfiknbdpjnpkdaa.Ne
