/- Rows of ints that a call makes: appended to one by one or by a slice that came in, made at a length and stored into. -/
import Derived.Test.YtbciefeipiphiaaDoorProg
import Derived.Test.YtbciefeipiphiaaDoorWords
import Derived.Laws.IdiomStrings
import Derived.OwnWalk
import Derived.Laws.OwnMore
import Derived.Lib.Hide
namespace Go.Proofs.YtbciefeipiphiaaDoor.Wd
open Go.RowKit Go.IntWalk

theorem infoI : (Tryd.prog.info? 3).map (fun i => (i.zero, i.size, i.bytes)) = some (some (.int .i64 0), 1, 8) := by kernel_rfl
/-- What a call has made: its ints in a row of its own from block B on. -/
def Nums (B : Nat) (w0 : World) (l : List Int) (v : Value) (w : World) : Prop :=
  w.ownsRow B 3 1 v l.length (l.map i64) ∧ Below B w0 w ∧ B ≤ w.heap.size
theorem nums_nil (w : World) : Nums w.heap.size w [] (.slice none 0 0) w := ⟨World.ownsRow_nil _ _ _ _, Below.refl _ _, Nat.le_refl _⟩
theorem nums_on {B : Nat} {w0 w w1 : World} {l : List Int} {v : Value} (h : Nums B w0 l v w) (hb : Below w.heap.size w w1) : Nums B w0 l v w1 := by
  obtain ⟨⟨h1, h2⟩, h3, h4⟩ := h
  refine ⟨⟨h1, ?_⟩, h3.trans (hb.mono h4), Nat.le_trans h4 hb.size⟩
  rcases h2 with h2 | ⟨g, cap, cur, e, hB, hh, r⟩
  · exact .inl h2
  · exact .inr ⟨g, cap, cur, e, hB, by rw [hb.block g (Array.getElem?_eq_some_iff.1 hh).1]; exact hh, r⟩
theorem nums_drewN {B : Nat} {w0 w : World} {l : List Int} {v : Value} (h : Nums B w0 l v w) (n : Nat) : Nums B w0 l v (w.drewN n) := nums_on h (below_drewN (Below.refl _ _) n)
theorem nums_at {B : Nat} {w0 w : World} {l : List Int} {v : Value} (h : Nums B w0 l v w) :
    ∃ (A : Option Addr) (cap : Nat), v = .slice A l.length cap ∧ Cells w w.heap.size A (l.map i64) := by
  obtain ⟨h1, h2, h3⟩ := h
  obtain ⟨A, cap, hv⟩ : ∃ (A : Option Addr) (cap : Nat), v = .slice A l.length cap := by
    rcases h1.2 with ⟨e, h0⟩ | ⟨g, cap, cur, e, _⟩
    · exact ⟨none, 0, by rw [e, h0]⟩
    · exact ⟨_, cap, e⟩
  subst hv
  exact ⟨A, cap, rfl, Cells.own h1⟩
theorem nums_keep {B : Nat} {w0 w : World} {l : List Int} {v : Value} (h : Nums B w0 l v w) (hB : B = w0.heap.size) {A : Option Addr} {z : List Int} (hz : IntsAt w0 w0.heap.size A z) : IntsAt w w.heap.size A z := by
  subst hB
  exact (hz.below h.2.1).more h.2.2
theorem one_int (z : Int) : ∀ (u : Value), u ∈ [i64 z] → u.oneCell' = true := by
  intro u hu
  simp at hu; subst hu; rfl
theorem many_int (l : List Int) : ∀ (u : Value), u ∈ l.map i64 → u.oneCell' = true := by
  intro u hu
  obtain ⟨z, _, rfl⟩ := List.mem_map.1 hu
  rfl
theorem the_int (w : World) (z : Int) (t : TypeId) : ∀ (j : Nat) (u : Value), [i64 z][j]? = some u → (w.alloc (.cells #[.int .i64 z] t)).cell? ((⟨w.heap.size, 0, none⟩ : Addr).add j) = some u := by
  intro j u hj
  rcases j with _ | j
  · simp at hj; subst hj; simp [Addr.add, i64]
  · simp at hj

/-- 'l = append(l, z)', as a law for the walk. -/
theorem app_one {w : World} {t : TypeId} {z : Int} {ops : Array Oper} {rest : List Oper} {o : Oper} {a : Act} {Q : Exit → Act → World → Prop} (hgd : o.guard = none) (s x : Operand)
    (ho : o.op = .call { callee := .builtin .append, args := #[s, x], argTypes := #[27, 27] })
    {B : Nat} {w0 : World} {acc : List Int} {v : Value} (hs : a.eval s = v) (ht : Nums B w0 acc v w)
    (hx : a.eval x = .slice (some ⟨w.heap.size, 0, none⟩) 1 1) (hb : acc.length < 17592186044416)
    (h : ∀ v' w', Nums B w0 (acc ++ [z]) v' w' → wpList Tryd.prog ops Q rest (a.put o.dst v') w') : wpList Tryd.prog ops Q (o :: rest) a (w.alloc (.cells #[.int .i64 z] t)) := by
  obtain ⟨i0, hi, hz0, hz1, hz2⟩ := info_parts infoI
  obtain ⟨h1, h2, h3⟩ := ht
  refine wpList_append_own _ hgd s x 27 ho B 3 i0 (.int .i64 0) 1 8 Tryd.underlying27 hi hz0 hz1 hz2 rfl (by decide) v acc.length (acc.map i64) hs (h1.alloc _) ⟨w.heap.size, 0, none⟩ 1 1 [i64 z] hx rfl (the_int w z t) (one_int z) (by unfold maxLen; omega) (by omega) (by simp; omega) ?_
  intro v' w' hown hg _
  refine h v' w' ⟨by simpa using hown, (h2.alloc h3 _).grown hg (by simp; omega) (fun k hk => (h1.lt k hk).1), ?_⟩
  have := hg.size
  simp at this
  omega

theorem run_append_empty {w : World} (base : Nat) (t ty e : TypeId) (i : TypeInfo) (size : Nat) (ht : Tryd.prog.underlying t = some (.slice e)) (hi : Tryd.prog.info? e = some i)
    (v : Value) (n : Nat) (xs : List Value) (hown : w.ownsRow base e size v n xs) (c : Nat) : (Builtin.append_ #[t, t] ty #[v, .slice none 0 c]).run Tryd.prog w = .ok v w := by
  rcases hown.2 with ⟨rfl, rfl⟩ | ⟨g, cap, cur, rfl, _, _, hnc, _⟩
  · simp [Builtin.append_, run_underlying ht, sizeOf, typeInfo, hi, Builtin.lenOf, Builtin.firstCells]
  · simp [Builtin.append_, run_underlying ht, sizeOf, typeInfo, hi, Builtin.lenOf, Builtin.firstCells, hnc, storeCells]
theorem IntsAt.none_nil {w : World} {B : Nat} {l : List Int} (h : IntsAt w B none l) : l = [] := by
  rcases l with _ | ⟨z, l⟩
  · rfl
  · obtain ⟨ad, e, _⟩ := h.1 0 (i64 z) rfl
    cases e
/-- 'both = append(both, l...)', as a law for the walk, l nil or not. -/
theorem app_ints {w : World} {ops : Array Oper} {rest : List Oper} {o : Oper} {a : Act} {Q : Exit → Act → World → Prop} (hgd : o.guard = none) (s x : Operand)
    (ho : o.op = .call { callee := .builtin .append, args := #[s, x], argTypes := #[27, 27] })
    {B : Nat} {w0 : World} {acc : List Int} {v : Value} (hs : a.eval s = v) (ht : Nums B w0 acc v w)
    {A : Option Addr} {c : Nat} {l : List Int} (hx : a.eval x = .slice A l.length c) (hA : IntsAt w w.heap.size A l) (hb : acc.length + l.length ≤ 17592186044416)
    (h : ∀ v' w', Nums B w0 (acc ++ l) v' w' → wpList Tryd.prog ops Q rest (a.put o.dst v') w') : wpList Tryd.prog ops Q (o :: rest) a w := by
  obtain ⟨i0, hi, hz0, hz1, hz2⟩ := info_parts infoI
  obtain ⟨h1, h2, h3⟩ := ht
  rcases A with _ | ad
  · have hl := hA.none_nil
    subst hl
    refine wpList_plain hgd fun K hK => ?_
    have hrun := run_append_empty (w := w) B 27 o.type 3 i0 1 Tryd.underlying27 hi v acc.length (acc.map i64) h1 c
    have hx' : a.eval x = .slice none 0 c := hx
    have h' := h v w (by simpa using ⟨h1, h2, h3⟩)
    unfold Oper.wp
    simp [execOp, ho, resolve, invoke, builtin, hs, hx', hrun, Result.andThen]
    exact hK _ _ h'
  · refine wpList_append_own w hgd s x 27 ho B 3 i0 (.int .i64 0) 1 8 Tryd.underlying27 hi hz0 hz1 hz2 rfl (by decide) v acc.length (acc.map i64) hs h1 ad l.length c (l.map i64) hx (by simp) ?_ (many_int l) (by unfold maxLen; omega) (by omega) h3 ?_
    · intro j u hj
      obtain ⟨ad', e, _, hc⟩ := hA.1 j u hj
      obtain rfl := Option.some.inj e
      exact hc
    · intro v' w' hown hg _
      refine h v' w' ⟨by simpa using hown, h2.grown hg h3 (fun k hk => (h1.lt k hk).1), ?_⟩
      have := hg.size
      omega

/-- 'make([]int, n)', as a law for the walk. -/
theorem mk_ints {w : World} {ops : Array Oper} {rest : List Oper} {o : Oper} {a : Act} {Q : Exit → Act → World → Prop} (hgd : o.guard = none) (l c : Operand)
    (ho : o.op = Op.makeSlice 27 l c) (n : Nat) (hl : a.eval l = .int .i64 (n : Int)) (hc : a.eval c = .int .i64 (n : Int)) (hn : n ≤ 17592186044416)
    (h : ∀ w', Nums w.heap.size w (List.replicate n 0) (.slice (some ⟨w.heap.size, 0, none⟩) n n) w' → wpList Tryd.prog ops Q rest (a.put o.dst (.slice (some ⟨w.heap.size, 0, none⟩) n n)) w') : wpList Tryd.prog ops Q (o :: rest) a w := by
  obtain ⟨i0, hi, hz0, hz1, hz2⟩ := info_parts infoI
  refine wpList_make_full w hgd l c 27 ho w.heap.size 3 i0 (.int .i64 0) 1 Tryd.underlying27 hi hz0 hz1 .i64 .i64 _ _ n hl hc rfl rfl (by rw [hz2]; omega) (by unfold maxLen; omega) (Nat.le_refl _) ?_
  intro w' hown hg
  refine h w' ⟨?_, (Below.refl _ _).grown hg (Nat.le_refl _) (fun k hk => by cases hk), hg.size⟩
  have e : (madeCells (Value.int .i64 0).cells (n * 1)).toList = (List.replicate n 0).map i64 := by
    have : (Value.int .i64 0).cells = #[.int .i64 0] := rfl
    rw [this, Nat.mul_one, toList_madeCells_one, List.map_replicate]
    rfl
  rw [e] at hown
  simpa using hown
/-- What is owned behind 'l[j] = z'. -/
theorem nums_set {B : Nat} {w0 w : World} {l : List Int} {g n cap : Nat} (h : Nums B w0 l (.slice (some ⟨g, 0, none⟩) n cap) w) (hn : n = l.length) (j : Nat) (z : Int) :
    Nums B w0 (l.set j z) (.slice (some ⟨g, 0, none⟩) n cap) (w.setCell ⟨g, j, none⟩ (.int .i64 z)) := by
  obtain ⟨h1, h2, h3⟩ := h
  subst hn
  have hs := h1.stored j (i64 z)
  refine ⟨by rw [List.length_set, ← List.map_set] at *; exact hs.1, h2.grown hs.2 h3 (fun k hk => by obtain rfl := Option.some.inj hk; exact (h1.lt _ rfl).1), Nat.le_trans h3 hs.2.size⟩
theorem nums_cell {B : Nat} {w0 w : World} {l : List Int} {g n cap : Nat} (h : Nums B w0 l (.slice (some ⟨g, 0, none⟩) n cap) w) (hn : n = l.length) (j : Nat) (hj : j < l.length) :
    w.cell? ⟨g, j, none⟩ = some (.int .i64 l[j]) ∧ w.frozen? ⟨g, j, none⟩ = false := by
  subst hn
  refine ⟨?_, h.1.frozenAt j⟩
  rw [h.1.cellAt j (by omega), List.getElem?_map, List.getElem?_eq_getElem hj]
  rfl
end Go.Proofs.YtbciefeipiphiaaDoor.Wd
