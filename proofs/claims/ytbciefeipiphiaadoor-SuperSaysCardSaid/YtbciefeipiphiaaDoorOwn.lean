/- Rows of ints that a call makes: appended to one by one or by a slice that came in, made at a length and stored into. What a call owns: any number of rows of its own, each in a block by itself. -/
import Derived.Test.YtbciefeipiphiaaDoorProg
import Derived.Test.YtbciefeipiphiaaDoorWords
import Derived.Laws.IdiomStrings
import Derived.OwnWalk
import Derived.Laws.OwnMore
import Derived.Lib.Hide
import Derived.Deep.AppendLies
import Derived.Deep.Onto

namespace Go.Proofs.YtbciefeipiphiaaDoor.Wd
open Go.RowKit Go.IntWalk

theorem infoI : (Tryd.prog.info? 3).map (fun i => (i.zero, i.size, i.bytes)) = some (some (.int .i64 0), 1, 8) := by kernel_rfl
/-- What a call has made: its ints in a row of its own from block B on. -/
def Nums (B : Nat) (w0 : World) (l : List Int) (v : Value) (w : World) : Prop :=
  w.ownsRow B 3 1 v l.length (l.map i64) ∧ Below B w0 w ∧ B ≤ w.heap.size
theorem many_int (l : List Int) : ∀ (u : Value), u ∈ l.map i64 → u.oneCell' = true := by
  intro u hu
  obtain ⟨z, _, rfl⟩ := List.mem_map.1 hu
  rfl
/-- 'make([]int, n)', as a law for the walk. -/
theorem mk_ints {w : World} {ops : Array Oper} {rest : List Oper} {o : Oper} {a : Act} {Q : Exit → Act → World → Prop} (hgd : o.guard = none) (l c : Operand)
    (ho : o.op = Op.makeSlice 27 l c) (n : Nat) (hl : a.eval l = .int .i64 (n : Int)) (hc : a.eval c = .int .i64 (n : Int)) (hn : n ≤ 17592186044416)
    (h : ∀ w', Nums w.heap.size w (List.replicate n 0) (.slice (some ⟨w.heap.size, 0, none⟩) n n) w' → wpList Tryd.prog ops Q rest (a.put o.dst (.slice (some ⟨w.heap.size, 0, none⟩) n n)) w') : wpList Tryd.prog ops Q (o :: rest) a w := by
  obtain ⟨i0, hi, hz0, hz1, hz2⟩ := info_parts infoI
  refine wpList_make_full w hgd l c 27 ho w.heap.size 3 i0 (.int .i64 0) 1 Tryd.underlying27 hi hz0 hz1 .i64 .i64 _ _ n hl hc rfl rfl (by rw [hz2]; omega) (by unfold maxLen; omega) (Nat.le_refl _) ?_
  intro w' hown hg
  refine h w' ⟨?_, (Below.refl _ _).grown hg (Nat.le_refl _) (fun k hk => by cases hk), hg.size⟩
  have e : (madeCells (Value.int .i64 0).cells (n * 1)).toList = (List.replicate n 0).map i64 := by
    have : (Value.int .i64 0).cells = #[.int .i64 0] := rfl
    rw [this, Nat.mul_one, toList_madeCells_one, List.map_replicate]
    rfl
  rw [e] at hown
  simpa using hown
end Go.Proofs.YtbciefeipiphiaaDoor.Wd

namespace Go.Proofs.YtbciefeipiphiaaDoor.Wd
open Go.RowKit Go.IntWalk

theorem IntsAt.get {w : World} {B : Nat} {a : Option Addr} {zs : List Int} (h : IntsAt w B a zs) {k : Nat} {y : Int} (hk : zs[k]? = some y) :
    ∃ ad, a = some ad ∧ ad.block < B ∧ w.cell? (ad.add k) = some (.int .i64 y) ∧ k < zs.length := by
  obtain ⟨h1, h2⟩ := List.getElem?_eq_some_iff.1 hk
  obtain ⟨ad, e, h3, h4, _⟩ := h.at_ k h1
  exact ⟨ad, e, h3, by rw [← h2]; exact h4, h1⟩
/-- A row: the type and the size of its elements, its value, how many, and their cells. -/
structure Ent where
  t : TypeId
  sz : Nat
  v : Value
  n : Nat
  xs : List Value
def far (a b : Ent) : Prop := a.v.ownBlock = none ∨ a.v.ownBlock ≠ b.v.ownBlock
theorem far_symm {a b : Ent} (h : far a b) : far b a := by
  unfold far at *
  by_cases hb : b.v.ownBlock = none
  · exact .inl hb
  · rcases h with h | h
    · exact .inr (by rw [h]; exact hb)
    · exact .inr (fun e => h e.symm)
/-- es: the rows that are still written to; fs: those that are done, and only read. -/
structure Own (w0 w : World) (es fs : List Ent) : Prop where
  below : Below w0.heap.size w0 w
  each : ∀ e ∈ es, w.ownsRow w0.heap.size e.t e.sz e.v e.n e.xs
  done : ∀ e ∈ fs, w.ownsRow w0.heap.size e.t e.sz e.v e.n e.xs
  apart : es.Pairwise far
  off : ∀ e ∈ es, ∀ f ∈ fs, far e f
theorem own_start (w : World) : Own w w [] [] := ⟨Below.refl _ _, fun e h => by simp at h, fun e h => by simp at h, List.Pairwise.nil, fun e h => by simp at h⟩
theorem owns_on {w w1 : World} {B : Nat} {t : TypeId} {sz n : Nat} {v : Value} {xs : List Value} (h : w.ownsRow B t sz v n xs) (hb : Below w.heap.size w w1) : w1.ownsRow B t sz v n xs := by
  refine ⟨h.1, ?_⟩
  rcases h.2 with h2 | ⟨g, cap, cur, e, hB, hh, r⟩
  · exact .inl h2
  · exact .inr ⟨g, cap, cur, e, hB, by rw [hb.block g (Array.getElem?_eq_some_iff.1 hh).1]; exact hh, r⟩
theorem Own.on {w0 w w1 : World} {es fs : List Ent} (h : Own w0 w es fs) (hb : Below w.heap.size w w1) : Own w0 w1 es fs :=
  ⟨h.below.trans (hb.mono h.below.size), fun e he => owns_on (h.each e he) hb, fun e he => owns_on (h.done e he) hb, h.apart, h.off⟩
/-- The same from an earlier world on. -/
theorem Own.base {w w0 w1 : World} {es fs : List Ent} (h : Own w0 w1 es fs) (hb : Below w.heap.size w w0) : Own w w1 es fs :=
  ⟨hb.trans (h.below.mono hb.size), fun e he => (h.each e he).mono hb.size, fun e he => (h.done e he).mono hb.size, h.apart, h.off⟩
theorem Own.drewN {w0 w : World} {es fs : List Ent} (h : Own w0 w es fs) (n : Nat) : Own w0 (w.drewN n) es fs := h.on (below_drewN (Below.refl _ _) n)
theorem Own.alloc {w0 w : World} {es fs : List Ent} (h : Own w0 w es fs) (o : Obj) : Own w0 (w.alloc o) es fs := h.on ((Below.refl _ _).alloc (Nat.le_refl _) o)
theorem Own.nil {w0 w : World} {es fs : List Ent} (h : Own w0 w es fs) (t : TypeId) (sz : Nat) : Own w0 w (⟨t, sz, .slice none 0 0, 0, []⟩ :: es) fs :=
  ⟨h.below, fun e he => by
    rcases List.mem_cons.1 he with rfl | he
    · exact World.ownsRow_nil _ _ _ _
    · exact h.each e he, h.done, List.pairwise_cons.2 ⟨fun e _ => .inl rfl, h.apart⟩, fun e he f hf => by
    rcases List.mem_cons.1 he with rfl | he
    · exact .inl rfl
    · exact h.off e he f hf⟩
theorem Own.perm {w0 w : World} {es es' fs : List Ent} (h : Own w0 w es fs) (p : es.Perm es') : Own w0 w es' fs :=
  ⟨h.below, fun e he => h.each e (p.mem_iff.2 he), h.done, (p.pairwise_iff far_symm).1 h.apart, fun e he => h.off e (p.mem_iff.2 he)⟩
theorem Own.tail {w0 w : World} {e : Ent} {es fs : List Ent} (h : Own w0 w (e :: es) fs) : Own w0 w es fs :=
  ⟨h.below, fun e he => h.each e (List.mem_cons_of_mem _ he), h.done, (List.pairwise_cons.1 h.apart).2, fun e he => h.off e (List.mem_cons_of_mem _ he)⟩
theorem Own.only {w0 w : World} {es fs : List Ent} (h : Own w0 w es fs) : Own w0 w [] fs :=
  ⟨h.below, fun e he => by simp at he, h.done, List.Pairwise.nil, fun e he => by simp at he⟩
theorem Own.weak {w0 w : World} {es fs fs' : List Ent} (h : Own w0 w es fs) (p : ∀ e ∈ fs', e ∈ fs) : Own w0 w es fs' :=
  ⟨h.below, h.each, fun e he => h.done e (p e he), h.apart, fun e he f hf => h.off e he f (p f hf)⟩
/-- The first row is done. -/
theorem Own.fin {w0 w : World} {e : Ent} {es fs : List Ent} (h : Own w0 w (e :: es) fs) : Own w0 w es (e :: fs) :=
  ⟨h.below, fun e he => h.each e (List.mem_cons_of_mem _ he), fun f hf => by
    rcases List.mem_cons.1 hf with rfl | hf
    · exact h.each _ List.mem_cons_self
    · exact h.done f hf, (List.pairwise_cons.1 h.apart).2, fun a ha f hf => by
    rcases List.mem_cons.1 hf with rfl | hf
    · exact far_symm ((List.pairwise_cons.1 h.apart).1 a ha)
    · exact h.off a (List.mem_cons_of_mem _ ha) f hf⟩
theorem Own.two {w0 w : World} {a b : Ent} {es fs : List Ent} (h : Own w0 w (a :: b :: es) fs) : Own w0 w (b :: a :: es) fs := h.perm (.swap _ _ _)
theorem Own.three {w0 w : World} {a b c : Ent} {es fs : List Ent} (h : Own w0 w (a :: b :: c :: es) fs) : Own w0 w (c :: a :: b :: es) fs := h.perm ((List.Perm.cons _ (.swap _ _ _)).trans (.swap _ _ _))
theorem Own.three' {w0 w : World} {a b c : Ent} {es fs : List Ent} (h : Own w0 w (c :: a :: b :: es) fs) : Own w0 w (a :: b :: c :: es) fs := h.perm ((List.Perm.swap _ _ _).trans (List.Perm.cons _ (.swap _ _ _)))
theorem Own.four {w0 w : World} {a b c d : Ent} {es fs : List Ent} (h : Own w0 w (a :: b :: c :: d :: es) fs) : Own w0 w (d :: a :: b :: c :: es) fs := h.perm ((List.Perm.cons _ ((List.Perm.cons _ (.swap _ _ _)).trans (.swap _ _ _))).trans (.swap _ _ _))
theorem pull_perm {α : Type} : ∀ (n : Nat) (es : List α) (h : n < es.length), es.Perm (es[n] :: es.eraseIdx n)
  | 0, a :: es, _ => .refl _
  | n + 1, a :: es, h => ((pull_perm n es (by simpa using h)).cons a).trans (.swap _ _ _)
/-- Row n to the front. -/
theorem Own.pull {w0 w : World} {es fs : List Ent} (n : Nat) (h : Own w0 w es fs) (hn : n < es.length) : Own w0 w (es[n] :: es.eraseIdx n) fs := h.perm (pull_perm n es hn)
/-- The front row to place n. -/
theorem Own.put {w0 w : World} {es fs : List Ent} (n : Nat) (hn : n < es.length) (h : Own w0 w (es[n] :: es.eraseIdx n) fs) : Own w0 w es fs := h.perm (pull_perm n es hn).symm
theorem filterMap_range {α : Type} (es : List α) : (List.range es.length).filterMap (fun i => es[i]?) = es := by
  have h : ∀ (n : Nat), n ≤ es.length → (List.range n).filterMap (fun i => es[i]?) = es.take n := by
    intro n
    induction n with
    | zero => intro _; simp
    | succ n ih =>
      intro hn
      rw [List.range_succ, List.filterMap_append, ih (by omega), ← List.take_append_getElem (by omega)]
      congr 1
      simp [List.getElem?_eq_getElem (show n < es.length by omega)]
  rw [h _ (Nat.le_refl _), List.take_length]
/-- The rows in another order: σ names their places. -/
theorem Own.re {w0 w : World} {es fs : List Ent} (h : Own w0 w es fs) (σ : List Nat) (n : Nat) (hn : es.length = n) (hσ : σ.Perm (List.range n)) : Own w0 w (σ.filterMap fun i => es[i]?) fs := by
  refine h.perm ?_
  subst hn
  have := hσ.symm.filterMap (fun i => es[i]?)
  rwa [filterMap_range] at this
theorem far_new {w0 w w1 : World} {e f : Ent} (h1 : w1.ownsRow w.heap.size e.t e.sz e.v e.n e.xs) (h : w.ownsRow w0.heap.size f.t f.sz f.v f.n f.xs) : far e f := by
  unfold far
  rcases hv : e.v.ownBlock with _ | g
  · exact .inl rfl
  · right
    intro he
    have g1 := h1.lt g hv
    have g2 := h.lt g he.symm
    omega
/-- What a callee has made, laid to what was owned. -/
theorem Own.join {w0 w w1 : World} {es es1 fs fs1 : List Ent} (h : Own w0 w es fs) (h1 : Own w w1 es1 fs1) : Own w0 w1 (es1 ++ es) (fs1 ++ fs) := by
  have h2 := h.on h1.below
  refine ⟨h2.below, fun e he => ?_, fun e he => ?_, ?_, fun e he f hf => ?_⟩
  · rcases List.mem_append.1 he with he | he
    · exact (h1.each e he).mono h.below.size
    · exact h2.each e he
  · rcases List.mem_append.1 he with he | he
    · exact (h1.done e he).mono h.below.size
    · exact h2.done e he
  · rw [List.pairwise_append]
    exact ⟨h1.apart, h.apart, fun a ha b hb => far_new (h1.each a ha) (h.each b hb)⟩
  · rcases List.mem_append.1 he with he | he
    · rcases List.mem_append.1 hf with hf | hf
      · exact h1.off e he f hf
      · exact far_new (h1.each e he) (h.done f hf)
    · rcases List.mem_append.1 hf with hf | hf
      · exact far_symm (far_new (h1.done f hf) (h.each e he))
      · exact h.off e he f hf
/-- A new block of its own. -/
theorem Own.lit {w0 w : World} {es fs : List Ent} (h : Own w0 w es fs) (t : TypeId) (sz n : Nat) (cs : Array Value) (hs : cs.size = n * sz) (hn : n ≤ maxLen) :
    Own w0 (w.alloc (.cells cs t)) (⟨t, sz, .slice (some ⟨w.heap.size, 0, none⟩) n n, n, cs.toList⟩ :: es) fs := by
  have h1 : Own w (w.alloc (.cells cs t)) [⟨t, sz, .slice (some ⟨w.heap.size, 0, none⟩) n n, n, cs.toList⟩] [] :=
    ⟨(Below.refl _ _).alloc (Nat.le_refl _) _, fun e he => by simp at he; subst he; exact World.ownsRow_lit w cs n (Nat.le_refl _) hn hs, fun e he => by simp at he, by simp, fun e _ f hf => by simp at hf⟩
  exact h.join h1
/-- A store into the first row. -/
theorem Own.set {w0 w : World} {es fs : List Ent} {t : TypeId} {sz n cap g : Nat} {xs : List Value} (h : Own w0 w (⟨t, sz, .slice (some ⟨g, 0, none⟩) n cap, n, xs⟩ :: es) fs) (j : Nat) (u : Value) :
    Own w0 (w.setCell ⟨g, j, none⟩ u) (⟨t, sz, .slice (some ⟨g, 0, none⟩) n cap, n, xs.set j u⟩ :: es) fs := by
  have h1 := h.each _ (List.mem_cons_self)
  have hs := World.ownsRow.stored (w := w) h1 j u
  obtain ⟨a1, a2⟩ := List.pairwise_cons.1 h.apart
  have keep : ∀ e : Ent, far ⟨t, sz, .slice (some ⟨g, 0, none⟩) n cap, n, xs⟩ e → w.ownsRow w0.heap.size e.t e.sz e.v e.n e.xs → (w.setCell ⟨g, j, none⟩ u).ownsRow w0.heap.size e.t e.sz e.v e.n e.xs := fun e hf ho => by
    refine ho.kept hs.2 ?_
    rcases far_symm hf with hf | hf
    · exact .inl hf
    · exact .inr hf
  refine ⟨h.below.grown hs.2 h.below.size (fun k hk => by obtain rfl := Option.some.inj hk; exact (h1.lt _ rfl).1), fun e he => ?_, fun e he => ?_, List.pairwise_cons.2 ⟨a1, a2⟩, fun e he f hf => ?_⟩
  · rcases List.mem_cons.1 he with rfl | he
    · exact hs.1
    · exact keep e (a1 e he) (h.each e (List.mem_cons_of_mem _ he))
  · exact keep e (h.off _ List.mem_cons_self e he) (h.done e he)
  · rcases List.mem_cons.1 he with rfl | he
    · exact h.off _ List.mem_cons_self f hf
    · exact h.off e (List.mem_cons_of_mem _ he) f hf
theorem Own.at_ {w0 w : World} {es fs : List Ent} (h : Own w0 w es fs) {e : Ent} (he : e ∈ es ++ fs) : w.ownsRow w0.heap.size e.t e.sz e.v e.n e.xs := by
  rcases List.mem_append.1 he with he | he
  · exact h.each e he
  · exact h.done e he
theorem owns_form {w w0 : World} {t : TypeId} {sz n : Nat} {v : Value} {xs : List Value} (h : w.ownsRow w0.heap.size t sz v n xs) : ∃ (A : Option Addr) (cap : Nat), v = .slice A n cap ∧ n ≤ cap ∧ cap ≤ maxLen ∧ (A = none → cap = 0) := by
  rcases h.2 with ⟨e1, h0⟩ | ⟨g, cap, cur, e1, _, _, h3, h4, _⟩
  · exact ⟨none, 0, by rw [e1, h0], by omega, by simp [maxLen], fun _ => rfl⟩
  · exact ⟨_, cap, e1, h3, h4, fun e => by cases e⟩
theorem Own.form {w0 w : World} {es fs : List Ent} (h : Own w0 w es fs) {e : Ent} (he : e ∈ es ++ fs) : ∃ (A : Option Addr) (cap : Nat), e.v = .slice A e.n cap ∧ e.n ≤ cap ∧ cap ≤ maxLen ∧ (A = none → cap = 0) := owns_form (h.at_ he)
theorem Own.cells {w0 w : World} {es fs : List Ent} (h : Own w0 w es fs) {t : TypeId} {sz n cap : Nat} {A : Option Addr} {xs : List Value} (he : ⟨t, sz, .slice A n cap, n, xs⟩ ∈ es ++ fs) : Cells w w.heap.size A xs := Cells.own (h.at_ he)
theorem Own.cell {w0 w : World} {es fs : List Ent} (h : Own w0 w es fs) {t : TypeId} {sz n cap g : Nat} {xs : List Value} (he : ⟨t, sz, .slice (some ⟨g, 0, none⟩) n cap, n, xs⟩ ∈ es ++ fs) {j : Nat} {u : Value} (hj : xs[j]? = some u) :
    w.cell? ⟨g, j, none⟩ = some u ∧ w.frozen? ⟨g, j, none⟩ = false := by
  have h1 := h.at_ he
  have hl := (List.getElem?_eq_some_iff.1 hj).1
  rw [h1.1] at hl
  exact ⟨(h1.cellAt j hl).trans hj, h1.frozenAt j⟩
theorem Own.lt {w0 w : World} {es fs : List Ent} (h : Own w0 w es fs) {t : TypeId} {sz n cap : Nat} {ad : Addr} {xs : List Value} (he : ⟨t, sz, .slice (some ad) n cap, n, xs⟩ ∈ es ++ fs) : w0.heap.size ≤ ad.block ∧ ad.block < w.heap.size := (h.at_ he).lt _ rfl
theorem Own.len {w0 w : World} {es fs : List Ent} (h : Own w0 w es fs) {e : Ent} (he : e ∈ es ++ fs) : e.xs.length = e.n * e.sz := (h.at_ he).1

/-- 'l = append(l, ..)' onto the first row, at the operation. -/
theorem wp_own_append {w0 w : World} {o : Oper} {a : Act} {K : Act → World → Prop} {Q : Exit → Act → World → Prop} (s x : Operand) (tt : TypeId)
    (ho : o.op = .call { callee := .builtin .append, args := #[s, x], argTypes := #[tt, tt] }) {t : TypeId} {sz bytes : Nat} {z : Value} (ht : Tryd.prog.underlying tt = some (.slice t))
    (hinfo : (Tryd.prog.info? t).map (fun i => (i.zero, i.size, i.bytes)) = some (some z, sz, bytes)) (hzs : z.cells.size = sz) (hsz : 0 < sz)
    {v : Value} {n : Nat} {xs : List Value} {es fs : List Ent} (hs : a.eval s = v) (h : Own w0 w (⟨t, sz, v, n, xs⟩ :: es) fs)
    {ad : Addr} {m c : Nat} (news : List Value) (hx : a.eval x = .slice (some ad) m c) (hl : news.length = m * sz) (hnews : ∀ j u, news[j]? = some u → w.cell? (ad.add j) = some u) (h1 : ∀ u ∈ news, u.oneCell' = true)
    (hm : 0 < m) (h63 : n + m ≤ maxLen) (hbytes : (n + m) * bytes ≤ 140737488355328)
    (hK : ∀ g cap w', Own w0 w' (⟨t, sz, .slice (some ⟨g, 0, none⟩) (n + m) cap, n + m, xs ++ news⟩ :: es) fs → K (a.put o.dst (.slice (some ⟨g, 0, none⟩) (n + m) cap)) w') : o.wp Tryd.prog a w K Q := by
  obtain ⟨i0, hi, hz0, hz1, hz2⟩ := info_parts hinfo
  have hh := h.each _ (List.mem_cons_self)
  obtain ⟨a1, a2⟩ := List.pairwise_cons.1 h.apart
  refine wp_append_lies w s x tt ho w0.heap.size t i0 z sz bytes ht hi hz0 hz1 hz2 hzs hsz v n xs hs hh ad m c news hx hl hnews h1 hm h63 hbytes h.below.size _ rfl ?_
  intro g cap w' hown hg hat hlt
  have keep : ∀ e : Ent, far ⟨t, sz, v, n, xs⟩ e → w.ownsRow w0.heap.size e.t e.sz e.v e.n e.xs → w'.ownsRow w0.heap.size e.t e.sz e.v e.n e.xs := fun e hf ho => by
    refine ho.kept hg ?_
    rcases far_symm hf with hf | hf
    · exact .inl hf
    · exact .inr hf
  have apart : ∀ e : Ent, far ⟨t, sz, v, n, xs⟩ e → w.ownsRow w0.heap.size e.t e.sz e.v e.n e.xs → far ⟨t, sz, .slice (some ⟨g, 0, none⟩) (n + m) cap, n + m, xs ++ news⟩ e := fun b hf ho => by
    right
    intro e
    have e' : some g = b.v.ownBlock := e
    rcases hat with hat | hat
    · unfold far at hf
      simp only [hat, ← e'] at hf
      simp at hf
    · have := ho.lt g e'.symm
      omega
  refine hK g cap w' ⟨h.below.grown hg h.below.size (fun k hk => (hh.lt k hk).1), fun e he => ?_, fun e he => ?_, List.pairwise_cons.2 ⟨fun b hb => ?_, a2⟩, fun e he f hf => ?_⟩
  · rcases List.mem_cons.1 he with rfl | he
    · exact hown
    · exact keep e (a1 e he) (h.each e (List.mem_cons_of_mem _ he))
  · exact keep e (h.off _ List.mem_cons_self e he) (h.done e he)
  · exact apart b (a1 b hb) (h.each b (List.mem_cons_of_mem _ hb))
  · rcases List.mem_cons.1 he with rfl | he
    · exact apart f (h.off _ List.mem_cons_self f hf) (h.done f hf)
    · exact h.off e (List.mem_cons_of_mem _ he) f hf
/-- The same, as a law for the walk. -/
theorem own_append {w0 w : World} {ops : Array Oper} {rest : List Oper} {o : Oper} {a : Act} {Q : Exit → Act → World → Prop} (hgd : o.guard = none) (s x : Operand) (tt : TypeId)
    (ho : o.op = .call { callee := .builtin .append, args := #[s, x], argTypes := #[tt, tt] }) {t : TypeId} {sz bytes : Nat} {z : Value} (ht : Tryd.prog.underlying tt = some (.slice t))
    (hinfo : (Tryd.prog.info? t).map (fun i => (i.zero, i.size, i.bytes)) = some (some z, sz, bytes)) (hzs : z.cells.size = sz) (hsz : 0 < sz)
    {v : Value} {n : Nat} {xs : List Value} {es fs : List Ent} (hs : a.eval s = v) (h : Own w0 w (⟨t, sz, v, n, xs⟩ :: es) fs)
    {ad : Addr} {m c : Nat} (news : List Value) (hx : a.eval x = .slice (some ad) m c) (hl : news.length = m * sz) (hnews : ∀ j u, news[j]? = some u → w.cell? (ad.add j) = some u) (h1 : ∀ u ∈ news, u.oneCell' = true)
    (hm : 0 < m) (h63 : n + m ≤ maxLen) (hbytes : (n + m) * bytes ≤ 140737488355328)
    (hK : ∀ g cap w', Own w0 w' (⟨t, sz, .slice (some ⟨g, 0, none⟩) (n + m) cap, n + m, xs ++ news⟩ :: es) fs → wpList Tryd.prog ops Q rest (a.put o.dst (.slice (some ⟨g, 0, none⟩) (n + m) cap)) w') : wpList Tryd.prog ops Q (o :: rest) a w :=
  wpList_plain hgd fun _ hK' => wp_own_append s x tt ho ht hinfo hzs hsz hs h news hx hl hnews h1 hm h63 hbytes fun g cap w' ho => hK' _ _ (hK g cap w' ho)
/-- The same, at a step of a region that draws. -/
theorem step_own_append {w0 w : World} {ops : Array Oper} {o : Oper} {a : Act} {K : Act → World → Prop} {Q : Exit → Act → World → Prop} {E : Prop} (hgd : o.guard = none) (s x : Operand) (tt : TypeId)
    (ho : o.op = .call { callee := .builtin .append, args := #[s, x], argTypes := #[tt, tt] }) {t : TypeId} {sz bytes : Nat} {z : Value} (ht : Tryd.prog.underlying tt = some (.slice t))
    (hinfo : (Tryd.prog.info? t).map (fun i => (i.zero, i.size, i.bytes)) = some (some z, sz, bytes)) (hzs : z.cells.size = sz) (hsz : 0 < sz)
    {v : Value} {n : Nat} {xs : List Value} {es fs : List Ent} (hs : a.eval s = v) (h : Own w0 w (⟨t, sz, v, n, xs⟩ :: es) fs)
    {ad : Addr} {m c : Nat} (news : List Value) (hx : a.eval x = .slice (some ad) m c) (hl : news.length = m * sz) (hnews : ∀ j u, news[j]? = some u → w.cell? (ad.add j) = some u) (h1 : ∀ u ∈ news, u.oneCell' = true)
    (hm : 0 < m) (h63 : n + m ≤ maxLen) (hbytes : (n + m) * bytes ≤ 140737488355328)
    (hK : ∀ g cap w', Own w0 w' (⟨t, sz, .slice (some ⟨g, 0, none⟩) (n + m) cap, n + m, xs ++ news⟩ :: es) fs → K (a.put o.dst (.slice (some ⟨g, 0, none⟩) (n + m) cap)) w') : if Region.wanted o (yielded ops a.tmps) = true then Oper.wp Tryd.prog o a w K Q else E := by
  have hw : Region.wanted o (yielded ops a.tmps) = true := by simp [Region.wanted, hgd]
  rw [if_pos hw]
  exact wp_own_append s x tt ho ht hinfo hzs hsz hs h news hx hl hnews h1 hm h63 hbytes hK
/-- The same of what was just laid into a block for it. -/
theorem own_append_lit {w0 w : World} {ops : Array Oper} {rest : List Oper} {o : Oper} {a : Act} {Q : Exit → Act → World → Prop} (hgd : o.guard = none) (s x : Operand) (tt : TypeId)
    (ho : o.op = .call { callee := .builtin .append, args := #[s, x], argTypes := #[tt, tt] }) {t : TypeId} {sz bytes : Nat} {z : Value} (ht : Tryd.prog.underlying tt = some (.slice t))
    (hinfo : (Tryd.prog.info? t).map (fun i => (i.zero, i.size, i.bytes)) = some (some z, sz, bytes)) (hzs : z.cells.size = sz) (hsz : 0 < sz)
    {v : Value} {n : Nat} {xs : List Value} {es fs : List Ent} (hs : a.eval s = v) (h : Own w0 w (⟨t, sz, v, n, xs⟩ :: es) fs)
    {c m : Nat} {cs : Array Value} {t' : TypeId} (hx : a.eval x = .slice (some ⟨w.heap.size, 0, none⟩) m c) (hl : cs.size = m * sz) (h1 : ∀ u ∈ cs.toList, u.oneCell' = true)
    (hm : 0 < m) (h63 : n + m ≤ maxLen) (hbytes : (n + m) * bytes ≤ 140737488355328)
    (hK : ∀ g cap w', Own w0 w' (⟨t, sz, .slice (some ⟨g, 0, none⟩) (n + m) cap, n + m, xs ++ cs.toList⟩ :: es) fs → wpList Tryd.prog ops Q rest (a.put o.dst (.slice (some ⟨g, 0, none⟩) (n + m) cap)) w') : wpList Tryd.prog ops Q (o :: rest) a (w.alloc (.cells cs t')) :=
  own_append hgd s x tt ho ht hinfo hzs hsz hs (h.alloc _) cs.toList hx (by simpa using hl) (World.news_of_block (heap_alloc_new w _)) h1 hm h63 hbytes hK
theorem step_own_append_lit {w0 w : World} {ops : Array Oper} {o : Oper} {a : Act} {K : Act → World → Prop} {Q : Exit → Act → World → Prop} {E : Prop} (hgd : o.guard = none) (s x : Operand) (tt : TypeId)
    (ho : o.op = .call { callee := .builtin .append, args := #[s, x], argTypes := #[tt, tt] }) {t : TypeId} {sz bytes : Nat} {z : Value} (ht : Tryd.prog.underlying tt = some (.slice t))
    (hinfo : (Tryd.prog.info? t).map (fun i => (i.zero, i.size, i.bytes)) = some (some z, sz, bytes)) (hzs : z.cells.size = sz) (hsz : 0 < sz)
    {v : Value} {n : Nat} {xs : List Value} {es fs : List Ent} (hs : a.eval s = v) (h : Own w0 w (⟨t, sz, v, n, xs⟩ :: es) fs)
    {c m : Nat} {cs : Array Value} {t' : TypeId} (hx : a.eval x = .slice (some ⟨w.heap.size, 0, none⟩) m c) (hl : cs.size = m * sz) (h1 : ∀ u ∈ cs.toList, u.oneCell' = true)
    (hm : 0 < m) (h63 : n + m ≤ maxLen) (hbytes : (n + m) * bytes ≤ 140737488355328)
    (hK : ∀ g cap w', Own w0 w' (⟨t, sz, .slice (some ⟨g, 0, none⟩) (n + m) cap, n + m, xs ++ cs.toList⟩ :: es) fs → K (a.put o.dst (.slice (some ⟨g, 0, none⟩) (n + m) cap)) w') : if Region.wanted o (yielded ops a.tmps) = true then Oper.wp Tryd.prog o a (w.alloc (.cells cs t')) K Q else E :=
  step_own_append hgd s x tt ho ht hinfo hzs hsz hs (h.alloc _) cs.toList hx (by simpa using hl) (World.news_of_block (heap_alloc_new w _)) h1 hm h63 hbytes hK

/-! ### the kinds of rows -/
theorem infoRow : (Tryd.prog.info? 27).map (fun i => (i.zero, i.size, i.bytes)) = some (some (.slice none 0 0), 1, 24) := by kernel_rfl
theorem infoBool : (Tryd.prog.info? 4).map (fun i => (i.zero, i.size, i.bytes)) = some (some (.bool false), 1, 1) := by kernel_rfl
def eInts (v : Value) (l : List Int) : Ent := ⟨3, 1, v, l.length, l.map i64⟩
def eBools (v : Value) (l : List Bool) : Ent := ⟨4, 1, v, l.length, l.map Value.bool⟩
def eRows (v : Value) (l : List Value) : Ent := ⟨27, 1, v, l.length, l⟩
theorem Own.of_nums {w0 w : World} {l : List Int} {v : Value} (h : Nums w0.heap.size w0 l v w) : Own w0 w [eInts v l] [] :=
  ⟨h.2.1, fun e he => by simp at he; subst he; exact h.1, fun e he => by simp at he, by simp, fun e _ f hf => by simp at hf⟩
/-- A store into a row of ints that is the first one; what lies there. -/
theorem own_ints_set {w0 w : World} {g n cap : Nat} {l : List Int} {es fs : List Ent} (h : Own w0 w (eInts (.slice (some ⟨g, 0, none⟩) n cap) l :: es) fs) (hl : l.length = n) (j : Nat) (x : Int) :
    Own w0 (w.setCell ⟨g, j, none⟩ (.int .i64 x)) (eInts (.slice (some ⟨g, 0, none⟩) n cap) (l.set j x) :: es) fs := by
  subst hl
  have h2 := Own.set (t := 3) (sz := 1) (n := l.length) (cap := cap) (xs := l.map i64) h j (.int .i64 x)
  rw [show (l.map i64).set j (.int .i64 x) = (l.set j x).map i64 from by rw [List.map_set]; rfl] at h2
  unfold eInts
  rw [List.length_set]
  exact h2
theorem own_ints_cell {w0 w : World} {g n cap : Nat} {l : List Int} {es fs : List Ent} (h : Own w0 w es fs) (he : eInts (.slice (some ⟨g, 0, none⟩) n cap) l ∈ es ++ fs) (hl : l.length = n) {j : Nat} {x : Int} (hj : l[j]? = some x) :
    w.cell? ⟨g, j, none⟩ = some (.int .i64 x) ∧ w.frozen? ⟨g, j, none⟩ = false := by
  subst hl
  exact h.cell (t := 3) (sz := 1) (n := l.length) (cap := cap) (xs := l.map i64) he (by rw [List.getElem?_map, hj]; rfl)
/-- 'append(l, z)' of one int. -/
theorem own_int {w0 w : World} {ops : Array Oper} {rest : List Oper} {o : Oper} {a : Act} {Q : Exit → Act → World → Prop} (hgd : o.guard = none) (s x : Operand)
    (ho : o.op = .call { callee := .builtin .append, args := #[s, x], argTypes := #[27, 27] })
    {v : Value} {l : List Int} {es fs : List Ent} (hs : a.eval s = v) (h : Own w0 w (eInts v l :: es) fs) {y : Int} {t' : TypeId} (hx : a.eval x = .slice (some ⟨w.heap.size, 0, none⟩) 1 1) (hb : l.length < 17592186044416)
    (hK : ∀ g cap w', Own w0 w' (eInts (.slice (some ⟨g, 0, none⟩) (l.length + 1) cap) (l ++ [y]) :: es) fs → wpList Tryd.prog ops Q rest (a.put o.dst (.slice (some ⟨g, 0, none⟩) (l.length + 1) cap)) w') : wpList Tryd.prog ops Q (o :: rest) a (w.alloc (.cells #[.int .i64 y] t')) := by
  refine own_append_lit hgd s x _ ho Tryd.underlying27 infoI rfl (by decide) hs h hx rfl (fun u hu => by simp at hu; subst hu; rfl) (by omega) (by unfold maxLen; omega) (by omega) ?_
  intro g cap w' ho
  refine hK g cap w' ?_
  unfold eInts
  simpa [i64] using ho
/-- 'append(l, m...)' of at least one int. -/
theorem own_ints {w0 w : World} {ops : Array Oper} {rest : List Oper} {o : Oper} {a : Act} {Q : Exit → Act → World → Prop} (hgd : o.guard = none) (s x : Operand)
    (ho : o.op = .call { callee := .builtin .append, args := #[s, x], argTypes := #[27, 27] })
    {v : Value} {l : List Int} {es fs : List Ent} (hs : a.eval s = v) (h : Own w0 w (eInts v l :: es) fs) {ad : Addr} {c : Nat} {m : List Int} (hx : a.eval x = .slice (some ad) m.length c) (hA : IntsAt w w.heap.size (some ad) m) (hm : 0 < m.length) (hb : l.length + m.length ≤ 17592186044416)
    (hK : ∀ g cap w', Own w0 w' (eInts (.slice (some ⟨g, 0, none⟩) (l.length + m.length) cap) (l ++ m) :: es) fs → wpList Tryd.prog ops Q rest (a.put o.dst (.slice (some ⟨g, 0, none⟩) (l.length + m.length) cap)) w') : wpList Tryd.prog ops Q (o :: rest) a w := by
  refine own_append hgd s x _ ho Tryd.underlying27 infoI rfl (by decide) hs h (m.map i64) hx (by simp) (fun j u hj => ?_) (many_int m) hm (by unfold maxLen; omega) (by omega) ?_
  · obtain ⟨ad', e, _, hc⟩ := hA.1 j u hj
    obtain rfl := Option.some.inj e
    exact hc
  · intro g cap w' ho
    refine hK g cap w' ?_
    unfold eInts
    simpa using ho
/-- 'append(l, b)' of one bool. -/
theorem own_bool {w0 w : World} {ops : Array Oper} {rest : List Oper} {o : Oper} {a : Act} {Q : Exit → Act → World → Prop} (hgd : o.guard = none) (s x : Operand)
    (ho : o.op = .call { callee := .builtin .append, args := #[s, x], argTypes := #[23, 23] })
    {v : Value} {l : List Bool} {es fs : List Ent} (hs : a.eval s = v) (h : Own w0 w (eBools v l :: es) fs) {y : Bool} {t' : TypeId} (hx : a.eval x = .slice (some ⟨w.heap.size, 0, none⟩) 1 1) (hb : l.length < 17592186044416)
    (hK : ∀ g cap w', Own w0 w' (eBools (.slice (some ⟨g, 0, none⟩) (l.length + 1) cap) (l ++ [y]) :: es) fs → wpList Tryd.prog ops Q rest (a.put o.dst (.slice (some ⟨g, 0, none⟩) (l.length + 1) cap)) w') : wpList Tryd.prog ops Q (o :: rest) a (w.alloc (.cells #[.bool y] t')) := by
  refine own_append_lit hgd s x _ ho Tryd.underlying23 infoBool rfl (by decide) hs h hx rfl (fun u hu => by simp at hu; subst hu; rfl) (by omega) (by unfold maxLen; omega) (by omega) ?_
  intro g cap w' ho
  refine hK g cap w' ?_
  unfold eBools
  simpa using ho
theorem step_own_bool {w0 w : World} {ops : Array Oper} {o : Oper} {a : Act} {K : Act → World → Prop} {Q : Exit → Act → World → Prop} {E : Prop} (hgd : o.guard = none) (s x : Operand)
    (ho : o.op = .call { callee := .builtin .append, args := #[s, x], argTypes := #[23, 23] })
    {v : Value} {l : List Bool} {es fs : List Ent} (hs : a.eval s = v) (h : Own w0 w (eBools v l :: es) fs) {y : Bool} {t' : TypeId} (hx : a.eval x = .slice (some ⟨w.heap.size, 0, none⟩) 1 1) (hb : l.length < 17592186044416)
    (hK : ∀ g cap w', Own w0 w' (eBools (.slice (some ⟨g, 0, none⟩) (l.length + 1) cap) (l ++ [y]) :: es) fs → K (a.put o.dst (.slice (some ⟨g, 0, none⟩) (l.length + 1) cap)) w') : if Region.wanted o (yielded ops a.tmps) = true then Oper.wp Tryd.prog o a (w.alloc (.cells #[.bool y] t')) K Q else E := by
  refine step_own_append_lit hgd s x _ ho Tryd.underlying23 infoBool rfl (by decide) hs h hx rfl (fun u hu => by simp at hu; subst hu; rfl) (by omega) (by unfold maxLen; omega) (by omega) ?_
  intro g cap w' ho
  refine hK g cap w' ?_
  unfold eBools
  simpa using ho
/-- 'append(l, row)' of one row of ints. -/
theorem own_row {w0 w : World} {ops : Array Oper} {rest : List Oper} {o : Oper} {a : Act} {Q : Exit → Act → World → Prop} (hgd : o.guard = none) (s x : Operand)
    (ho : o.op = .call { callee := .builtin .append, args := #[s, x], argTypes := #[22, 22] })
    {v : Value} {l : List Value} {es fs : List Ent} (hs : a.eval s = v) (h : Own w0 w (eRows v l :: es) fs) {y : Value} (hy : y.oneCell' = true) {t' : TypeId} (hx : a.eval x = .slice (some ⟨w.heap.size, 0, none⟩) 1 1) (hb : l.length < 1099511627776)
    (hK : ∀ g cap w', Own w0 w' (eRows (.slice (some ⟨g, 0, none⟩) (l.length + 1) cap) (l ++ [y]) :: es) fs → wpList Tryd.prog ops Q rest (a.put o.dst (.slice (some ⟨g, 0, none⟩) (l.length + 1) cap)) w') : wpList Tryd.prog ops Q (o :: rest) a (w.alloc (.cells #[y] t')) := by
  refine own_append_lit hgd s x _ ho Tryd.underlying22 infoRow rfl (by decide) hs h hx rfl (fun u hu => by simp at hu; subst hu; exact hy) (by omega) (by unfold maxLen; omega) (by omega) ?_
  intro g cap w' ho
  refine hK g cap w' ?_
  unfold eRows
  simpa using ho

theorem step_own_row {w0 w : World} {ops : Array Oper} {o : Oper} {a : Act} {K : Act → World → Prop} {Q : Exit → Act → World → Prop} {E : Prop} (hgd : o.guard = none) (s x : Operand)
    (ho : o.op = .call { callee := .builtin .append, args := #[s, x], argTypes := #[22, 22] })
    {v : Value} {l : List Value} {es fs : List Ent} (hs : a.eval s = v) (h : Own w0 w (eRows v l :: es) fs) {y : Value} (hy : y.oneCell' = true) {t' : TypeId} (hx : a.eval x = .slice (some ⟨w.heap.size, 0, none⟩) 1 1) (hb : l.length < 1099511627776)
    (hK : ∀ g cap w', Own w0 w' (eRows (.slice (some ⟨g, 0, none⟩) (l.length + 1) cap) (l ++ [y]) :: es) fs → K (a.put o.dst (.slice (some ⟨g, 0, none⟩) (l.length + 1) cap)) w') : if Region.wanted o (yielded ops a.tmps) = true then Oper.wp Tryd.prog o a (w.alloc (.cells #[y] t')) K Q else E := by
  refine step_own_append_lit hgd s x _ ho Tryd.underlying22 infoRow rfl (by decide) hs h hx rfl (fun u hu => by simp at hu; subst hu; exact hy) (by omega) (by unfold maxLen; omega) (by omega) ?_
  intro g cap w' ho
  refine hK g cap w' ?_
  unfold eRows
  simpa using ho
end Go.Proofs.YtbciefeipiphiaaDoor.Wd
