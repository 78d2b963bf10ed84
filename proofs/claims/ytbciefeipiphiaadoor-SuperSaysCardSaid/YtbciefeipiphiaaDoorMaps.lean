/- Maps that a call makes and writes: what stands at each key, as a function; and rows that are written beside them. -/
import Derived.Test.YtbciefeipiphiaaDoorOwn
import Derived.Maps.OwnSet
import Derived.Maps.Views
import Derived.DeepKeys4
import Derived.WideKeyArr
import Derived.Laws.Rows
import Derived.Laws.Tables

namespace Go.Proofs.YtbciefeipiphiaaDoor.Mp
open Go.RowKit Go.IntWalk Go.Proofs.YtbciefeipiphiaaDoor.Wd
open Go.ChangeMaps Go.MapKept
open Go.Maps (Keyed)

/-- How an element's type is read: E as a value, L as it reads. -/
structure Elem (P : Program) (e : TypeId) (β : Type) (E : β → Value) (L : β → Lit) (ok : β → Prop) (z : β) : Prop where
  put : ∀ x, ok x → plainElem (H := Unit) P e (E x) = some (.lit (L x), [])
  inv : ∀ v x ps, plainElem (H := Unit) P e v = some (.lit (L x), ps) → v = E x
  zero : ∀ w, (zeroValue e).run P w = .ok (E z) w
  zok : ok z
/-- Block b is a map of at most n entries; f is what stands at the keys; m are there. -/
def MapIs (P : Program) (k e : TypeId) {α β : Type} (K : α → Value) (L : β → Lit) (w : World) (b n m : Nat) (f : α → Option β) : Prop :=
  ∃ D : DataW Unit, w.ownsMap P k (plainElem P e) b n D ∧ Maps.Tidy D ∧ Maps.size D = m ∧
    ∀ a kl, keyOf P k (K a) = some kl → Maps.has D kl = (f a).isSome ∧ ∀ (x : β) (z : DataW Unit), f a = some x → D.atKey kl z = .lit (L x)
section
variable {P : Program} {k e t : TypeId} {α β : Type} {K : α → Value} {E : β → Value} {L : β → Lit} {ok : β → Prop} {z : β} {w : World} {b n m : Nat} {f : α → Option β}
theorem MapIs.lt (h : MapIs P k e K L w b n m f) : b < w.heap.size := by
  obtain ⟨D, h1, _⟩ := h
  exact h1.lt
theorem MapIs.of_block {w' : World} (h : MapIs P k e K L w b n m f) (hb : w'.heap[b]? = w.heap[b]?) : MapIs P k e K L w' b n m f := by
  obtain ⟨D, ⟨es, clock, h1, h2⟩, h3⟩ := h
  exact ⟨D, ⟨es, clock, hb.trans h1, h2⟩, h3⟩
theorem MapIs.on {w' : World} {B : Nat} (h : MapIs P k e K L w b n m f) (hb : Below B w w') (hB : b < B) : MapIs P k e K L w' b n m f := h.of_block (hb.block b hB)
theorem MapIs.alloc (h : MapIs P k e K L w b n m f) (o : Obj) : MapIs P k e K L (w.alloc o) b n m f := h.on ((Below.refl _ _).alloc (Nat.le_refl _) o) h.lt
theorem map_made (w : World) (P : Program) (k e : TypeId) (K : α → Value) (L : β → Lit) : MapIs P k e K L (w.alloc (.map #[] 0)) w.heap.size 0 0 (fun _ => none) :=
  ⟨.map [], World.ownsMap_made w P k _, Maps.tidy_empty, rfl, fun a kl _ => ⟨rfl, fun x z h => by cases h⟩⟩
theorem MapIs.congr (h : MapIs P k e K L w b n m f) {g : α → Option β} (hg : ∀ a, (∃ kl, keyOf P k (K a) = some kl) → f a = g a) : MapIs P k e K L w b n m g := by
  obtain ⟨D, h1, h2, h3, h4⟩ := h
  exact ⟨D, h1, h2, h3, fun a kl ha => by rw [← hg a ⟨kl, ha⟩]; exact h4 a kl ha⟩
/-- 'v := m[k]'. -/
theorem MapIs.look (h : MapIs P k e K L w b n m f) (Ky : Keyed P k) (ht : P.underlying t = some (.map k e)) (El : Elem P e β E L ok z) {a : α} {kl : Lit} (ha : keyOf P k (K a) = some kl) :
    (Instr.lookup t (.map (some b)) (K a) false).run P w = .ok (E ((f a).getD z)) w := by
  obtain ⟨D, h1, h2, h3, h4⟩ := h
  obtain ⟨v, ps, hrun, hv⟩ := h1.lookup Ky ht (El.zero w) (El.put z El.zok) ha
  obtain ⟨h5, h6⟩ := h4 a kl ha
  rw [hrun]
  congr 1
  rcases hf : f a with _ | x
  · rw [hf] at h5
    rw [Maps.atKey_of_not_has h5] at hv
    exact El.inv _ _ _ hv
  · rw [h6 x _ hf] at hv
    exact El.inv _ _ _ hv
/-- 'v, ok := m[k]'. -/
theorem MapIs.look_ok (h : MapIs P k e K L w b n m f) (Ky : Keyed P k) (ht : P.underlying t = some (.map k e)) (El : Elem P e β E L ok z) {a : α} {kl : Lit} (ha : keyOf P k (K a) = some kl) :
    (Instr.lookup t (.map (some b)) (K a) true).run P w = .ok (.tuple #[E ((f a).getD z), .bool (f a).isSome]) w := by
  obtain ⟨D, h1, h2, h3, h4⟩ := h
  obtain ⟨v, ps, hrun, hv⟩ := h1.look_ok Ky ht (El.zero w) (El.put z El.zok) ha
  obtain ⟨h5, h6⟩ := h4 a kl ha
  rw [hrun, h5]
  congr 3
  rcases hf : f a with _ | x
  · rw [hf] at h5
    rw [Maps.atKey_of_not_has h5] at hv
    rw [El.inv _ _ _ hv]; rfl
  · rw [h6 x _ hf] at hv
    rw [El.inv _ _ _ hv]; rfl
/-- 'len(m)'. -/
theorem MapIs.len (h : MapIs P k e K L w b n m f) (ht : P.underlying t = some (.map k e)) (ty : TypeId) : (Builtin.len_ #[t] ty #[.map (some b)]).run P w = .ok (.int .i64 (m : Int)) w := by
  obtain ⟨D, h1, h2, h3, h4⟩ := h
  rw [← h3]; exact h1.len ht ty
/-- 'm[k] = v'. -/
theorem MapIs.store [DecidableEq α] (h : MapIs P k e K L w b n m f) (Ky : Keyed P k) (ht : P.underlying t = some (.map k e)) (El : Elem P e β E L ok z) (hn : n < 4294967296) {a : α} {kl : Lit} (ha : keyOf P k (K a) = some kl)
    (hK : ∀ x y, K x = K y → x = y) {x : β} (hx : ok x) :
    ∃ w', (Instr.mapUpdate t (.map (some b)) (K a) (E x)).run P w = .ok () w' ∧ w.mapTurned w' b ∧ MapIs P k e K L w' b (n + 1) (if (f a).isSome then m else m + 1) (fun y => if y = a then some x else f y) := by
  obtain ⟨D, h1, h2, h3, h4⟩ := h
  obtain ⟨w', hrun, r1, r2⟩ := h1.store Ky ht (by unfold maxLen; omega) ha (El.put x hx)
  refine ⟨w', hrun, r2, D.put kl (.lit (L x)), r1, h2.put (Ky.key ha) _, ?_, fun y yl hy => ?_⟩
  · rw [Maps.size_put h2, (h4 a kl ha).1, h3]
  · by_cases e : y = a
    · subst e
      obtain rfl : yl = kl := Option.some.inj (hy.symm.trans ha)
      simp only [if_pos]
      refine ⟨Maps.has_put_same h2.isMap (Ky.key ha) _, fun x' z hx' => ?_⟩
      obtain rfl := Option.some.inj hx'
      exact Maps.atKey_put_same h2.isMap (Ky.key ha) _ _
    · have hne : yl ≠ kl := fun q => by subst q; exact e (hK _ _ (Ky.inj hy ha))
      simp only [if_neg e]
      refine ⟨by rw [Maps.has_put_other hne]; exact (h4 y yl hy).1, fun x' z hx' => by rw [Maps.atKey_put_other hne]; exact (h4 y yl hy).2 x' z hx'⟩
end

/-! ### at the operation -/
section
variable {P : Program} {k e t : TypeId} {α β : Type} {K : α → Value} {E : β → Value} {L : β → Lit} {ok : β → Prop} {z : β} {w : World} {b n m : Nat} {f : α → Option β} {ops : Array Oper} {rest : List Oper} {o : Oper} {A : Act} {Q : Exit → Act → World → Prop}
theorem wp_look (h : MapIs P k e K L w b n m f) (Ky : Keyed P k) (ht : P.underlying t = some (.map k e)) (El : Elem P e β E L ok z) (hg : o.guard = none) (M X : Operand) (hop : o.op = Op.lookup t M X false) (hm : A.eval M = .map (some b)) {a : α} {kl : Lit} (hx : A.eval X = K a) (ha : keyOf P k (K a) = some kl)
    (hK : wpList P ops Q rest (A.put o.dst (E ((f a).getD z))) w) : wpList P ops Q (o :: rest) A w := by
  refine wpList_plain hg fun K' hK' => ?_
  have hrun := h.look Ky ht El ha
  unfold Oper.wp
  simp [execOp, hop, hm, hx, hrun, Result.andThen]
  exact hK' _ _ hK
theorem wp_look_is (h : MapIs P k e K L w b n m f) (Ky : Keyed P k) (ht : P.underlying t = some (.map k e)) (El : Elem P e β E L ok z) (hg : o.guard = none) (M X : Operand) (hop : o.op = Op.lookup t M X false) (hm : A.eval M = .map (some b)) {a : α} {kl : Lit} (hx : A.eval X = K a) (ha : keyOf P k (K a) = some kl) {x : β} (he : x = (f a).getD z)
    (hK : wpList P ops Q rest (A.put o.dst (E x)) w) : wpList P ops Q (o :: rest) A w :=
  wp_look h Ky ht El hg M X hop hm hx ha (he ▸ hK)
theorem wp_look_ok (h : MapIs P k e K L w b n m f) (Ky : Keyed P k) (ht : P.underlying t = some (.map k e)) (El : Elem P e β E L ok z) (hg : o.guard = none) (M X : Operand) (hop : o.op = Op.lookup t M X true) (hm : A.eval M = .map (some b)) {a : α} {kl : Lit} (hx : A.eval X = K a) (ha : keyOf P k (K a) = some kl) {x : Option β} (he : x = f a)
    (hK : wpList P ops Q rest (A.put o.dst (.tuple #[E (x.getD z), .bool x.isSome])) w) : wpList P ops Q (o :: rest) A w := by
  subst he
  refine wpList_plain hg fun K' hK' => ?_
  have hrun := h.look_ok Ky ht El ha
  unfold Oper.wp
  simp [execOp, hop, hm, hx, hrun, Result.andThen]
  exact hK' _ _ hK
theorem wp_store [DecidableEq α] (h : MapIs P k e K L w b n m f) (Ky : Keyed P k) (ht : P.underlying t = some (.map k e)) (El : Elem P e β E L ok z) (hn : n < 4294967296) (hinj : ∀ x y, K x = K y → x = y) (hg : o.guard = none) (M X V : Operand) (hop : o.op = Op.mapUpdate t M X V) (hm : A.eval M = .map (some b)) {a : α} {kl : Lit} (hx : A.eval X = K a) (ha : keyOf P k (K a) = some kl) {x : β} (hv : A.eval V = E x) (hok : ok x) {m' : Nat} (hm' : (if (f a).isSome then m else m + 1) = m')
    (hK : ∀ w', w.mapTurned w' b → MapIs P k e K L w' b (n + 1) m' (fun y => if y = a then some x else f y) → wpList P ops Q rest (A.put o.dst undef) w') : wpList P ops Q (o :: rest) A w := by
  refine wpList_plain hg fun K' hK' => ?_
  obtain ⟨w', hrun, r1, r2⟩ := h.store Ky ht El hn ha hinj hok
  unfold Oper.wp
  simp [execOp, hop, hm, hx, hv, hrun, Result.andThen]
  exact hK' _ _ (hK w' r1 (hm' ▸ r2))
theorem wp_len (h : MapIs P k e K L w b n m f) (ht : P.underlying t = some (.map k e)) (hg : o.guard = none) (M : Operand) (hop : o.op = Op.call { callee := Callee.builtin Builtin.len, args := #[M], argTypes := #[t] }) (hm : A.eval M = .map (some b))
    (hK : wpList P ops Q rest (A.put o.dst (.int .i64 (m : Int))) w) : wpList P ops Q (o :: rest) A w := by
  refine wpList_plain hg fun K' hK' => ?_
  unfold Oper.wp
  simp [execOp, hop, resolve, invoke, builtin, hm, h.len ht o.type, Result.andThen]
  exact hK' _ _ hK
end

/-! ### the kinds of elements -/
theorem plain_bool_inv {P : Program} {e : TypeId} (he : P.underlying e = some .bool) {v : Value} {x : Bool} {ps : List MemPlace} (h : plainElem (H := Unit) P e v = some (.lit (.bool x), ps)) : v = .bool x := by
  unfold plainElem at h
  rw [he] at h
  cases v <;> simp at h
  rw [h.1]
set_option maxRecDepth 100000 in
theorem zero_int (w : World) : (zeroValue 3).run Tryd.prog w = .ok (.int .i64 0) w := by kernel_rfl
set_option maxRecDepth 100000 in
theorem zero_bool (w : World) : (zeroValue 4).run Tryd.prog w = .ok (.bool false) w := by kernel_rfl
theorem elem_int : Elem Tryd.prog 3 Int (Value.int .i64) (Lit.int .i64) (fun x => (Lit.int .i64 x).wf = true) 0 :=
  ⟨fun x hx => plainElem_int Tryd.underlying3 hx, fun v x ps h => by
    obtain ⟨a, rfl, h2, _⟩ := plainElem_int_inv Tryd.underlying3 h
    simp at h2
    rw [h2.1], zero_int, by decide⟩
theorem elem_bool : Elem Tryd.prog 4 Bool Value.bool Lit.bool (fun _ => True) false :=
  ⟨fun x _ => plainElem_bool Tryd.underlying4 x, fun _ _ _ h => plain_bool_inv Tryd.underlying4 h, zero_bool, trivial⟩

/-! ### a map that is written, and rows beside it -/
theorem turned_block {w w' : World} {b : Nat} (h : w.mapTurned w' b) {j : Nat} (hj : j ≠ b) : w'.heap[j]? = w.heap[j]? := by
  obtain ⟨es, clock, es', clock', hb, rfl⟩ := h
  exact heap_setBlock_other hb _ hj
theorem turned_size {w w' : World} {b : Nat} (h : w.mapTurned w' b) : w'.heap.size = w.heap.size := by
  obtain ⟨es, clock, es', clock', hb, rfl⟩ := h
  simp [setBlock]
theorem turned_below {w w' : World} {b : Nat} (h : w.mapTurned w' b) {B : Nat} (hB : B ≤ b) : Below B w w' := by
  have h1 := turned_size h
  have h2 := fun j (hj : j < B) => turned_block h (j := j) (by omega)
  obtain ⟨es, clock, es', clock', hb, rfl⟩ := h
  exact ⟨rfl, rfl, rfl, by omega, h2⟩
theorem owns_turned {w w' : World} {b B : Nat} {t : TypeId} {sz n : Nat} {v : Value} {xs : List Value} (h : w.ownsRow B t sz v n xs) (ht : w.mapTurned w' b) (hb : b < B ∨ v.ownBlock ≠ some b) : w'.ownsRow B t sz v n xs := by
  refine ⟨h.1, ?_⟩
  rcases h.2 with h2 | ⟨g, cap, cur, e, hB, hh, r⟩
  · exact .inl h2
  · refine .inr ⟨g, cap, cur, e, hB, ?_, r⟩
    have hne : g ≠ b := by
      rcases hb with hb | hb
      · omega
      · intro q; subst q; subst e; exact hb rfl
    rw [turned_block ht hne]; exact hh
/-- A map that was made behind the rows, and is none of them, is written. -/
theorem own_beside {w0 w w' : World} {es fs : List Ent} {b : Nat} (h : Own w0 w es fs) (hb : w0.heap.size ≤ b) (hn : ∀ e ∈ es ++ fs, e.v.ownBlock ≠ some b) (ht : w.mapTurned w' b) : Own w0 w' es fs :=
  ⟨h.below.trans (turned_below ht hb), fun e he => owns_turned (h.each e he) ht (.inr (hn e (List.mem_append_left _ he))), fun e he => owns_turned (h.done e he) ht (.inr (hn e (List.mem_append_right _ he))), h.apart, h.off⟩
open Go.WideMaps (ArrKey)
/-! ### arrays of ints as keys -/
theorem mapM_all {α β : Type} {f : α → Option β} : ∀ (l : List α), (∀ x ∈ l, ∃ y, f x = some y) → ∃ ys, l.mapM f = some ys
  | [], _ => ⟨[], by simp⟩
  | x :: l, h => by
    obtain ⟨y, hy⟩ := h x List.mem_cons_self
    obtain ⟨ys, hys⟩ := mapM_all l fun z hz => h z (List.mem_cons_of_mem _ hz)
    exact ⟨y :: ys, by simp [List.mapM_cons, hy, hys]⟩
def wfI (x : Int) : Prop := -9223372036854775808 ≤ x ∧ x < 9223372036854775808
theorem wf_of {x : Int} (h : wfI x) : (Lit.int .i64 x).wf = true := WalkArith.wf_i64 ⟨h.1, by have := h.2; omega⟩
theorem arr_key {P : Program} {k e : TypeId} {n : Nat} (A : ArrKey P k e n) (he : P.underlying e = some (.int .i64)) (hsz : ∃ m, P.types.size = m + 1) {cs : List Int} (hl : cs.length = n) (hw : ∀ x ∈ cs, wfI x) :
    ∃ kl, keyOf P k (.agg (cs.map (Value.int .i64)).toArray) = some kl := by
  have h1 := A.keyType hsz
  have hf : (Value.agg (cs.map (Value.int .i64)).toArray).formed P k = true := by simp [Value.formed, A.hu, A.size, hl]
  obtain ⟨m, hm⟩ := hsz
  have hc : (Value.agg (cs.map (Value.int .i64)).toArray).cells.toList = cs.map (Value.int .i64) := by simp [Value.cells]
  have hk : ∃ ls, P.keyLits (P.types.size + 1) k (cs.map (Value.int .i64)) = some ls := by
    rw [hm]
    unfold Program.keyLits
    rw [A.hu]
    simp only
    rw [if_pos (by simp [hl, A.size])]
    obtain ⟨ys, hys⟩ := mapM_all (f := fun i => P.keyLits (m + 1) e (((cs.map (Value.int .i64)).drop (i * P.cellsOf e)).take (P.cellsOf e))) (List.range n) (fun i hi => by
      have hi' := List.mem_range.1 hi
      rw [A.one, Nat.mul_one]
      have hd : ((cs.map (Value.int .i64)).drop i).take 1 = [.int .i64 (cs[i]'(by omega))] := by
        rw [List.drop_eq_getElem_cons (by simp; omega)]; simp
      rw [hd]
      unfold Program.keyLits
      rw [he]
      exact ⟨_, if_pos ⟨rfl, wf_of (hw _ (List.getElem_mem _))⟩⟩)
    exact ⟨ys.flatten, by rw [hys]; rfl⟩
  obtain ⟨ls, hls⟩ := hk
  unfold keyOf
  rw [A.hu]
  simp only
  rw [h1, hf, hc, hls]
  exact ⟨_, rfl⟩
theorem types_pos : ∃ m, Tryd.prog.types.size = m + 1 := ⟨177 - 1, by kernel_rfl⟩

/-! ### a whole row in its block -/
theorem row_block {w0 w : World} {es fs : List Ent} (h : Own w0 w es fs) {t : TypeId} {sz g : Nat} {xs : List Value} (he : ⟨t, sz, (.slice (some ⟨g, 0, none⟩) 1 1), 1, xs⟩ ∈ es ++ fs) : w.heap[g]? = some (.cells xs.toArray t (0, 0)) ∧ xs.length = sz := by
  have h1 := h.at_ he
  have hl := h1.1
  rcases h1.2 with ⟨e, _⟩ | ⟨g', cap, cur, e, _, hh, _, _, hs, hx⟩
  · cases e
  · simp only [Value.slice.injEq, Option.some.injEq, Addr.mk.injEq] at e
    obtain ⟨⟨rfl, _⟩, _, rfl⟩ := e
    simp only [Nat.one_mul] at hl hs hx
    refine ⟨?_, hl⟩
    have h9 : cur.toList = xs := by
      rw [← hx, List.take_of_length_le]
      simp; omega
    rw [← h9, Array.toArray_toList]
    exact hh
theorem setRow_grown {w : World} {g : Nat} {cs : Array Value} : w.grownBy (w.setRow g cs) (some g) :=
  ⟨rfl, rfl, rfl, by simp [World.setRow], fun i _ hi => setRow_other w g i cs (fun e => hi (by rw [e]))⟩
theorem Own.setRow {w0 w : World} {es fs : List Ent} {t : TypeId} {sz g : Nat} {xs ys : List Value} (h : Own w0 w (⟨t, sz, (.slice (some ⟨g, 0, none⟩) 1 1), 1, xs⟩ :: es) fs) (hy : ys.length = sz) : Own w0 (w.setRow g ys.toArray) (⟨t, sz, (.slice (some ⟨g, 0, none⟩) 1 1), 1, ys⟩ :: es) fs := by
  obtain ⟨hb, hl⟩ := row_block (t := t) (sz := sz) (g := g) (xs := xs) h (by simp)
  have hg := (h.lt (ad := ⟨g, 0, none⟩) (t := t) (sz := sz) (n := 1) (cap := 1) (xs := xs) (by simp)).1
  obtain ⟨a1, a2⟩ := List.pairwise_cons.1 h.apart
  have keep : ∀ e : Ent, far ⟨t, sz, (.slice (some ⟨g, 0, none⟩) 1 1), 1, xs⟩ e → w.ownsRow w0.heap.size e.t e.sz e.v e.n e.xs → (w.setRow g ys.toArray).ownsRow w0.heap.size e.t e.sz e.v e.n e.xs := fun e hf ho => by
    refine ho.kept setRow_grown ?_
    rcases far_symm hf with hf | hf
    · exact .inl hf
    · exact .inr hf
  refine ⟨h.below.grown setRow_grown h.below.size (fun k hk => by obtain rfl := Option.some.inj hk; exact hg), fun e he => ?_, fun e he => ?_, List.pairwise_cons.2 ⟨a1, a2⟩, fun e he f hf => ?_⟩
  · rcases List.mem_cons.1 he with rfl | he
    · exact ⟨by simp [hy], .inr ⟨g, 1, ys.toArray, rfl, hg, setRow_heap w g _ _ t _ hb, Nat.le_refl _, by simp [maxLen], by simp [hy], by simp [← hy]⟩⟩
    · exact keep e (a1 e he) (h.each e (List.mem_cons_of_mem _ he))
  · exact keep e (h.off _ List.mem_cons_self e he) (h.done e he)
  · rcases List.mem_cons.1 he with rfl | he
    · exact h.off _ List.mem_cons_self f hf
    · exact h.off e (List.mem_cons_of_mem _ he) f hf

end Go.Proofs.YtbciefeipiphiaaDoor.Mp
