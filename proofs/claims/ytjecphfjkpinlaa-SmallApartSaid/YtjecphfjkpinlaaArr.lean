/- Arrays of ints: classes of states; states' kinds as keys; what numbers keys. -/
import Derived.Test.YtjecphfjkpinlaaPairs
import Derived.Test.YtjecphfjkpinlaaSmallT
import Derived.Laws.Rows
import Derived.Laws.Tables
namespace Go.Proofs.Ytjecphfjkpinlaa.Mp
open Go.RowKit Go.IntWalk Go.Proofs.Ytjecphfjkpinlaa.Wd Go.Proofs.Ytjecphfjkpinlaa.Wo Go.Proofs.Ytjecphfjkpinlaa.Df Go.Proofs.Ytjecphfjkpinlaa.Rc Go.Proofs.Ytjecphfjkpinlaa.Sm
open Go.Maps (Keyed)
open Go.WideMaps (ArrKey)

/-! ### a whole row in its block -/
theorem row_block {w0 w : World} {es fs : List Ent} (h : Own w0 w es fs) {t : TypeId} {sz g : Nat} {xs : List Value} (he : ⟨t, sz, rV g 1, 1, xs⟩ ∈ es ++ fs) : w.heap[g]? = some (.cells xs.toArray t (0, 0)) ∧ xs.length = sz := by
  have h1 := h.at_ he
  have hl := h1.1
  rcases h1.2 with ⟨e, _⟩ | ⟨g', cap, cur, e, _, hh, _, _, hs, hx⟩
  · cases e
  · simp only [Value.slice.injEq, Option.some.injEq, Addr.mk.injEq] at e
    obtain ⟨⟨rfl, _⟩, _, rfl⟩ := e
    simp only [Nat.one_mul] at hl hs hx
    refine ⟨?_, hl⟩
    have h9 : cur.toList = xs := by
      rw [← hx, List.take_of_length_le]
      simp; omega
    rw [← h9, Array.toArray_toList]
    exact hh
theorem setRow_grown {w : World} {g : Nat} {cs : Array Value} : w.grownBy (w.setRow g cs) (some g) :=
  ⟨rfl, rfl, rfl, by simp [World.setRow], fun i _ hi => setRow_other w g i cs (fun e => hi (by rw [e]))⟩
theorem Own.setRow {w0 w : World} {es fs : List Ent} {t : TypeId} {sz g : Nat} {xs ys : List Value} (h : Own w0 w (⟨t, sz, rV g 1, 1, xs⟩ :: es) fs) (hy : ys.length = sz) : Own w0 (w.setRow g ys.toArray) (⟨t, sz, rV g 1, 1, ys⟩ :: es) fs := by
  obtain ⟨hb, hl⟩ := row_block (t := t) (sz := sz) (g := g) (xs := xs) h (by simp)
  have hg := (h.lt (ad := ⟨g, 0, none⟩) (t := t) (sz := sz) (n := 1) (cap := 1) (xs := xs) (by simp)).1
  obtain ⟨a1, a2⟩ := List.pairwise_cons.1 h.apart
  have keep : ∀ e : Ent, far ⟨t, sz, rV g 1, 1, xs⟩ e → w.ownsRow w0.heap.size e.t e.sz e.v e.n e.xs → (w.setRow g ys.toArray).ownsRow w0.heap.size e.t e.sz e.v e.n e.xs := fun e hf ho => by
    refine ho.kept setRow_grown ?_
    rcases far_symm hf with hf | hf
    · exact .inl hf
    · exact .inr hf
  refine ⟨h.below.grown setRow_grown h.below.size (fun k hk => by obtain rfl := Option.some.inj hk; exact hg), fun e he => ?_, fun e he => ?_, List.pairwise_cons.2 ⟨a1, a2⟩, fun e he f hf => ?_⟩
  · rcases List.mem_cons.1 he with rfl | he
    · exact ⟨by simp [hy], .inr ⟨g, 1, ys.toArray, rfl, hg, setRow_heap w g _ _ t _ hb, Nat.le_refl _, by simp [maxLen], by simp [hy], by simp [← hy]⟩⟩
    · exact keep e (a1 e he) (h.each e (List.mem_cons_of_mem _ he))
  · exact keep e (h.off _ List.mem_cons_self e he) (h.done e he)
  · rcases List.mem_cons.1 he with rfl | he
    · exact h.off _ List.mem_cons_self f hf
    · exact h.off e (List.mem_cons_of_mem _ he) f hf

/-! ### classes -/
def pad (l : List Nat) : List Int := l.map (fun (x : Nat) => (x : Int)) ++ List.replicate (40 - l.length) 0
theorem pad_length {l : List Nat} (h : l.length ≤ 40) : (pad l).length = 40 := by simp [pad]; omega
theorem pad_get {l : List Nat} {x : Nat} (h : x < l.length) : (pad l)[x]? = some ((atC l x : Nat) : Int) := by
  unfold pad atC
  rw [List.getElem?_append_left (by simpa using h), List.getElem?_map, List.getElem?_eq_getElem h]; rfl
theorem pad_inj {l m : List Nat} (hl : l.length = m.length) (h : pad l = pad m) : l = m := by
  unfold pad at h
  have h1 := (List.append_inj h (by simp [hl])).1
  exact List.map_inj_right (fun x y e => by omega) |>.1 h1
theorem pad_snoc {l : List Nat} (h : l.length < 40) (x : Nat) : (pad l).set l.length (x : Int) = pad (l ++ [x]) := by
  unfold pad
  rw [List.set_append_right _ _ (by simp)]
  simp only [List.length_map, Nat.sub_self, List.map_append, List.map_cons, List.map_nil, List.length_append, List.length_singleton]
  obtain ⟨q, hq⟩ : ∃ q, 40 - l.length = q + 1 := ⟨39 - l.length, by omega⟩
  rw [hq, show 40 - (l.length + 1) = q by omega, List.replicate_succ]
  simp
def clsV (l : List Nat) : List Value := (pad l).map i64
theorem clsV_length {l : List Nat} (h : l.length ≤ 40) : (clsV l).length = 40 := by unfold clsV; rw [List.length_map]; exact pad_length h
theorem clsV_get {l : List Nat} {x : Nat} (h : x < l.length) : (clsV l)[x]? = some (.int .i64 ((atC l x : Nat) : Int)) := by unfold clsV; rw [List.getElem?_map, pad_get h]; rfl
theorem clsV_snoc {l : List Nat} (h : l.length < 40) (x : Nat) : (clsV l).set l.length (.int .i64 (x : Int)) = clsV (l ++ [x]) := by
  unfold clsV
  rw [← pad_snoc h, List.map_set]; rfl
theorem clsV_one (l : List Nat) : (clsV l).toArray.all (·.oneCell') = true := by
  rw [Array.all_eq_true_iff_forall_mem]
  intro x hx
  unfold clsV at hx
  simp only [List.mem_toArray, List.mem_map] at hx
  obtain ⟨y, _, rfl⟩ := hx
  rfl
theorem clsV_zero : clsV [] = List.replicate 40 (.int .i64 0) := by unfold clsV pad; simp [i64]
def eCls (g : Nat) (l : List Nat) : Ent := ⟨52, 40, rV g 1, 1, clsV l⟩
theorem info_cls : (Try.prog.info? 52).map (·.size) = some 40 := by kernel_rfl
theorem own_cls_cell {w0 w : World} {es fs : List Ent} (h : Own w0 w es fs) {g : Nat} {l : List Nat} (he : eCls g l ∈ es ++ fs) {j : Nat} (hj : j < 40) (hl : l.length ≤ 40) :
    (∃ v, w.cell? ⟨g, j, none⟩ = some v) ∧ w.frozen? ⟨g, j, none⟩ = false := by
  obtain ⟨h1, h2⟩ := h.cell (t := 52) (sz := 40) (n := 1) (cap := 1) (g := g) (xs := clsV l) he (j := j) (List.getElem?_eq_getElem (by rw [clsV_length hl]; exact hj))
  exact ⟨⟨_, h1⟩, h2⟩
theorem own_cls_at {w0 w : World} {es fs : List Ent} (h : Own w0 w es fs) {g : Nat} {l : List Nat} (he : eCls g l ∈ es ++ fs) {x : Nat} (hx : x < l.length) : w.cell? ⟨g, x, none⟩ = some (.int .i64 ((atC l x : Nat) : Int)) :=
  (h.cell (t := 52) (sz := 40) (n := 1) (cap := 1) (g := g) (xs := clsV l) he (clsV_get hx)).1
theorem own_cls_set {w0 w : World} {es fs : List Ent} {g : Nat} {l : List Nat} (h : Own w0 w (eCls g l :: es) fs) (hl : l.length < 40) (x : Nat) : Own w0 (w.setCell ⟨g, l.length, none⟩ (.int .i64 (x : Int))) (eCls g (l ++ [x]) :: es) fs := by
  have h2 := Own.set (t := 52) (sz := 40) (n := 1) (cap := 1) (xs := clsV l) h l.length (.int .i64 (x : Int))
  rw [clsV_snoc hl] at h2
  exact h2

/-! ### numbers of keys -/
section
variable {κ : Type} [DecidableEq κ]
/-- What the map holds behind the keys ks. -/
def nf (ks : List κ) (y : κ) : Option Int := if y ∈ ks then some ((num (dst ks) y : Nat) : Int) else none
theorem nf_old {ks : List κ} {x : κ} (h : x ∈ ks) : nf (ks ++ [x]) = nf ks := by
  funext y
  unfold nf
  have hm : y ∈ ks ++ [x] ↔ y ∈ ks := by
    simp only [List.mem_append, List.mem_singleton]
    exact ⟨fun q => q.elim id (fun q => q ▸ h), .inl⟩
  by_cases hy : y ∈ ks
  · rw [if_pos (hm.2 hy), if_pos hy, num_grow hy]
  · rw [if_neg (fun q => hy (hm.1 q)), if_neg hy]
theorem nf_new {ks : List κ} {x : κ} (h : x ∉ ks) : (fun y => if y = x then some ((dst ks).length : Int) else nf ks y) = nf (ks ++ [x]) := by
  funext y
  unfold nf
  by_cases e : y = x
  · subst e
    rw [if_pos rfl, if_pos (by simp), num_snoc, if_neg h]
  · rw [if_neg e]
    by_cases hy : y ∈ ks
    · rw [if_pos hy, if_pos (List.mem_append_left _ hy), num_grow hy]
    · rw [if_neg hy, if_neg (fun q => (List.mem_append.1 q).elim hy (fun q => e (List.mem_singleton.1 q)))]
theorem dst_old {ks : List κ} {x : κ} (h : x ∈ ks) : (dst (ks ++ [x])).length = (dst ks).length := by
  rw [dst_snoc]; unfold addTo; rw [if_pos (mem_dst.2 h)]
theorem dst_new {ks : List κ} {x : κ} (h : x ∉ ks) : (dst (ks ++ [x])).length = (dst ks).length + 1 := by
  rw [dst_snoc]; unfold addTo; rw [if_neg (fun q => h (mem_dst.1 q))]; simp
theorem nf_at {ks : List κ} {x : κ} (h : x ∈ ks) : nf ks x = some ((num (dst ks) x : Nat) : Int) := if_pos h
theorem nf_no {ks : List κ} {x : κ} (h : x ∉ ks) : nf ks x = none := if_neg h
end
theorem take_snoc {κ : Type} {ks : List κ} {k : Nat} (h : k < ks.length) : ks.take (k + 1) = ks.take k ++ [ks[k]] := (List.take_append_getElem h).symm
/-- Midway, i of the keys done: the array, and the map beside it. -/
def NInv (tk : TypeId) {κ : Type} [DecidableEq κ] (K : κ → Value) (w wr : World) (g g2 gm : Nat) (ks : List κ) (i : Nat) : Prop :=
  Own w wr [eCls g (cls (ks.take i)), eCls g2 []] [] ∧ w.heap.size ≤ gm ∧ gm ≠ g ∧ gm ≠ g2 ∧ MapIs Try.prog tk 3 K (Lit.int .i64) wr gm i (dst (ks.take i)).length (nf (ks.take i))
section
variable {tk : TypeId} {κ : Type} [DecidableEq κ] {K : κ → Value} {w wr : World} {g g2 gm : Nat} {ks : List κ} {i : Nat}
theorem NInv.alloc (h : NInv tk K w wr g g2 gm ks i) (o : Obj) : NInv tk K w (wr.alloc o) g g2 gm ks i := ⟨h.1.alloc o, h.2.1, h.2.2.1, h.2.2.2.1, h.2.2.2.2.alloc o⟩
/-- The number is stored. -/
theorem NInv.put (ho : Own w wr [eCls g (cls (ks.take i)), eCls g2 []] []) (h1 : w.heap.size ≤ gm) (h2 : gm ≠ g) (h3 : gm ≠ g2) (hi : i < ks.length) (h40 : ks.length ≤ 40)
    (hm : MapIs Try.prog tk 3 K (Lit.int .i64) wr gm (i + 1) (dst (ks.take (i + 1))).length (nf (ks.take (i + 1)))) {x : Nat} (hx : x = num (dst (ks.take (i + 1))) ks[i]) :
    NInv tk K w (wr.setCell ⟨g, i, none⟩ (.int .i64 (x : Int))) g g2 gm ks (i + 1) := by
  have hl : (cls (ks.take i)).length = i := by rw [cls_length, List.length_take]; omega
  have h9 := own_cls_set ho (by omega) x
  rw [hl] at h9
  refine ⟨?_, h1, h2, h3, hm.of_block (heap_setCell_other wr _ gm _ h2)⟩
  rw [take_snoc hi, cls_snoc, ← take_snoc hi, ← hx]
  exact h9
theorem NInv.old (h : NInv tk K w wr g g2 gm ks i) (hi : i < ks.length) (h40 : ks.length ≤ 40) (hk : ks[i] ∈ ks.take i) {x : Nat} (hx : x = num (dst (ks.take i)) ks[i]) : NInv tk K w (wr.setCell ⟨g, i, none⟩ (.int .i64 (x : Int))) g g2 gm ks (i + 1) := by
  obtain ⟨ho, h1, h2, h3, D, hm1, hm2⟩ := h
  refine NInv.put ho h1 h2 h3 hi h40 ?_ (by rw [take_snoc hi, num_grow hk]; exact hx)
  rw [take_snoc hi, nf_old hk, dst_old hk]
  exact ⟨D, hm1.mono (Nat.le_succ _), hm2⟩
theorem NInv.beside (h : NInv tk K w wr g g2 gm ks i) {w5 : World} (ht : wr.mapTurned w5 gm) : Own w w5 [eCls g (cls (ks.take i)), eCls g2 []] [] := by
  obtain ⟨ho, h1, h2, h3, _⟩ := h
  refine own_beside ho h1 (fun e he => ?_) ht
  simp at he
  rcases he with rfl | rfl
  · intro q; exact h2 (Option.some.inj q).symm
  · intro q; exact h3 (Option.some.inj q).symm
theorem NInv.new (h : NInv tk K w wr g g2 gm ks i) (hi : i < ks.length) (h40 : ks.length ≤ 40) (hk : ks[i] ∉ ks.take i) {w5 : World} (ht : wr.mapTurned w5 gm)
    (hm : MapIs Try.prog tk 3 K (Lit.int .i64) w5 gm (i + 1) ((dst (ks.take i)).length + 1) (fun y => if y = ks[i] then some (((dst (ks.take i)).length : Nat) : Int) else nf (ks.take i) y)) :
    NInv tk K w (w5.setCell ⟨g, i, none⟩ (.int .i64 (((dst (ks.take i)).length : Nat) : Int))) g g2 gm ks (i + 1) := by
  obtain ⟨ho, h1, h2, h3, _⟩ := h
  rw [nf_new hk] at hm
  refine NInv.put (own_beside ho h1 (fun e he => ?_) ht) h1 h2 h3 hi h40 ?_ (by rw [take_snoc hi, num_snoc, if_neg hk])
  · simp at he
    rcases he with rfl | rfl
    · intro q; exact h2 (Option.some.inj q).symm
    · intro q; exact h3 (Option.some.inj q).symm
  · rw [take_snoc hi, dst_new hk]
    exact hm
end
/-! ### kinds as keys -/
def K7 (l : List Int) : Value := .agg (l.map i64).toArray
theorem K7_inj : ∀ x y : List Int, K7 x = K7 y → x = y := fun x y h => by
  unfold K7 at h
  simp only [Value.agg.injEq] at h
  have h := congrArg Array.toList h
  exact (List.map_inj_right (fun a b e => by simpa [i64] using e)).1 h
theorem arr7 : ArrKey Try.prog 74 3 7 := ⟨Try.underlying74, by kernel_rfl, by kernel_rfl, by kernel_rfl⟩
theorem keyed7 : Keyed Try.prog 74 := Keyed.of_law arr7.law
theorem K7_key {l : List Int} (hl : l.length = 7) (hw : ∀ x ∈ l, wfI x) : ∃ kl, keyOf Try.prog 74 (K7 l) = some kl := arr_key arr7 Try.underlying3 types_pos hl hw
/-- Rows of kinds. -/
def kcells (ks : List (List Int)) : List Value := ks.flatMap fun l => l.map i64
theorem kcells_get : ∀ (ks : List (List Int)) (k : Nat) (x0 x1 x2 x3 x4 x5 x6 : Int), (∀ l ∈ ks, l.length = 7) → ks[k]? = some [x0, x1, x2, x3, x4, x5, x6] →
    (kcells ks)[k * 7]? = some (.int .i64 x0) ∧ (kcells ks)[k * 7 + 1]? = some (.int .i64 x1) ∧ (kcells ks)[k * 7 + 2]? = some (.int .i64 x2) ∧ (kcells ks)[k * 7 + 3]? = some (.int .i64 x3) ∧ (kcells ks)[k * 7 + 4]? = some (.int .i64 x4) ∧ (kcells ks)[k * 7 + 5]? = some (.int .i64 x5) ∧ (kcells ks)[k * 7 + 6]? = some (.int .i64 x6)
  | [], k, _, _, _, _, _, _, _, _, h => by simp at h
  | l :: ks, 0, x0, x1, x2, x3, x4, x5, x6, _, h => by
    simp only [List.getElem?_cons_zero, Option.some.injEq] at h
    subst h
    exact ⟨rfl, rfl, rfl, rfl, rfl, rfl, rfl⟩
  | l :: ks, k + 1, x0, x1, x2, x3, x4, x5, x6, hl, h => by
    rw [List.getElem?_cons_succ] at h
    have h1 := kcells_get ks k x0 x1 x2 x3 x4 x5 x6 (fun m hm => hl m (List.mem_cons_of_mem _ hm)) h
    have hl7 := hl l List.mem_cons_self
    have e : kcells (l :: ks) = l.map i64 ++ kcells ks := rfl
    have hj : ∀ j, (kcells (l :: ks))[(k + 1) * 7 + j]? = (kcells ks)[k * 7 + j]? := fun j => by
      rw [e, List.getElem?_append_right (by rw [List.length_map]; omega), List.length_map, hl7]
      congr 1; omega
    have h0 := hj 0
    simp only [Nat.add_zero] at h0
    rw [h0, hj, hj, hj, hj, hj, hj]
    exact h1
theorem kcell_at {w : World} {B : Nat} {A : Option Addr} {ks : List (List Int)} (h : Cells w B A (kcells ks)) {k : Nat} {x0 x1 x2 x3 x4 x5 x6 : Int} (h7 : ∀ l ∈ ks, l.length = 7) (hk : ks[k]? = some [x0, x1, x2, x3, x4, x5, x6]) :
    ∃ ad, A = some ad ∧ ad.block < B ∧ w.cell? (ad.add (k * 7)) = some (.int .i64 x0) ∧ w.cell? ⟨(ad.add (k * 7)).block, (ad.add (k * 7)).off + 1, none⟩ = some (.int .i64 x1) ∧ w.cell? ⟨(ad.add (k * 7)).block, (ad.add (k * 7)).off + 2, none⟩ = some (.int .i64 x2) ∧ w.cell? ⟨(ad.add (k * 7)).block, (ad.add (k * 7)).off + 3, none⟩ = some (.int .i64 x3) ∧ w.cell? ⟨(ad.add (k * 7)).block, (ad.add (k * 7)).off + 4, none⟩ = some (.int .i64 x4) ∧ w.cell? ⟨(ad.add (k * 7)).block, (ad.add (k * 7)).off + 5, none⟩ = some (.int .i64 x5) ∧ w.cell? ⟨(ad.add (k * 7)).block, (ad.add (k * 7)).off + 6, none⟩ = some (.int .i64 x6) := by
  obtain ⟨h0, h1, h2, h3, h4, h5, h6⟩ := kcells_get ks k x0 x1 x2 x3 x4 x5 x6 h7 hk
  obtain ⟨ad, e, hb, c0⟩ := h _ _ h0
  subst e
  have hj : ∀ j v, (kcells ks)[k * 7 + (j + 1)]? = some v → w.cell? ⟨(ad.add (k * 7)).block, (ad.add (k * 7)).off + (j + 1), none⟩ = some v := fun j v hv => by
    obtain ⟨ad2, e2, _, c2⟩ := h _ _ hv
    obtain rfl := Option.some.inj e2
    rw [← Addr.add_succ' (ad.add (k * 7)) j, Addr.add_add]; exact c2
  exact ⟨ad, rfl, hb, c0, hj 0 _ h1, hj 1 _ h2, hj 2 _ h3, hj 3 _ h4, hj 4 _ h5, hj 5 _ h6⟩
theorem seven {l : List Int} (h : l.length = 7) : ∃ x0 x1 x2 x3 x4 x5 x6, l = [x0, x1, x2, x3, x4, x5, x6] := by
  rcases l with _ | ⟨x0, _ | ⟨x1, _ | ⟨x2, _ | ⟨x3, _ | ⟨x4, _ | ⟨x5, _ | ⟨x6, _ | ⟨x7, l⟩⟩⟩⟩⟩⟩⟩⟩
  all_goals first | exact ⟨_, _, _, _, _, _, _, rfl⟩ | (simp at h) | (simp at h; omega)
theorem keyedB : Keyed Try.prog 4 := Maps.bool_keyed Try.underlying4
end Go.Proofs.Ytjecphfjkpinlaa.Mp
