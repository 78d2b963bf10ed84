/- Arrays of ints: classes of states; states' kinds as keys; what numbers keys. The walks of package small's numbered, at bools and at kinds, and of kindsOf. -/
import Derived.Test.YtbciefeipiphiaaDoorSame2
import Derived.Test.YtbciefeipiphiaaDoorSmallT
import Derived.Laws.Rows
import Derived.Laws.Tables

namespace Go.Proofs.YtbciefeipiphiaaDoor.Mp
open Go.RowKit Go.IntWalk Go.Proofs.YtbciefeipiphiaaDoor.Wd Go.Proofs.YtbciefeipiphiaaDoor.Wo Go.Proofs.YtbciefeipiphiaaDoor.Df Go.Proofs.YtbciefeipiphiaaDoor.Rc Go.Proofs.YtbciefeipiphiaaDoor.Sm
open Go.Maps (Keyed)
open Go.WideMaps (ArrKey)

/-! ### classes -/
def pad (l : List Nat) : List Int := l.map (fun (x : Nat) => (x : Int)) ++ List.replicate (40 - l.length) 0
theorem pad_length {l : List Nat} (h : l.length ≤ 40) : (pad l).length = 40 := by simp [pad]; omega
theorem pad_get {l : List Nat} {x : Nat} (h : x < l.length) : (pad l)[x]? = some ((atC l x : Nat) : Int) := by
  unfold pad atC
  rw [List.getElem?_append_left (by simpa using h), List.getElem?_map, List.getElem?_eq_getElem h]; rfl
theorem pad_inj {l m : List Nat} (hl : l.length = m.length) (h : pad l = pad m) : l = m := by
  unfold pad at h
  have h1 := (List.append_inj h (by simp [hl])).1
  exact List.map_inj_right (fun x y e => by omega) |>.1 h1
theorem pad_snoc {l : List Nat} (h : l.length < 40) (x : Nat) : (pad l).set l.length (x : Int) = pad (l ++ [x]) := by
  unfold pad
  rw [List.set_append_right _ _ (by simp)]
  simp only [List.length_map, Nat.sub_self, List.map_append, List.map_cons, List.map_nil, List.length_append, List.length_singleton]
  obtain ⟨q, hq⟩ : ∃ q, 40 - l.length = q + 1 := ⟨39 - l.length, by omega⟩
  rw [hq, show 40 - (l.length + 1) = q by omega, List.replicate_succ]
  simp
def clsV (l : List Nat) : List Value := (pad l).map i64
theorem clsV_length {l : List Nat} (h : l.length ≤ 40) : (clsV l).length = 40 := by unfold clsV; rw [List.length_map]; exact pad_length h
theorem clsV_get {l : List Nat} {x : Nat} (h : x < l.length) : (clsV l)[x]? = some (.int .i64 ((atC l x : Nat) : Int)) := by unfold clsV; rw [List.getElem?_map, pad_get h]; rfl
theorem clsV_snoc {l : List Nat} (h : l.length < 40) (x : Nat) : (clsV l).set l.length (.int .i64 (x : Int)) = clsV (l ++ [x]) := by
  unfold clsV
  rw [← pad_snoc h, List.map_set]; rfl
theorem clsV_one (l : List Nat) : (clsV l).toArray.all (·.oneCell') = true := by
  rw [Array.all_eq_true_iff_forall_mem]
  intro x hx
  unfold clsV at hx
  simp only [List.mem_toArray, List.mem_map] at hx
  obtain ⟨y, _, rfl⟩ := hx
  rfl
theorem clsV_zero : clsV [] = List.replicate 40 (.int .i64 0) := by unfold clsV pad; simp [i64]
def eCls (g : Nat) (l : List Nat) : Ent := ⟨90, 40, rV g 1, 1, clsV l⟩
theorem info_cls : (Tryd.prog.info? 90).map (·.size) = some 40 := by kernel_rfl
theorem own_cls_cell {w0 w : World} {es fs : List Ent} (h : Own w0 w es fs) {g : Nat} {l : List Nat} (he : eCls g l ∈ es ++ fs) {j : Nat} (hj : j < 40) (hl : l.length ≤ 40) :
    (∃ v, w.cell? ⟨g, j, none⟩ = some v) ∧ w.frozen? ⟨g, j, none⟩ = false := by
  obtain ⟨h1, h2⟩ := h.cell (t := 90) (sz := 40) (n := 1) (cap := 1) (g := g) (xs := clsV l) he (j := j) (List.getElem?_eq_getElem (by rw [clsV_length hl]; exact hj))
  exact ⟨⟨_, h1⟩, h2⟩
theorem own_cls_at {w0 w : World} {es fs : List Ent} (h : Own w0 w es fs) {g : Nat} {l : List Nat} (he : eCls g l ∈ es ++ fs) {x : Nat} (hx : x < l.length) : w.cell? ⟨g, x, none⟩ = some (.int .i64 ((atC l x : Nat) : Int)) :=
  (h.cell (t := 90) (sz := 40) (n := 1) (cap := 1) (g := g) (xs := clsV l) he (clsV_get hx)).1
theorem own_cls_set {w0 w : World} {es fs : List Ent} {g : Nat} {l : List Nat} (h : Own w0 w (eCls g l :: es) fs) (hl : l.length < 40) (x : Nat) : Own w0 (w.setCell ⟨g, l.length, none⟩ (.int .i64 (x : Int))) (eCls g (l ++ [x]) :: es) fs := by
  have h2 := Own.set (t := 90) (sz := 40) (n := 1) (cap := 1) (xs := clsV l) h l.length (.int .i64 (x : Int))
  rw [clsV_snoc hl] at h2
  exact h2

/-! ### numbers of keys -/
section
variable {κ : Type} [DecidableEq κ]
/-- What the map holds behind the keys ks. -/
def nf (ks : List κ) (y : κ) : Option Int := if y ∈ ks then some ((num (dst ks) y : Nat) : Int) else none
theorem nf_old {ks : List κ} {x : κ} (h : x ∈ ks) : nf (ks ++ [x]) = nf ks := by
  funext y
  unfold nf
  have hm : y ∈ ks ++ [x] ↔ y ∈ ks := by
    simp only [List.mem_append, List.mem_singleton]
    exact ⟨fun q => q.elim id (fun q => q ▸ h), .inl⟩
  by_cases hy : y ∈ ks
  · rw [if_pos (hm.2 hy), if_pos hy, num_grow hy]
  · rw [if_neg (fun q => hy (hm.1 q)), if_neg hy]
theorem nf_new {ks : List κ} {x : κ} (h : x ∉ ks) : (fun y => if y = x then some ((dst ks).length : Int) else nf ks y) = nf (ks ++ [x]) := by
  funext y
  unfold nf
  by_cases e : y = x
  · subst e
    rw [if_pos rfl, if_pos (by simp), num_snoc, if_neg h]
  · rw [if_neg e]
    by_cases hy : y ∈ ks
    · rw [if_pos hy, if_pos (List.mem_append_left _ hy), num_grow hy]
    · rw [if_neg hy, if_neg (fun q => (List.mem_append.1 q).elim hy (fun q => e (List.mem_singleton.1 q)))]
theorem dst_old {ks : List κ} {x : κ} (h : x ∈ ks) : (dst (ks ++ [x])).length = (dst ks).length := by
  rw [dst_snoc]; unfold addTo; rw [if_pos (mem_dst.2 h)]
theorem dst_new {ks : List κ} {x : κ} (h : x ∉ ks) : (dst (ks ++ [x])).length = (dst ks).length + 1 := by
  rw [dst_snoc]; unfold addTo; rw [if_neg (fun q => h (mem_dst.1 q))]; simp
theorem nf_at {ks : List κ} {x : κ} (h : x ∈ ks) : nf ks x = some ((num (dst ks) x : Nat) : Int) := if_pos h
theorem nf_no {ks : List κ} {x : κ} (h : x ∉ ks) : nf ks x = none := if_neg h
end
theorem take_snoc {κ : Type} {ks : List κ} {k : Nat} (h : k < ks.length) : ks.take (k + 1) = ks.take k ++ [ks[k]] := (List.take_append_getElem h).symm
/-- Midway, i of the keys done: the array, and the map beside it. -/
def NInv (tk : TypeId) {κ : Type} [DecidableEq κ] (K : κ → Value) (w wr : World) (g g2 gm : Nat) (ks : List κ) (i : Nat) : Prop :=
  Own w wr [eCls g (cls (ks.take i)), eCls g2 []] [] ∧ w.heap.size ≤ gm ∧ gm ≠ g ∧ gm ≠ g2 ∧ MapIs Tryd.prog tk 3 K (Lit.int .i64) wr gm i (dst (ks.take i)).length (nf (ks.take i))
section
variable {tk : TypeId} {κ : Type} [DecidableEq κ] {K : κ → Value} {w wr : World} {g g2 gm : Nat} {ks : List κ} {i : Nat}
theorem NInv.alloc (h : NInv tk K w wr g g2 gm ks i) (o : Obj) : NInv tk K w (wr.alloc o) g g2 gm ks i := ⟨h.1.alloc o, h.2.1, h.2.2.1, h.2.2.2.1, h.2.2.2.2.alloc o⟩
/-- The number is stored. -/
theorem NInv.put (ho : Own w wr [eCls g (cls (ks.take i)), eCls g2 []] []) (h1 : w.heap.size ≤ gm) (h2 : gm ≠ g) (h3 : gm ≠ g2) (hi : i < ks.length) (h40 : ks.length ≤ 40)
    (hm : MapIs Tryd.prog tk 3 K (Lit.int .i64) wr gm (i + 1) (dst (ks.take (i + 1))).length (nf (ks.take (i + 1)))) {x : Nat} (hx : x = num (dst (ks.take (i + 1))) ks[i]) :
    NInv tk K w (wr.setCell ⟨g, i, none⟩ (.int .i64 (x : Int))) g g2 gm ks (i + 1) := by
  have hl : (cls (ks.take i)).length = i := by rw [cls_length, List.length_take]; omega
  have h9 := own_cls_set ho (by omega) x
  rw [hl] at h9
  refine ⟨?_, h1, h2, h3, hm.of_block (heap_setCell_other wr _ gm _ h2)⟩
  rw [take_snoc hi, cls_snoc, ← take_snoc hi, ← hx]
  exact h9
theorem NInv.old (h : NInv tk K w wr g g2 gm ks i) (hi : i < ks.length) (h40 : ks.length ≤ 40) (hk : ks[i] ∈ ks.take i) {x : Nat} (hx : x = num (dst (ks.take i)) ks[i]) : NInv tk K w (wr.setCell ⟨g, i, none⟩ (.int .i64 (x : Int))) g g2 gm ks (i + 1) := by
  obtain ⟨ho, h1, h2, h3, D, hm1, hm2⟩ := h
  refine NInv.put ho h1 h2 h3 hi h40 ?_ (by rw [take_snoc hi, num_grow hk]; exact hx)
  rw [take_snoc hi, nf_old hk, dst_old hk]
  exact ⟨D, hm1.mono (Nat.le_succ _), hm2⟩
theorem NInv.beside (h : NInv tk K w wr g g2 gm ks i) {w5 : World} (ht : wr.mapTurned w5 gm) : Own w w5 [eCls g (cls (ks.take i)), eCls g2 []] [] := by
  obtain ⟨ho, h1, h2, h3, _⟩ := h
  refine own_beside ho h1 (fun e he => ?_) ht
  simp at he
  rcases he with rfl | rfl
  · intro q; exact h2 (Option.some.inj q).symm
  · intro q; exact h3 (Option.some.inj q).symm
theorem NInv.new (h : NInv tk K w wr g g2 gm ks i) (hi : i < ks.length) (h40 : ks.length ≤ 40) (hk : ks[i] ∉ ks.take i) {w5 : World} (ht : wr.mapTurned w5 gm)
    (hm : MapIs Tryd.prog tk 3 K (Lit.int .i64) w5 gm (i + 1) ((dst (ks.take i)).length + 1) (fun y => if y = ks[i] then some (((dst (ks.take i)).length : Nat) : Int) else nf (ks.take i) y)) :
    NInv tk K w (w5.setCell ⟨g, i, none⟩ (.int .i64 (((dst (ks.take i)).length : Nat) : Int))) g g2 gm ks (i + 1) := by
  obtain ⟨ho, h1, h2, h3, _⟩ := h
  rw [nf_new hk] at hm
  refine NInv.put (own_beside ho h1 (fun e he => ?_) ht) h1 h2 h3 hi h40 ?_ (by rw [take_snoc hi, num_snoc, if_neg hk])
  · simp at he
    rcases he with rfl | rfl
    · intro q; exact h2 (Option.some.inj q).symm
    · intro q; exact h3 (Option.some.inj q).symm
  · rw [take_snoc hi, dst_new hk]
    exact hm
end
/-! ### kinds as keys -/
def K7 (l : List Int) : Value := .agg (l.map i64).toArray
theorem K7_inj : ∀ x y : List Int, K7 x = K7 y → x = y := fun x y h => by
  unfold K7 at h
  simp only [Value.agg.injEq] at h
  have h := congrArg Array.toList h
  exact (List.map_inj_right (fun a b e => by simpa [i64] using e)).1 h
theorem arr7 : ArrKey Tryd.prog 123 3 7 := ⟨Tryd.underlying123, by kernel_rfl, by kernel_rfl, by kernel_rfl⟩
theorem keyed7 : Keyed Tryd.prog 123 := Keyed.of_law arr7.law
theorem K7_key {l : List Int} (hl : l.length = 7) (hw : ∀ x ∈ l, wfI x) : ∃ kl, keyOf Tryd.prog 123 (K7 l) = some kl := arr_key arr7 Tryd.underlying3 types_pos hl hw
/-- Rows of kinds. -/
def kcells (ks : List (List Int)) : List Value := ks.flatMap fun l => l.map i64
theorem kcells_get : ∀ (ks : List (List Int)) (k : Nat) (x0 x1 x2 x3 x4 x5 x6 : Int), (∀ l ∈ ks, l.length = 7) → ks[k]? = some [x0, x1, x2, x3, x4, x5, x6] →
    (kcells ks)[k * 7]? = some (.int .i64 x0) ∧ (kcells ks)[k * 7 + 1]? = some (.int .i64 x1) ∧ (kcells ks)[k * 7 + 2]? = some (.int .i64 x2) ∧ (kcells ks)[k * 7 + 3]? = some (.int .i64 x3) ∧ (kcells ks)[k * 7 + 4]? = some (.int .i64 x4) ∧ (kcells ks)[k * 7 + 5]? = some (.int .i64 x5) ∧ (kcells ks)[k * 7 + 6]? = some (.int .i64 x6)
  | [], k, _, _, _, _, _, _, _, _, h => by simp at h
  | l :: ks, 0, x0, x1, x2, x3, x4, x5, x6, _, h => by
    simp only [List.getElem?_cons_zero, Option.some.injEq] at h
    subst h
    exact ⟨rfl, rfl, rfl, rfl, rfl, rfl, rfl⟩
  | l :: ks, k + 1, x0, x1, x2, x3, x4, x5, x6, hl, h => by
    rw [List.getElem?_cons_succ] at h
    have h1 := kcells_get ks k x0 x1 x2 x3 x4 x5 x6 (fun m hm => hl m (List.mem_cons_of_mem _ hm)) h
    have hl7 := hl l List.mem_cons_self
    have e : kcells (l :: ks) = l.map i64 ++ kcells ks := rfl
    have hj : ∀ j, (kcells (l :: ks))[(k + 1) * 7 + j]? = (kcells ks)[k * 7 + j]? := fun j => by
      rw [e, List.getElem?_append_right (by rw [List.length_map]; omega), List.length_map, hl7]
      congr 1; omega
    have h0 := hj 0
    simp only [Nat.add_zero] at h0
    rw [h0, hj, hj, hj, hj, hj, hj]
    exact h1
theorem kcell_at {w : World} {B : Nat} {A : Option Addr} {ks : List (List Int)} (h : Cells w B A (kcells ks)) {k : Nat} {x0 x1 x2 x3 x4 x5 x6 : Int} (h7 : ∀ l ∈ ks, l.length = 7) (hk : ks[k]? = some [x0, x1, x2, x3, x4, x5, x6]) :
    ∃ ad, A = some ad ∧ ad.block < B ∧ w.cell? (ad.add (k * 7)) = some (.int .i64 x0) ∧ w.cell? ⟨(ad.add (k * 7)).block, (ad.add (k * 7)).off + 1, none⟩ = some (.int .i64 x1) ∧ w.cell? ⟨(ad.add (k * 7)).block, (ad.add (k * 7)).off + 2, none⟩ = some (.int .i64 x2) ∧ w.cell? ⟨(ad.add (k * 7)).block, (ad.add (k * 7)).off + 3, none⟩ = some (.int .i64 x3) ∧ w.cell? ⟨(ad.add (k * 7)).block, (ad.add (k * 7)).off + 4, none⟩ = some (.int .i64 x4) ∧ w.cell? ⟨(ad.add (k * 7)).block, (ad.add (k * 7)).off + 5, none⟩ = some (.int .i64 x5) ∧ w.cell? ⟨(ad.add (k * 7)).block, (ad.add (k * 7)).off + 6, none⟩ = some (.int .i64 x6) := by
  obtain ⟨h0, h1, h2, h3, h4, h5, h6⟩ := kcells_get ks k x0 x1 x2 x3 x4 x5 x6 h7 hk
  obtain ⟨ad, e, hb, c0⟩ := h _ _ h0
  subst e
  have hj : ∀ j v, (kcells ks)[k * 7 + (j + 1)]? = some v → w.cell? ⟨(ad.add (k * 7)).block, (ad.add (k * 7)).off + (j + 1), none⟩ = some v := fun j v hv => by
    obtain ⟨ad2, e2, _, c2⟩ := h _ _ hv
    obtain rfl := Option.some.inj e2
    rw [← Addr.add_succ' (ad.add (k * 7)) j, Addr.add_add]; exact c2
  exact ⟨ad, rfl, hb, c0, hj 0 _ h1, hj 1 _ h2, hj 2 _ h3, hj 3 _ h4, hj 4 _ h5, hj 5 _ h6⟩
theorem seven {l : List Int} (h : l.length = 7) : ∃ x0 x1 x2 x3 x4 x5 x6, l = [x0, x1, x2, x3, x4, x5, x6] := by
  rcases l with _ | ⟨x0, _ | ⟨x1, _ | ⟨x2, _ | ⟨x3, _ | ⟨x4, _ | ⟨x5, _ | ⟨x6, _ | ⟨x7, l⟩⟩⟩⟩⟩⟩⟩⟩
  all_goals first | exact ⟨_, _, _, _, _, _, _, rfl⟩ | (simp at h) | (simp at h; omega)
theorem keyedB : Keyed Tryd.prog 4 := Maps.bool_keyed Tryd.underlying4
end Go.Proofs.YtbciefeipiphiaaDoor.Mp

namespace Go.Proofs.YtbciefeipiphiaaDoor.Mp
open Go.RowKit Go.IntWalk Go.Proofs.YtbciefeipiphiaaDoor.Wd Go.Proofs.YtbciefeipiphiaaDoor.Wo Go.Proofs.YtbciefeipiphiaaDoor.Df Go.Proofs.YtbciefeipiphiaaDoor.Rc Go.Proofs.YtbciefeipiphiaaDoor.Sm

theorem num_start (w : World) (tk : TypeId) {κ : Type} [DecidableEq κ] (K : κ → Value) (ks : List κ) :
    NInv tk K w (((w.alloc (.cells #[.int .i64 0, .int .i64 0, .int .i64 0, .int .i64 0, .int .i64 0, .int .i64 0, .int .i64 0, .int .i64 0, .int .i64 0, .int .i64 0, .int .i64 0, .int .i64 0, .int .i64 0, .int .i64 0, .int .i64 0, .int .i64 0, .int .i64 0, .int .i64 0, .int .i64 0, .int .i64 0, .int .i64 0, .int .i64 0, .int .i64 0, .int .i64 0, .int .i64 0, .int .i64 0, .int .i64 0, .int .i64 0, .int .i64 0, .int .i64 0, .int .i64 0, .int .i64 0, .int .i64 0, .int .i64 0, .int .i64 0, .int .i64 0, .int .i64 0, .int .i64 0, .int .i64 0, .int .i64 0] 90)).alloc (.cells #[.int .i64 0, .int .i64 0, .int .i64 0, .int .i64 0, .int .i64 0, .int .i64 0, .int .i64 0, .int .i64 0, .int .i64 0, .int .i64 0, .int .i64 0, .int .i64 0, .int .i64 0, .int .i64 0, .int .i64 0, .int .i64 0, .int .i64 0, .int .i64 0, .int .i64 0, .int .i64 0, .int .i64 0, .int .i64 0, .int .i64 0, .int .i64 0, .int .i64 0, .int .i64 0, .int .i64 0, .int .i64 0, .int .i64 0, .int .i64 0, .int .i64 0, .int .i64 0, .int .i64 0, .int .i64 0, .int .i64 0, .int .i64 0, .int .i64 0, .int .i64 0, .int .i64 0, .int .i64 0] 90)).alloc (.map #[] 0)) (w.heap.size + 1) w.heap.size (w.heap.size + 1 + 1) ks 0 := by
  have h1 := (own_start w).lit 90 40 1 #[.int .i64 0, .int .i64 0, .int .i64 0, .int .i64 0, .int .i64 0, .int .i64 0, .int .i64 0, .int .i64 0, .int .i64 0, .int .i64 0, .int .i64 0, .int .i64 0, .int .i64 0, .int .i64 0, .int .i64 0, .int .i64 0, .int .i64 0, .int .i64 0, .int .i64 0, .int .i64 0, .int .i64 0, .int .i64 0, .int .i64 0, .int .i64 0, .int .i64 0, .int .i64 0, .int .i64 0, .int .i64 0, .int .i64 0, .int .i64 0, .int .i64 0, .int .i64 0, .int .i64 0, .int .i64 0, .int .i64 0, .int .i64 0, .int .i64 0, .int .i64 0, .int .i64 0, .int .i64 0] rfl (by simp [maxLen])
  have h2 := h1.lit 90 40 1 #[.int .i64 0, .int .i64 0, .int .i64 0, .int .i64 0, .int .i64 0, .int .i64 0, .int .i64 0, .int .i64 0, .int .i64 0, .int .i64 0, .int .i64 0, .int .i64 0, .int .i64 0, .int .i64 0, .int .i64 0, .int .i64 0, .int .i64 0, .int .i64 0, .int .i64 0, .int .i64 0, .int .i64 0, .int .i64 0, .int .i64 0, .int .i64 0, .int .i64 0, .int .i64 0, .int .i64 0, .int .i64 0, .int .i64 0, .int .i64 0, .int .i64 0, .int .i64 0, .int .i64 0, .int .i64 0, .int .i64 0, .int .i64 0, .int .i64 0, .int .i64 0, .int .i64 0, .int .i64 0] rfl (by simp [maxLen])
  have e1 : (w.alloc (.cells #[.int .i64 0, .int .i64 0, .int .i64 0, .int .i64 0, .int .i64 0, .int .i64 0, .int .i64 0, .int .i64 0, .int .i64 0, .int .i64 0, .int .i64 0, .int .i64 0, .int .i64 0, .int .i64 0, .int .i64 0, .int .i64 0, .int .i64 0, .int .i64 0, .int .i64 0, .int .i64 0, .int .i64 0, .int .i64 0, .int .i64 0, .int .i64 0, .int .i64 0, .int .i64 0, .int .i64 0, .int .i64 0, .int .i64 0, .int .i64 0, .int .i64 0, .int .i64 0, .int .i64 0, .int .i64 0, .int .i64 0, .int .i64 0, .int .i64 0, .int .i64 0, .int .i64 0, .int .i64 0] 90)).heap.size = w.heap.size + 1 := by simp
  have e2 : ((w.alloc (.cells #[.int .i64 0, .int .i64 0, .int .i64 0, .int .i64 0, .int .i64 0, .int .i64 0, .int .i64 0, .int .i64 0, .int .i64 0, .int .i64 0, .int .i64 0, .int .i64 0, .int .i64 0, .int .i64 0, .int .i64 0, .int .i64 0, .int .i64 0, .int .i64 0, .int .i64 0, .int .i64 0, .int .i64 0, .int .i64 0, .int .i64 0, .int .i64 0, .int .i64 0, .int .i64 0, .int .i64 0, .int .i64 0, .int .i64 0, .int .i64 0, .int .i64 0, .int .i64 0, .int .i64 0, .int .i64 0, .int .i64 0, .int .i64 0, .int .i64 0, .int .i64 0, .int .i64 0, .int .i64 0] 90)).alloc (.cells #[.int .i64 0, .int .i64 0, .int .i64 0, .int .i64 0, .int .i64 0, .int .i64 0, .int .i64 0, .int .i64 0, .int .i64 0, .int .i64 0, .int .i64 0, .int .i64 0, .int .i64 0, .int .i64 0, .int .i64 0, .int .i64 0, .int .i64 0, .int .i64 0, .int .i64 0, .int .i64 0, .int .i64 0, .int .i64 0, .int .i64 0, .int .i64 0, .int .i64 0, .int .i64 0, .int .i64 0, .int .i64 0, .int .i64 0, .int .i64 0, .int .i64 0, .int .i64 0, .int .i64 0, .int .i64 0, .int .i64 0, .int .i64 0, .int .i64 0, .int .i64 0, .int .i64 0, .int .i64 0] 90)).heap.size = w.heap.size + 1 + 1 := by simp
  rw [e1] at h2
  have hm := map_made ((w.alloc (.cells #[.int .i64 0, .int .i64 0, .int .i64 0, .int .i64 0, .int .i64 0, .int .i64 0, .int .i64 0, .int .i64 0, .int .i64 0, .int .i64 0, .int .i64 0, .int .i64 0, .int .i64 0, .int .i64 0, .int .i64 0, .int .i64 0, .int .i64 0, .int .i64 0, .int .i64 0, .int .i64 0, .int .i64 0, .int .i64 0, .int .i64 0, .int .i64 0, .int .i64 0, .int .i64 0, .int .i64 0, .int .i64 0, .int .i64 0, .int .i64 0, .int .i64 0, .int .i64 0, .int .i64 0, .int .i64 0, .int .i64 0, .int .i64 0, .int .i64 0, .int .i64 0, .int .i64 0, .int .i64 0] 90)).alloc (.cells #[.int .i64 0, .int .i64 0, .int .i64 0, .int .i64 0, .int .i64 0, .int .i64 0, .int .i64 0, .int .i64 0, .int .i64 0, .int .i64 0, .int .i64 0, .int .i64 0, .int .i64 0, .int .i64 0, .int .i64 0, .int .i64 0, .int .i64 0, .int .i64 0, .int .i64 0, .int .i64 0, .int .i64 0, .int .i64 0, .int .i64 0, .int .i64 0, .int .i64 0, .int .i64 0, .int .i64 0, .int .i64 0, .int .i64 0, .int .i64 0, .int .i64 0, .int .i64 0, .int .i64 0, .int .i64 0, .int .i64 0, .int .i64 0, .int .i64 0, .int .i64 0, .int .i64 0, .int .i64 0] 90)) Tryd.prog tk 3 K (Lit.int .i64)
  rw [e2] at hm
  refine ⟨h2.alloc _, by omega, by omega, by omega, ?_⟩
  have e3 : nf (ks.take 0) = fun _ => none := by funext y; unfold nf; simp
  rw [e3]
  exact hm
theorem clsV_info {l : List Nat} (h : l.length ≤ 40) : (Tryd.prog.info? 90).map (·.size) = some (clsV l).toArray.size := by rw [info_cls]; simp [clsV_length h]
set_option maxRecDepth 100000 in
set_option maxHeartbeats 4000000 in
theorem numB_any (A : Option Addr) (c : Nat) (bs : List Bool) (w : World) (hA : BoolsAt w w.heap.size A bs) (h40 : bs.length ≤ 40) (hc : bs.length ≤ c) (hc2 : c ≤ 9223372036854775807) :
    Calls Tryd.prog 73 #[.slice A bs.length c] w fun e w' => Hid (e = .returned (.agg (clsV (cls bs)).toArray)) ∧ Below w.heap.size w w' := by
  have HA := Lib.hid hA
  have hmm := @run_makeMap Tryd.prog
  have HS0 := Lib.hid (num_start w 4 Value.bool bs)
  clear hA
  go_enter Tryd.func73, Tryd.ntmps73
  go_wp2
  clear hmm
  obtain ⟨g3, hg3⟩ : ∃ g3, g3 = w.heap.size + 1 := ⟨_, rfl⟩
  obtain ⟨gm, hgm⟩ : ∃ gm, gm = w.heap.size + 1 + 1 := ⟨_, rfl⟩
  rw [← hgm, ← hg3] at HS0
  rw [← hgm, ← hg3]
  obtain ⟨g2, hg2⟩ : ∃ g2, g2 = w.heap.size := ⟨_, rfl⟩
  have HG2 := Lib.hid hg2
  rw [← hg2] at HS0
  rw [← hg2]
  generalize (((w.alloc (.cells #[.int .i64 0, .int .i64 0, .int .i64 0, .int .i64 0, .int .i64 0, .int .i64 0, .int .i64 0, .int .i64 0, .int .i64 0, .int .i64 0, .int .i64 0, .int .i64 0, .int .i64 0, .int .i64 0, .int .i64 0, .int .i64 0, .int .i64 0, .int .i64 0, .int .i64 0, .int .i64 0, .int .i64 0, .int .i64 0, .int .i64 0, .int .i64 0, .int .i64 0, .int .i64 0, .int .i64 0, .int .i64 0, .int .i64 0, .int .i64 0, .int .i64 0, .int .i64 0, .int .i64 0, .int .i64 0, .int .i64 0, .int .i64 0, .int .i64 0, .int .i64 0, .int .i64 0, .int .i64 0] 90)).alloc (.cells #[.int .i64 0, .int .i64 0, .int .i64 0, .int .i64 0, .int .i64 0, .int .i64 0, .int .i64 0, .int .i64 0, .int .i64 0, .int .i64 0, .int .i64 0, .int .i64 0, .int .i64 0, .int .i64 0, .int .i64 0, .int .i64 0, .int .i64 0, .int .i64 0, .int .i64 0, .int .i64 0, .int .i64 0, .int .i64 0, .int .i64 0, .int .i64 0, .int .i64 0, .int .i64 0, .int .i64 0, .int .i64 0, .int .i64 0, .int .i64 0, .int .i64 0, .int .i64 0, .int .i64 0, .int .i64 0, .int .i64 0, .int .i64 0, .int .i64 0, .int .i64 0, .int .i64 0, .int .i64 0] 90)).alloc (.map #[] 0)) = w4 at *
  clear hg3 hgm hg2
  go_loopw [12] (fun i wr => ∃ (k : Nat), k ≤ bs.length ∧ i = .int .i64 k ∧ Hid (NInv 4 Value.bool w wr g3 g2 gm bs k)) (fun i _ => bs.length - (intOf i).toNat)
  case atStart => exact ⟨0, by omega, rfl, HS0⟩
  case round =>
    clear HS0
    obtain ⟨k, hk, rfl, HS⟩ := hrel
    have hbw := HS.out.1.below
    have hln : (cls (bs.take k)).length = k := by rw [cls_length, List.length_take]; omega
    by_cases hlt : k < bs.length
    · as_aux_lemma =>
      obtain ⟨ad, e1, h1, h2, _⟩ := (HA.out.on hbw).at_ (List.getElem?_eq_getElem hlt)
      subst e1
      obtain ⟨⟨v0, hcv⟩, hcf⟩ := own_cls_cell HS.out.1 (g := g3) (l := cls (bs.take k)) (by simp) (j := k) (by omega) (by omega)
      have HM := Lib.hid HS.out.2.2.2.2
      have HKl := Lib.hid (Maps.keyOf_bool_mk Tryd.underlying4 bs[k])
      obtain ⟨bk, hbk⟩ : ∃ b, b = bs[k] := ⟨_, rfl⟩
      have HBk := Lib.hid hbk
      rw [← hbk] at h2 HKl
      clear hln hbw hbk
      by_cases hmem : bs[k] ∈ bs.take k
      · as_aux_lemma =>
        have HX : Hid (some ((num (dst (bs.take k)) bs[k] : Nat) : Int) = nf (bs.take k) bk) := by rw [Hid, HBk.out, nf_at hmem]
        have HN := Lib.hid (HS.out.old hlt h40 hmem rfl)
        clear hmem HBk HS
        generalize num (dst (bs.take k)) bs[k] = nn at *
        go_wp2_with (at_lookup; refine wp_look_ok HM.out keyedB Tryd.underlying145 elem_int (by rfl) _ _ (by rfl) (by rfl) (a := bk) (by rfl) HKl.out HX.out ?_)
        go_roundw
        case rel => exact ⟨k + 1, by omega, by go_num, HN⟩
        case measure => simp [intOf]; omega
      · as_aux_lemma =>
        have HX : Hid (none = nf (bs.take k) bk) := by rw [Hid, HBk.out, nf_no hmem]
        have HSn := Lib.hid (fun w5 ht => HS.out.beside (w5 := w5) ht)
        have HN := Lib.hid (fun w5 ht hm => HS.out.new hlt h40 hmem (w5 := w5) ht hm)
        rw [← HBk.out] at HN
        have hdl : (dst (bs.take k)).length ≤ 40 := by have := dst_length (bs.take k); rw [List.length_take] at this; omega
        clear hmem HS HBk
        generalize (dst (bs.take k)).length = dl at *
        go_wp2_with (first | (at_lookup; refine wp_look_ok HM.out keyedB Tryd.underlying145 elem_int (by rfl) _ _ (by rfl) (by rfl) (a := bk) (by rfl) HKl.out HX.out ?_) | (at_len; refine wp_len HM.out Tryd.underlying145 (by rfl) _ (by rfl) (by rfl) ?_) | (at_mapUpdate; refine wp_store HM.out keyedB Tryd.underlying145 elem_int (by omega) (fun x y h => by simpa using h) (by rfl) _ _ _ (by rfl) (by rfl) (a := bk) (by rfl) HKl.out (x := (dl : Int)) (by rfl) (wf_of ⟨by omega, by omega⟩) (m' := dl + 1) (by rw [← HX.out]; rfl) ?_))
        intro w5 ht hm
        have hN := Lib.hid (HN.out w5 ht hm)
        obtain ⟨⟨v5, hcv5⟩, hcf5⟩ := own_cls_cell (HSn.out w5 ht) (g := g3) (l := cls (bs.take k)) (by simp) (j := k) (by omega) (by rw [cls_length, List.length_take]; omega)
        clear ht hm hcv hcf HSn HN HM HKl HX
        go_wp2
        go_roundw
        case rel => exact ⟨k + 1, by omega, by go_num, hN⟩
        case measure => simp [intOf]; omega
    · as_aux_lemma =>
      obtain rfl : k = bs.length := by omega
      have ho := HS.out.1
      rw [List.take_length] at ho
      have HO := Lib.hid ho
      have hlen : (cls bs).length ≤ 40 := by rw [cls_length]; exact h40
      obtain ⟨hb3, _⟩ := row_block (g := g3) (t := 90) (sz := 40) (xs := clsV (cls bs)) ho (by simp [eCls])
      obtain ⟨hb2, _⟩ := row_block (g := g2) (t := 90) (sz := 40) (xs := clsV []) ho (by simp [eCls])
      have h9 := Own.setRow (g := g2) (t := 90) (sz := 40) (xs := clsV []) (ys := clsV (cls bs)) ho.two (clsV_length hlen)
      obtain ⟨hb9, _⟩ := row_block (g := g2) (t := 90) (sz := 40) (xs := clsV (cls bs)) h9 (by simp)
      have HB9 := Lib.hid h9.below
      have hi := clsV_info hlen
      have hone := clsV_one (cls bs)
      have hsz : (clsV []).toArray.size = (clsV (cls bs)).toArray.size := by simp [clsV_length hlen, clsV_zero]
      have Hi := Lib.hid hi
      have H1 := Lib.hid hone
      have Hsz := Lib.hid hsz
      have Hb3 := Lib.hid hb3
      have Hb2 := Lib.hid hb2
      have Hb9 := Lib.hid hb9
      clear hi hone hsz hb3 hb2 hb9 h9 ho hlen hln hbw HS HO
      generalize hcv9 : (clsV (cls bs)).toArray = cv at *
      have HCv := Lib.hid hcv9
      clear hcv9
      go_wp2_with (first | (refine wpList_load_row (by rfl) 90 _ (by rfl) g3 (by rfl) 90 cv (0, 0) _ Hb3.out Tryd.underlying90 (by rfl) Hi.out ?_) | (refine wpList_store_row (by rfl) 90 _ _ (by rfl) g2 cv (by rfl) (by rfl) 90 _ Hb2.out Hi.out Hsz.out H1.out ?_))
      (try simp only [Exit.inBlock, Exit.then])
      refine bodyPost_ret (results_cell_row (by rfl) _ _ g2 90 cv (0, 0) _ (by rfl) Hb9.out Tryd.underlying90 (by rfl) Hi.out) rfl ?_
      exact ⟨Lib.hid (by rw [HCv.out]), HB9.out⟩
end Go.Proofs.YtbciefeipiphiaaDoor.Mp

namespace Go.Proofs.YtbciefeipiphiaaDoor.Mp
open Go.RowKit Go.IntWalk Go.Proofs.YtbciefeipiphiaaDoor.Wd Go.Proofs.YtbciefeipiphiaaDoor.Wo Go.Proofs.YtbciefeipiphiaaDoor.Df Go.Proofs.YtbciefeipiphiaaDoor.Rc Go.Proofs.YtbciefeipiphiaaDoor.Sm

set_option maxRecDepth 100000 in
set_option maxHeartbeats 4000000 in
theorem numK_any (A : Option Addr) (c : Nat) (bs : List (List Int)) (w : World) (hA : Cells w w.heap.size A (kcells bs)) (h7 : ∀ l ∈ bs, l.length = 7) (hwf : ∀ l ∈ bs, ∀ x ∈ l, wfI x) (h40 : bs.length ≤ 40) (hc : bs.length ≤ c) (hc2 : c ≤ 9223372036854775807) :
    Calls Tryd.prog 74 #[.slice A bs.length c] w fun e w' => Hid (e = .returned (.agg (clsV (cls bs)).toArray)) ∧ Below w.heap.size w w' := by
  have HA := Lib.hid hA
  have H7 := Lib.hid h7
  have HWf := Lib.hid hwf
  have hmm := @run_makeMap Tryd.prog
  have HS0 := Lib.hid (num_start w 123 K7 bs)
  clear hA h7 hwf
  go_enter Tryd.func74, Tryd.ntmps74
  go_wp2
  clear hmm
  obtain ⟨g3, hg3⟩ : ∃ g3, g3 = w.heap.size + 1 := ⟨_, rfl⟩
  obtain ⟨gm, hgm⟩ : ∃ gm, gm = w.heap.size + 1 + 1 := ⟨_, rfl⟩
  rw [← hgm, ← hg3] at HS0
  rw [← hgm, ← hg3]
  obtain ⟨g2, hg2⟩ : ∃ g2, g2 = w.heap.size := ⟨_, rfl⟩
  have HG2 := Lib.hid hg2
  rw [← hg2] at HS0
  rw [← hg2]
  generalize (((w.alloc (.cells #[.int .i64 0, .int .i64 0, .int .i64 0, .int .i64 0, .int .i64 0, .int .i64 0, .int .i64 0, .int .i64 0, .int .i64 0, .int .i64 0, .int .i64 0, .int .i64 0, .int .i64 0, .int .i64 0, .int .i64 0, .int .i64 0, .int .i64 0, .int .i64 0, .int .i64 0, .int .i64 0, .int .i64 0, .int .i64 0, .int .i64 0, .int .i64 0, .int .i64 0, .int .i64 0, .int .i64 0, .int .i64 0, .int .i64 0, .int .i64 0, .int .i64 0, .int .i64 0, .int .i64 0, .int .i64 0, .int .i64 0, .int .i64 0, .int .i64 0, .int .i64 0, .int .i64 0, .int .i64 0] 90)).alloc (.cells #[.int .i64 0, .int .i64 0, .int .i64 0, .int .i64 0, .int .i64 0, .int .i64 0, .int .i64 0, .int .i64 0, .int .i64 0, .int .i64 0, .int .i64 0, .int .i64 0, .int .i64 0, .int .i64 0, .int .i64 0, .int .i64 0, .int .i64 0, .int .i64 0, .int .i64 0, .int .i64 0, .int .i64 0, .int .i64 0, .int .i64 0, .int .i64 0, .int .i64 0, .int .i64 0, .int .i64 0, .int .i64 0, .int .i64 0, .int .i64 0, .int .i64 0, .int .i64 0, .int .i64 0, .int .i64 0, .int .i64 0, .int .i64 0, .int .i64 0, .int .i64 0, .int .i64 0, .int .i64 0] 90)).alloc (.map #[] 0)) = w4 at *
  clear hg3 hgm hg2
  go_loopw [12] (fun i wr => ∃ (k : Nat), k ≤ bs.length ∧ i = .int .i64 k ∧ Hid (NInv 123 K7 w wr g3 g2 gm bs k)) (fun i _ => bs.length - (intOf i).toNat)
  case atStart => exact ⟨0, by omega, rfl, HS0⟩
  case round =>
    clear HS0
    obtain ⟨k, hk, rfl, HS⟩ := hrel
    have hbw := HS.out.1.below
    have hln : (cls (bs.take k)).length = k := by rw [cls_length, List.length_take]; omega
    by_cases hlt : k < bs.length
    · as_aux_lemma =>
      obtain ⟨x0, x1, x2, x3, x4, x5, x6, hx7⟩ := seven (H7.out _ (List.getElem_mem hlt))
      obtain ⟨ad, e1, h1, c0, c1, c2, c3, c4, c5, c6⟩ := kcell_at (Cells.below HA.out hbw) H7.out (k := k) (by rw [List.getElem?_eq_getElem hlt, hx7])
      subst e1
      obtain ⟨⟨v0, hcv⟩, hcf⟩ := own_cls_cell (HS.out.1.alloc (.cells #[.int .i64 x0, .int .i64 x1, .int .i64 x2, .int .i64 x3, .int .i64 x4, .int .i64 x5, .int .i64 x6] 123)) (g := g3) (l := cls (bs.take k)) (by simp) (j := k) (by omega) (by omega)
      have HM := Lib.hid (HS.out.2.2.2.2.alloc (.cells #[.int .i64 x0, .int .i64 x1, .int .i64 x2, .int .i64 x3, .int .i64 x4, .int .i64 x5, .int .i64 x6] 123))
      obtain ⟨kl, hkl⟩ := K7_key (H7.out _ (List.getElem_mem hlt)) (HWf.out _ (List.getElem_mem hlt))
      have HKl := Lib.hid hkl
      obtain ⟨bk, hbk⟩ : ∃ b, b = bs[k] := ⟨_, rfl⟩
      have HBk := Lib.hid hbk
      rw [← hbk] at HKl
      rw [hx7] at hbk
      subst hbk
      clear hx7 hkl
      clear hln hbw
      by_cases hmem : bs[k] ∈ bs.take k
      · as_aux_lemma =>
        have HX : Hid (some ((num (dst (bs.take k)) bs[k] : Nat) : Int) = nf (bs.take k) [x0, x1, x2, x3, x4, x5, x6]) := by rw [Hid, HBk.out, nf_at hmem]
        have HN := Lib.hid ((HS.out.alloc (.cells #[.int .i64 x0, .int .i64 x1, .int .i64 x2, .int .i64 x3, .int .i64 x4, .int .i64 x5, .int .i64 x6] 123)).old hlt h40 hmem rfl)
        clear hmem HBk HS
        generalize num (dst (bs.take k)) bs[k] = nn at *
        go_wp2_with (at_lookup; refine wp_look_ok HM.out keyed7 Tryd.underlying146 elem_int (by rfl) _ _ (by rfl) (by rfl) (a := [x0, x1, x2, x3, x4, x5, x6]) (by rfl) HKl.out HX.out ?_)
        go_roundw
        case rel => exact ⟨k + 1, by omega, by go_num, HN⟩
        case measure => simp [intOf]; omega
      · as_aux_lemma =>
        have HX : Hid (none = nf (bs.take k) [x0, x1, x2, x3, x4, x5, x6]) := by rw [Hid, HBk.out, nf_no hmem]
        have HSn := Lib.hid (fun w5 ht => (HS.out.alloc (.cells #[.int .i64 x0, .int .i64 x1, .int .i64 x2, .int .i64 x3, .int .i64 x4, .int .i64 x5, .int .i64 x6] 123)).beside (w5 := w5) ht)
        have HN := Lib.hid (fun w5 ht hm => (HS.out.alloc (.cells #[.int .i64 x0, .int .i64 x1, .int .i64 x2, .int .i64 x3, .int .i64 x4, .int .i64 x5, .int .i64 x6] 123)).new hlt h40 hmem (w5 := w5) ht hm)
        rw [← HBk.out] at HN
        have hdl : (dst (bs.take k)).length ≤ 40 := by have := dst_length (bs.take k); rw [List.length_take] at this; omega
        clear hmem HS HBk
        generalize (dst (bs.take k)).length = dl at *
        go_wp2_with (first | (at_lookup; refine wp_look_ok HM.out keyed7 Tryd.underlying146 elem_int (by rfl) _ _ (by rfl) (by rfl) (a := [x0, x1, x2, x3, x4, x5, x6]) (by rfl) HKl.out HX.out ?_) | (at_len; refine wp_len HM.out Tryd.underlying146 (by rfl) _ (by rfl) (by rfl) ?_) | (at_mapUpdate; refine wp_store HM.out keyed7 Tryd.underlying146 elem_int (by omega) K7_inj (by rfl) _ _ _ (by rfl) (by rfl) (a := [x0, x1, x2, x3, x4, x5, x6]) (by rfl) HKl.out (x := (dl : Int)) (by rfl) (wf_of ⟨by omega, by omega⟩) (m' := dl + 1) (by rw [← HX.out]; rfl) ?_))
        intro w5 ht hm
        have hN := Lib.hid (HN.out w5 ht hm)
        obtain ⟨⟨v5, hcv5⟩, hcf5⟩ := own_cls_cell (HSn.out w5 ht) (g := g3) (l := cls (bs.take k)) (by simp) (j := k) (by omega) (by rw [cls_length, List.length_take]; omega)
        clear ht hm hcv hcf HSn HN HM HKl HX
        go_wp2
        go_roundw
        case rel => exact ⟨k + 1, by omega, by go_num, hN⟩
        case measure => simp [intOf]; omega
    · as_aux_lemma =>
      obtain rfl : k = bs.length := by omega
      have ho := HS.out.1
      rw [List.take_length] at ho
      have HO := Lib.hid ho
      have hlen : (cls bs).length ≤ 40 := by rw [cls_length]; exact h40
      obtain ⟨hb3, _⟩ := row_block (g := g3) (t := 90) (sz := 40) (xs := clsV (cls bs)) ho (by simp [eCls])
      obtain ⟨hb2, _⟩ := row_block (g := g2) (t := 90) (sz := 40) (xs := clsV []) ho (by simp [eCls])
      have h9 := Own.setRow (g := g2) (t := 90) (sz := 40) (xs := clsV []) (ys := clsV (cls bs)) ho.two (clsV_length hlen)
      obtain ⟨hb9, _⟩ := row_block (g := g2) (t := 90) (sz := 40) (xs := clsV (cls bs)) h9 (by simp)
      have HB9 := Lib.hid h9.below
      have hi := clsV_info hlen
      have hone := clsV_one (cls bs)
      have hsz : (clsV []).toArray.size = (clsV (cls bs)).toArray.size := by simp [clsV_length hlen, clsV_zero]
      have Hi := Lib.hid hi
      have H1 := Lib.hid hone
      have Hsz := Lib.hid hsz
      have Hb3 := Lib.hid hb3
      have Hb2 := Lib.hid hb2
      have Hb9 := Lib.hid hb9
      clear hi hone hsz hb3 hb2 hb9 h9 ho hlen hln hbw HS HO
      generalize hcv9 : (clsV (cls bs)).toArray = cv at *
      have HCv := Lib.hid hcv9
      clear hcv9
      go_wp2_with (first | (refine wpList_load_row (by rfl) 90 _ (by rfl) g3 (by rfl) 90 cv (0, 0) _ Hb3.out Tryd.underlying90 (by rfl) Hi.out ?_) | (refine wpList_store_row (by rfl) 90 _ _ (by rfl) g2 cv (by rfl) (by rfl) 90 _ Hb2.out Hi.out Hsz.out H1.out ?_))
      (try simp only [Exit.inBlock, Exit.then])
      refine bodyPost_ret (results_cell_row (by rfl) _ _ g2 90 cv (0, 0) _ (by rfl) Hb9.out Tryd.underlying90 (by rfl) Hi.out) rfl ?_
      exact ⟨Lib.hid (by rw [HCv.out]), HB9.out⟩
end Go.Proofs.YtbciefeipiphiaaDoor.Mp

namespace Go.Proofs.YtbciefeipiphiaaDoor.Mp
open Go.RowKit Go.IntWalk Go.Proofs.YtbciefeipiphiaaDoor.Wd Go.Proofs.YtbciefeipiphiaaDoor.Wo Go.Proofs.YtbciefeipiphiaaDoor.Df Go.Proofs.YtbciefeipiphiaaDoor.Rc Go.Proofs.YtbciefeipiphiaaDoor.Sm

/-- The kind of a state, the first j of its numbers filled in. -/
def kM (d : Aut) (cl : List Nat) (q j : Nat) : List Int := ((kindL d cl q).take j).map (fun (x : Nat) => (x : Int)) ++ List.replicate (7 - j) 0
theorem kindL_length {d : Aut} {cl : List Nat} {q : Nat} : (kindL d cl q).length = d.L.toNat + 1 := by simp [kindL, S1_length]
theorem kM_length {d : Aut} (h6 : d.L ≤ 6) {cl : List Nat} {q j : Nat} (hj : j ≤ d.L.toNat + 1) : (kM d cl q j).length = 7 := by
  unfold kM
  rw [List.length_append, List.length_map, List.length_take, kindL_length, List.length_replicate]; omega
theorem kM_set {d : Aut} {cl : List Nat} {q j x : Nat} (hx : (kindL d cl q)[j]? = some x) (hj : j < 7) : (kM d cl q j).set j (x : Int) = kM d cl q (j + 1) := by
  obtain ⟨h1, h2⟩ := List.getElem?_eq_some_iff.1 hx
  unfold kM
  have hl : (((kindL d cl q).take j).map (fun (x : Nat) => (x : Int))).length = j := by rw [List.length_map, List.length_take]; omega
  rw [List.set_append_right _ _ (by omega), hl, Nat.sub_self, ← List.take_append_getElem h1, h2]
  obtain ⟨p, hp⟩ : ∃ p, 7 - j = p + 1 := ⟨6 - j, by omega⟩
  rw [hp, show 7 - (j + 1) = p by omega, List.replicate_succ]
  simp
/-- All of them, row s up to its number j. -/
def kR (d : Aut) (cl : List Nat) (s j : Nat) : List (List Int) := (List.range d.next.length).map fun q => kM d cl q (if q < s then d.L.toNat + 1 else if q = s then j else 0)
theorem kR_length (d : Aut) (cl : List Nat) (s j : Nat) : (kR d cl s j).length = d.next.length := by simp [kR]
theorem kR_get {d : Aut} {cl : List Nat} {s j q : Nat} (hq : q < d.next.length) : (kR d cl s j)[q]? = some (kM d cl q (if q < s then d.L.toNat + 1 else if q = s then j else 0)) := by
  unfold kR; rw [List.getElem?_map, List.getElem?_range hq]; rfl
theorem kR_next (d : Aut) (cl : List Nat) (s : Nat) : kR d cl s (d.L.toNat + 1) = kR d cl (s + 1) 0 := by
  unfold kR
  refine List.map_congr_left fun q _ => ?_
  congr 1
  by_cases h : q < s
  · rw [if_pos h, if_pos (by omega)]
  · rw [if_neg h]
    by_cases e : q = s
    · rw [if_pos e, if_pos (by omega)]
    · rw [if_neg e, if_neg (by omega)]
      split <;> rfl
theorem kR_zero (d : Aut) (cl : List Nat) : kR d cl 0 0 = List.replicate d.next.length (List.replicate 7 0) := by
  unfold kR
  refine List.ext_getElem? fun q => ?_
  rw [List.getElem?_map, List.getElem?_replicate]
  by_cases h : q < d.next.length
  · rw [List.getElem?_range h, if_pos h]
    simp only [Option.map_some, Option.some.injEq]
    rw [if_neg (by omega)]
    have : (if q = 0 then 0 else 0) = 0 := by split <;> rfl
    rw [this]; simp [kM]
  · rw [List.getElem?_eq_none (by simp; omega), if_neg h]; rfl
theorem kR_set {d : Aut} {cl : List Nat} {s j x : Nat} (hs : s < d.next.length) (hx : (kindL d cl s)[j]? = some x) (hj : j < 7) : (kR d cl s j).set s ((kM d cl s j).set j (x : Int)) = kR d cl s (j + 1) := by
  rw [kM_set hx hj]
  refine List.ext_getElem? fun q => ?_
  rw [List.getElem?_set, kR_length]
  by_cases e : s = q
  · subst e
    rw [if_pos rfl, if_pos hs, kR_get hs]
    simp
  · rw [if_neg e]
    by_cases hq : q < d.next.length
    · rw [kR_get hq, kR_get hq]
      have : ¬ q = s := fun h => e h.symm
      rw [if_neg this, if_neg this]
    · rw [List.getElem?_eq_none (by rw [kR_length]; omega), List.getElem?_eq_none (by rw [kR_length]; omega)]
theorem kR_seven {d : Aut} (h6 : d.L ≤ 6) {cl : List Nat} {s j : Nat} (hj : j ≤ d.L.toNat + 1) : ∀ l ∈ kR d cl s j, l.length = 7 := fun l hl => by
  unfold kR at hl
  obtain ⟨q, _, rfl⟩ := List.mem_map.1 hl
  refine kM_length h6 ?_
  split
  · omega
  · split <;> omega
/-- At the end they differ as the lists of numbers do. -/
theorem kR_end {d : Aut} (cl : List Nat) : kR d cl d.next.length 0 = (List.range d.next.length).map fun q => kM d cl q (d.L.toNat + 1) := by
  unfold kR
  refine List.map_congr_left fun q hq => ?_
  rw [if_pos (List.mem_range.1 hq)]
theorem kM_inj {d : Aut} {cl : List Nat} {p q : Nat} : kM d cl p (d.L.toNat + 1) = kM d cl q (d.L.toNat + 1) ↔ kindL d cl p = kindL d cl q := by
  unfold kM
  rw [List.take_of_length_le (by rw [kindL_length]; exact Nat.le_refl _), List.take_of_length_le (by rw [kindL_length]; exact Nat.le_refl _)]
  constructor
  · intro h
    have h1 := (List.append_inj h (by simp [kindL_length])).1
    exact (List.map_inj_right (fun x y e => by omega)).1 h1
  · intro h; rw [h]
theorem cls_kinds {d : Aut} (cl : List Nat) : cls (kR d cl d.next.length 0) = cls ((List.range d.next.length).map (kindL d cl)) := by
  refine cls_congr (by rw [kR_length]; simp) fun i j hi hj => ?_
  rw [kR_length] at hi hj
  rw [kR_end, List.getElem?_map, List.getElem?_map, List.getElem?_map, List.getElem?_map, List.getElem?_range hi, List.getElem?_range hj]
  simp only [Option.map_some, Option.some.injEq]
  exact kM_inj
theorem kM_wf {d : Aut} {cl : List Nat} (hc : ∀ x, atC cl x ≤ 40) {q j : Nat} : ∀ x ∈ kM d cl q j, wfI x := fun x hx => by
  unfold kM at hx
  rcases List.mem_append.1 hx with hx | hx
  · obtain ⟨y, hy, rfl⟩ := List.mem_map.1 hx
    have hy := List.mem_of_mem_take hy
    unfold kindL at hy
    rcases List.mem_cons.1 hy with rfl | hy
    · have := hc q; unfold wfI; omega
    · obtain ⟨t, _, rfl⟩ := List.mem_map.1 hy
      have := hc t; unfold wfI; omega
  · have := (List.mem_replicate.1 hx).2
    subst this; unfold wfI; omega

/-! ### rows of kinds that a call makes -/
def eKin (g n : Nat) (ks : List (List Int)) : Ent := ⟨123, 7, rV g n, n, kcells ks⟩
theorem kcells_set : ∀ (ks : List (List Int)) (k j : Nat) (l : List Int) (x : Int), (∀ l ∈ ks, l.length = 7) → ks[k]? = some l → j < 7 → (kcells ks).set (k * 7 + j) (.int .i64 x) = kcells (ks.set k (l.set j x))
  | [], k, j, l, x, _, h, _ => by simp at h
  | m :: ks, 0, j, l, x, h7, h, hj => by
    simp only [List.getElem?_cons_zero, Option.some.injEq] at h
    subst h
    have hm := h7 m List.mem_cons_self
    have e : kcells (m :: ks) = m.map i64 ++ kcells ks := rfl
    have e2 : kcells ((m :: ks).set 0 (m.set j x)) = (m.set j x).map i64 ++ kcells ks := rfl
    rw [e, e2, Nat.zero_mul, Nat.zero_add, List.set_append_left _ _ (by rw [List.length_map]; omega), List.map_set]; rfl
  | m :: ks, k + 1, j, l, x, h7, h, hj => by
    rw [List.getElem?_cons_succ] at h
    have hm := h7 m List.mem_cons_self
    have e : kcells (m :: ks) = m.map i64 ++ kcells ks := rfl
    have e2 : kcells ((m :: ks).set (k + 1) (l.set j x)) = m.map i64 ++ kcells (ks.set k (l.set j x)) := rfl
    rw [e, e2, List.set_append_right _ _ (by rw [List.length_map]; omega), List.length_map, hm, show (k + 1) * 7 + j - 7 = k * 7 + j by omega, kcells_set ks k j l x (fun y hy => h7 y (List.mem_cons_of_mem _ hy)) h hj]
theorem infoKin : (Tryd.prog.info? 123).map (fun i => (i.zero, i.size, i.bytes)) = some (some (.agg #[.int .i64 0, .int .i64 0, .int .i64 0, .int .i64 0, .int .i64 0, .int .i64 0, .int .i64 0]), 7, 56) := by kernel_rfl
theorem kcells_zero (n : Nat) : kcells (List.replicate n (List.replicate 7 0)) = List.replicate (n * 7) (.int .i64 0) := by
  induction n with
  | zero => rfl
  | succ n ih =>
    have e : kcells (List.replicate (n + 1) (List.replicate 7 0)) = (List.replicate 7 (0 : Int)).map i64 ++ kcells (List.replicate n (List.replicate 7 0)) := rfl
    rw [e, ih, List.map_replicate, show i64 0 = Value.int .i64 0 from rfl, List.replicate_append_replicate]
    congr 1; omega
theorem made_kin (n : Nat) : (madeCells (Value.agg #[.int .i64 0, .int .i64 0, .int .i64 0, .int .i64 0, .int .i64 0, .int .i64 0, .int .i64 0]).cells (n * 7)).toList = kcells (List.replicate n (List.replicate 7 0)) := by
  rw [kcells_zero]
  refine List.ext_getElem? fun i => ?_
  unfold madeCells
  simp only [Array.toList_map, Array.toList_range, List.getElem?_map, List.getElem?_replicate]
  by_cases h : i < n * 7
  · rw [List.getElem?_range h, if_pos h]
    simp only [Option.map_some, Option.some.injEq]
    have hc : (Value.agg #[.int .i64 0, .int .i64 0, .int .i64 0, .int .i64 0, .int .i64 0, .int .i64 0, .int .i64 0]).cells = #[.int .i64 0, .int .i64 0, .int .i64 0, .int .i64 0, .int .i64 0, .int .i64 0, .int .i64 0] := rfl
    rw [hc]
    show #[Value.int .i64 0, .int .i64 0, .int .i64 0, .int .i64 0, .int .i64 0, .int .i64 0, .int .i64 0][i % 7]! = _
    have h7 : i % 7 < 7 := Nat.mod_lt _ (by omega)
    generalize i % 7 = j at *
    rcases j with _ | _ | _ | _ | _ | _ | _ | j
    all_goals first | rfl | omega
  · rw [List.getElem?_eq_none (by simp; omega), if_neg h]; rfl
/-- 'make([]kind, n)'. -/
theorem mk_kinds {w : World} {ops : Array Oper} {rest : List Oper} {o : Oper} {a : Act} {Q : Exit → Act → World → Prop} (hgd : o.guard = none) (l c : Operand)
    (ho : o.op = Op.makeSlice 124 l c) (n : Nat) (hl : a.eval l = .int .i64 (n : Int)) (hc : a.eval c = .int .i64 (n : Int)) (hn : n ≤ 40)
    (h : ∀ w', Own w w' [eKin w.heap.size n (List.replicate n (List.replicate 7 0))] [] → wpList Tryd.prog ops Q rest (a.put o.dst (rV w.heap.size n)) w') : wpList Tryd.prog ops Q (o :: rest) a w := by
  obtain ⟨i0, hi, hz0, hz1, hz2⟩ := info_parts infoKin
  refine wpList_make_full w hgd l c 124 ho w.heap.size 123 i0 _ 7 Tryd.underlying124 hi hz0 hz1 .i64 .i64 _ _ n hl hc rfl rfl (by rw [hz2]; omega) (by unfold maxLen; omega) (Nat.le_refl _) ?_
  intro w' hown hg
  rw [made_kin] at hown
  refine h w' ⟨(Below.refl _ _).grown hg (Nat.le_refl _) (fun k hk => by cases hk), fun e he => ?_, fun e he => by simp at he, by simp, fun e _ f hf => by simp at hf⟩
  simp at he; subst he
  exact hown
theorem own_kin_at {w0 w : World} {es fs : List Ent} (h : Own w0 w es fs) {g n : Nat} {ks : List (List Int)} (he : eKin g n ks ∈ es ++ fs) {j : Nat} (hj : j < n * 7) : (∃ v, w.cell? ⟨g, j, none⟩ = some v) ∧ w.frozen? ⟨g, j, none⟩ = false := by
  have hl := h.len he
  simp only [eKin] at hl
  obtain ⟨h1, h2⟩ := h.cell (t := 123) (sz := 7) (n := n) (cap := n) (g := g) (xs := kcells ks) he (j := j) (List.getElem?_eq_getElem (by omega))
  exact ⟨⟨_, h1⟩, h2⟩
theorem own_kin_set {w0 w : World} {es fs : List Ent} {g n : Nat} {ks : List (List Int)} (h : Own w0 w (eKin g n ks :: es) fs) {k j : Nat} {l : List Int} (h7 : ∀ l ∈ ks, l.length = 7) (hk : ks[k]? = some l) (hj : j < 7) (x : Int) :
    Own w0 (w.setCell ⟨g, k * 7 + j, none⟩ (.int .i64 x)) (eKin g n (ks.set k (l.set j x)) :: es) fs := by
  have h2 := Own.set (t := 123) (sz := 7) (n := n) (cap := n) (xs := kcells ks) h (k * 7 + j) (.int .i64 x)
  rw [kcells_set ks k j l x h7 hk hj] at h2
  exact h2

/-- Midway: state s, its first j numbers. -/
def KInv (w1 wr : World) (g : Nat) (d : Aut) (cl : List Nat) (s j : Nat) : Prop := Own w1 wr [eKin g d.next.length (kR d cl s j)] []
set_option maxRecDepth 100000 in
set_option maxHeartbeats 4000000 in
theorem kinds_any (v : Value) (d : Aut) (cl : List Nat) (w : World) (h : DfaAt w w.heap.size v d) (hg : Df.Good d) (hcl : cl.length = d.next.length) :
    Calls Tryd.prog 75 #[v, .agg (clsV cl).toArray] w fun e w' => Hid (∃ gk, e = .returned (rV gk d.next.length) ∧ Own w w' [eKin gk d.next.length (kR d cl d.next.length 0)] []) := by
  obtain ⟨L, s0, A, c, F, cf, rfl, h⟩ := h
  obtain ⟨w1, hw1, hB1, hX, hd1⟩ := box_dfa w h
  have hs1 : w1.heap.size = w.heap.size + 1 := by rw [hw1]; simp
  have h40 := hg.n40
  have hlen : cl.length ≤ 40 := by omega
  obtain ⟨w2, hw2⟩ : ∃ w2, w2 = w1.alloc (.cells (clsV cl).toArray 90) := ⟨_, rfl⟩
  have ho2 : Own w1 w2 [eCls w1.heap.size cl] [] := by
    rw [hw2]
    have h9 := (own_start w1).lit 90 40 1 (clsV cl).toArray (by simp [clsV_length hlen]) (by simp [maxLen])
    exact h9
  have HB := Lib.hid hB1
  have HO2 := Lib.hid ho2
  have HX := Lib.hid (hX.on ho2.below)
  have HD := Lib.hid (hd1.on ho2.below)
  have HG := Lib.hid hg
  have HW1 : Hid (w2 = (w.alloc (.cells #[.int .i64 L, .int .i64 s0, .slice A d.next.length c, .slice F d.fin.length cf] 25)).alloc (.cells (clsV cl).toArray 90)) := by rw [Hid, hw2, hw1]
  have heL := h.eL
  obtain ⟨n, hn⟩ := Int.eq_ofNat_of_zero_le (show 0 ≤ L by have := hg.l1; omega)
  subst hn
  have hn6 : n ≤ 6 := by have := hg.l6; omega
  have HL : Hid (d.L = (n : Int)) := heL
  have HLn : Hid (d.L.toNat = n) := by unfold Hid; omega
  have HCl := Lib.hid hcl
  have hc2 := HX.out.c2
  rw [hs1] at ho2 HO2
  clear h hd1 hw1 hX hB1 hg heL hw2 ho2 hcl hlen hs1
  generalize hm : d.fin.length = m at *
  clear hm
  generalize hN : d.next.length = N at *
  have HN := Lib.hid hN
  clear hN
  obtain ⟨cv, hcv⟩ : ∃ cv, cv = (clsV cl).toArray := ⟨_, rfl⟩
  rw [← hcv] at HW1
  rw [← hcv]
  clear hcv
  go_enter Tryd.func75, Tryd.ntmps75
  go_wp2_with (at_make; rw [← HW1.out]; refine mk_kinds rfl _ _ rfl N rfl rfl (by omega) ?_)
  clear HW1
  intro w3 ho3
  have HS0 : Hid (KInv w2 w3 w2.heap.size d cl 0 0) := by unfold KInv; rw [kR_zero, HN.out]; exact ho3
  have hc2 := (HX.out.on ho3.below).c2
  clear ho3
  obtain ⟨gk, hgk⟩ : ∃ gk, gk = w2.heap.size := ⟨_, rfl⟩
  rw [← hgk] at HS0
  rw [← hgk]
  have HGk := Lib.hid hgk
  clear hgk
  go_wp2
  clear hc2
  go_loopw [17] (fun i wr => ∃ (k : Nat), k ≤ N ∧ i = .int .i64 k ∧ Hid (KInv w2 wr gk d cl k 0)) (fun i _ => N - (intOf i).toNat)
  case atStart => exact ⟨0, by omega, rfl, HS0⟩
  case round =>
    clear HS0
    obtain ⟨k, hk, rfl, HS⟩ := hrel
    have hbw := HS.out.below
    by_cases hlt : k < N
    · as_aux_lemma =>
      have hx1 : k < d.next.length := by have := HN.out; omega
      obtain ⟨ad, A', c', e0, hadb, hcell0, hrc, hcc, hri⟩ := HD.out.rows k _ (List.getElem?_eq_getElem hx1)
      subst e0
      have hcell1 := (hbw.cell (p := ad.add k) (by rw [Wd.block_add]; exact hadb)).trans hcell0
      clear hcell0 hadb
      have hrl := HG.out.row _ (List.getElem_mem hx1)
      have hrn : (d.next[k]).length = n := by have := HL.out; omega
      have HRow : Hid (d.next[k]? = some d.next[k]) := List.getElem?_eq_getElem hx1
      have HRI := Lib.hid hri
      have hkc := (hbw.cell (p := ⟨w.heap.size + 1, k, none⟩) (HO2.out.lt (ad := ⟨w.heap.size + 1, 0, none⟩) (t := 90) (sz := 40) (n := 1) (cap := 1) (xs := clsV cl) (by simp [eCls])).2).trans (own_cls_at HO2.out (g := w.heap.size + 1) (l := cl) (by simp) (by rw [HCl.out]; exact hlt))
      obtain ⟨⟨v0, ht1⟩, ht2⟩ := own_kin_at HS.out (g := gk) (n := d.next.length) (ks := kR d cl k 0) (by simp) (j := k * 7 + 0) (by rw [HN.out]; omega)
      have ht1 : wr.cell? ⟨gk, k * 7, none⟩ = some v0 := ht1
      have ht2 : wr.frozen? ⟨gk, k * 7, none⟩ = false := ht2
      have e2 : (k : Int) < 40 := by omega
      have hs0 := own_kin_set HS.out (kR_seven HG.out.l6 (by omega)) (kR_get hx1) (j := 0) (by omega) ((atC cl k : Nat) : Int)
      have HS1 : Hid (KInv w2 (wr.setCell ⟨gk, k * 7, none⟩ (.int .i64 ((atC cl k : Nat) : Int))) gk d cl k 1) := by
        unfold KInv
        rw [if_neg (by omega), if_pos rfl, kR_set hx1 (x := atC cl k) (by rfl) (by omega)] at hs0
        exact hs0
      have HX1 := Lib.hid hx1
      have e1 : (k : Int) < (N : Int) := by omega
      clear hrl hri hs0
      generalize d.next[k] = r0 at *
      clear hx1
      generalize atC cl k = v1 at *
      go_wp2_with fail
      go_region
      clear ht1 ht2 hkc hcell1 e2 hbw HS
      have HS2 : Hid (KInv w2 (wr.setCell ⟨gk, k * 7, none⟩ (.int .i64 (v1 : Int))).drew gk d cl k 1) := HS1.out.on (Below.refl _ _).drew
      go_wp2_with fail
      generalize (wr.setCell ⟨gk, k * 7, none⟩ (.int .i64 (v1 : Int))).drew = wb at *
      go_loopw [31] (fun i wi => ∃ (q : Nat), q ≤ n ∧ i = .int .i64 q ∧ Hid (KInv w2 wi gk d cl k (q + 1))) (fun i _ => n - (intOf i).toNat)
      case atStart => exact ⟨0, by omega, rfl, HS2⟩
      case round =>
        clear HS2 HS1
        obtain ⟨q, hq, rfl, HR⟩ := hrel
        have hbi := HR.out.below
        by_cases hqn : q < n
        · as_aux_lemma =>
          obtain ⟨r1, hr1, _, hr3, hr4, hr5⟩ := HG.out.at_ HX1.out (a := q) (by rw [HL.out]; omega)
          obtain rfl := Option.some.inj (HRow.out.symm.trans hr1)
          obtain ⟨ar, f0, k1, k2, _⟩ := (HRI.out.on hbi).get hr4
          subst f0
          rw [HN.out] at hr5
          have hkt : (kindL d cl k)[q + 1]? = some (atC cl (Df.step d k q)) := by
            unfold kindL
            rw [List.getElem?_cons_succ, List.getElem?_map, S1_get d k (by rw [HL.out]; omega)]; rfl
          have hkc := (hbi.cell (p := ⟨w.heap.size + 1, Df.step d k q, none⟩) (HO2.out.lt (ad := ⟨w.heap.size + 1, 0, none⟩) (t := 90) (sz := 40) (n := 1) (cap := 1) (xs := clsV cl) (by simp [eCls])).2).trans (own_cls_at HO2.out (g := w.heap.size + 1) (l := cl) (by simp) (by rw [HCl.out]; exact hr5))
          obtain ⟨⟨v0, ht1⟩, ht2⟩ := own_kin_at HR.out (g := gk) (n := d.next.length) (ks := kR d cl k (q + 1)) (by simp) (j := k * 7 + (q + 1)) (by rw [HN.out]; omega)
          have hs0 := own_kin_set HR.out (kR_seven HG.out.l6 (by rw [HLn.out]; omega)) (kR_get HX1.out) (j := q + 1) (by omega) ((atC cl (Df.step d k q) : Nat) : Int)
          have HS1 : Hid (KInv w2 (wr.setCell ⟨gk, k * 7 + (q + 1), none⟩ (.int .i64 ((atC cl (Df.step d k q) : Nat) : Int))) gk d cl k (q + 1 + 1)) := by
            unfold KInv
            rw [if_neg (by omega), if_pos rfl, kR_set HX1.out hkt (by omega)] at hs0
            exact hs0
          have e3 : (Df.step d k q : Int) < 40 := by omega
          have e4 : (k : Int) < (N : Int) := by omega
          have e5 : (q : Int) < (n : Int) := by omega
          have hw1 : IntKind.i64.wrap (1 + (q : Int)) = ((q + 1 : Nat) : Int) := by rw [IntWalk.i64_in _ ⟨by omega, by omega⟩]; omega
          have e6 : ((q + 1 : Nat) : Int) < 7 := by omega
          clear hr1 hr3 hr4 hr5 hs0 hkt HR hbi
          generalize atC cl (Df.step d k q) = v2 at *
          generalize Df.step d k q = t at *
          go_wp2_with fail
          go_region
          have HS2 := Lib.hid (HS1.out.on (Below.refl _ _).drew)
          clear HS1 ht1 ht2 hkc k1 k2
          go_wp2
          go_roundw
          case rel => exact ⟨q + 1, by omega, by go_num, HS2⟩
          case measure => simp [intOf]; omega
        · as_aux_lemma =>
          obtain rfl : q = n := by omega
          have HEnd : Hid (KInv w2 wr gk d cl (k + 1) 0) := by
            have h9 := HR.out
            unfold KInv at h9 ⊢
            rw [← HLn.out, kR_next] at h9
            exact h9
          clear HR hbi
          go_wp2
          go_roundw
          case rel => exact ⟨k + 1, by omega, by go_num, HEnd⟩
          case measure => simp [intOf]; omega
    · as_aux_lemma =>
      obtain rfl : k = N := by omega
      have HE : Hid (Own w wr [eKin gk k (kR d cl k 0)] []) := by
        have h9 := HS.out.base (HB.out.trans (HO2.out.below.mono HB.out.size))
        unfold Hid
        rw [HN.out] at h9
        exact h9
      clear HS hbw
      go_wp2
      go_ret
      exact ⟨gk, rfl, HE.out⟩
end Go.Proofs.YtbciefeipiphiaaDoor.Mp
