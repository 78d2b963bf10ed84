/- Arrays of 40 bools: as values, as keys of a map, as elements of a row. -/
import Derived.Test.YtnlkkfcjonchgaaDoorExpl
import Derived.Deep.MidRow
import Derived.Deep.WholeRow
import Derived.Great.BuildSlice

namespace Go.Proofs.YtnlkkfcjonchgaaDoor.Df
open Go.RowKit Go.IntWalk Go.Proofs.YtnlkkfcjonchgaaDoor.Wd Go.Proofs.YtnlkkfcjonchgaaDoor.Wo Go.Proofs.YtnlkkfcjonchgaaDoor.Mp
open Go.Maps (Keyed)
open Go.WideMaps (ArrKey)

/-! ### one array -/
def bv (l : List Bool) : List Value := l.map Value.bool
theorem bv_length (l : List Bool) : (bv l).length = l.length := by simp [bv]
theorem bv_inj {x y : List Bool} (h : bv x = bv y) : x = y := (List.map_inj_right (fun a b e => by simpa using e)).1 h
theorem bv_cell (l : List Bool) : ∀ v ∈ bv l, v.oneCell' = true := fun v hv => by
  obtain ⟨b, _, rfl⟩ := List.mem_map.1 hv
  rfl
theorem bv_one (l : List Bool) : (bv l).toArray.all (·.oneCell') = true := all_oneCell_toArray (bv_cell l)
abbrev KV (l : List Bool) : Value := .agg (bv l).toArray
theorem KV_inj : ∀ x y : List Bool, KV x = KV y → x = y := fun x y h => by
  simp only [Value.agg.injEq] at h
  exact bv_inj (by simpa using congrArg Array.toList h)
theorem arrV : ArrKey Tryd.prog 61 4 40 := ⟨Tryd.underlying61, by kernel_rfl, by kernel_rfl, by kernel_rfl⟩
theorem keyedV : Keyed Tryd.prog 61 := Keyed.of_law arrV.law
theorem KV_key (l : List Bool) (hl : l.length = 40) : ∃ kl, keyOf Tryd.prog 61 (KV l) = some kl := by
  have h1 := arrV.keyType types_pos
  have hf : (KV l).formed Tryd.prog 61 = true := by simp [Value.formed, arrV.hu, arrV.size, bv_length, hl]
  obtain ⟨m, hm⟩ := types_pos
  have hc : (KV l).cells.toList = bv l := by simp [Value.cells]
  have hk : ∃ ls, Tryd.prog.keyLits (Tryd.prog.types.size + 1) 61 (bv l) = some ls := by
    rw [hm]
    unfold Program.keyLits
    rw [arrV.hu]
    simp only
    rw [if_pos (by simp [bv_length, hl, arrV.size])]
    obtain ⟨ys, hys⟩ := mapM_all (f := fun i => Tryd.prog.keyLits (m + 1) 4 (((bv l).drop (i * Tryd.prog.cellsOf 4)).take (Tryd.prog.cellsOf 4))) (List.range 40) (fun i hi => by
      have hi' := List.mem_range.1 hi
      rw [arrV.one, Nat.mul_one]
      have hd : ((bv l).drop i).take 1 = [.bool (l[i]'(by omega))] := by
        rw [List.drop_eq_getElem_cons (by rw [bv_length]; omega)]; simp [bv]
      rw [hd]
      unfold Program.keyLits
      rw [Tryd.underlying4]
      exact ⟨_, rfl⟩)
    exact ⟨ys.flatten, by rw [hys]; rfl⟩
  obtain ⟨ls, hls⟩ := hk
  unfold keyOf
  rw [arrV.hu]
  simp only
  rw [h1, hf, hc, hls]
  exact ⟨_, rfl⟩
theorem sizeV : (Tryd.prog.info? 61).map (·.size) = some 40 := by kernel_rfl
theorem zeroV : (Tryd.prog.info? 61).map (fun i => (i.zero, i.size, i.bytes)) = some (some (.agg (bv (List.replicate 40 false)).toArray), 40, 40) := by kernel_rfl

/-! ### rows of arrays -/
def vcells (l : List (List Bool)) : List Value := l.flatMap bv
theorem vcells_append (l m : List (List Bool)) : vcells (l ++ m) = vcells l ++ vcells m := List.flatMap_append
theorem vcells_get : ∀ (l : List (List Bool)) (k j : Nat) (p : List Bool) (u : Value), (∀ m ∈ l, m.length = 40) → l[k]? = some p → (bv p)[j]? = some u → (vcells l)[k * 40 + j]? = some u
  | [], k, _, _, _, _, h, _ => by simp at h
  | q :: l, 0, j, p, u, h40, h, hj => by
    simp only [List.getElem?_cons_zero, Option.some.injEq] at h
    subst h
    have e : vcells (q :: l) = bv q ++ vcells l := rfl
    have hlt := (List.getElem?_eq_some_iff.1 hj).1
    rw [e, Nat.zero_mul, Nat.zero_add, List.getElem?_append_left hlt]; exact hj
  | q :: l, k + 1, j, p, u, h40, h, hj => by
    rw [List.getElem?_cons_succ] at h
    have e : vcells (q :: l) = bv q ++ vcells l := rfl
    have hq := h40 q List.mem_cons_self
    rw [e, List.getElem?_append_right (by rw [bv_length]; omega), bv_length, hq, show (k + 1) * 40 + j - 40 = k * 40 + j by omega]
    exact vcells_get l k j p u (fun m hm => h40 m (List.mem_cons_of_mem _ hm)) h hj
def eVals (v : Value) (l : List (List Bool)) : Ent := ⟨61, 40, v, l.length, vcells l⟩
theorem own_vals {w0 w : World} {es fs : List Ent} (h : Own w0 w es fs) {v : Value} {l : List (List Bool)} (he : eVals v l ∈ es ++ fs) :
    ∃ A cap, v = .slice A l.length cap ∧ l.length ≤ cap ∧ cap ≤ 9223372036854775807 := by
  obtain ⟨A, cap, hv, h1, h2, _⟩ := h.form he
  simp only [eVals] at hv h1
  subst hv
  unfold maxLen at h2
  exact ⟨A, cap, rfl, h1, h2⟩
theorem own_val_at {w0 w : World} {es fs : List Ent} (h : Own w0 w es fs) {v : Value} {l : List (List Bool)} (he : eVals v l ∈ es ++ fs) (h40 : ∀ m ∈ l, m.length = 40) {k : Nat} {p : List Bool} (hk : l[k]? = some p) :
    ∃ g cap, v = .slice (some ⟨g, 0, none⟩) l.length cap ∧ l.length ≤ cap ∧ cap ≤ 9223372036854775807 ∧ w.rangeAt g (k * 40) (bv p) := by
  have h1 := h.at_ he
  have hlt := (List.getElem?_eq_some_iff.1 hk).1
  rcases h1.2 with ⟨_, e⟩ | ⟨g, cap, cur, e, _, _, h3, h4, _⟩
  · simp only [eVals] at e; omega
  · simp only [eVals] at e h3
    subst e
    unfold maxLen at h4
    refine ⟨g, cap, rfl, h3, h4, fun j u hj => ?_⟩
    exact (h.cell (t := 61) (sz := 40) (n := l.length) (cap := cap) (g := g) (xs := vcells l) he (vcells_get l k j p u h40 hk hj)).1
/-- 'append(l, p)' of one array. -/
theorem own_val_g {w0 w : World} {ops : Array Oper} {rest : List Oper} {o : Oper} {a : Act} {Q : Exit → Act → World → Prop} (hgd : o.guard = none) (s x : Operand)
    (ho : o.op = .call { callee := .builtin .append, args := #[s, x], argTypes := #[92, 92] })
    {v : Value} {l : List (List Bool)} {es fs : List Ent} (hs : a.eval s = v) (h : Own w0 w (eVals v l :: es) fs) {b : Nat} {ob : Obj} (hb : IsMap w b ob) {p : List Bool} (hp : p.length = 40) {cs : Array Value} (hcs : cs = (bv p).toArray) {t' : TypeId} (hx : a.eval x = .slice (some ⟨w.heap.size, 0, none⟩) 1 1) (hl : l.length < 1099511627776)
    (hK : ∀ g cap w', Own w0 w' (eVals (.slice (some ⟨g, 0, none⟩) (l.length + 1) cap) (l ++ [p]) :: es) fs → IsMap w' b ob → wpList Tryd.prog ops Q rest (a.put o.dst (.slice (some ⟨g, 0, none⟩) (l.length + 1) cap)) w') :
    wpList Tryd.prog ops Q (o :: rest) a (w.alloc (.cells cs t')) := by
  refine wpList_plain hgd fun _ hK' => ?_
  subst hcs
  refine wp_own_append_lit_g s x _ ho Tryd.underlying92 zeroV rfl (by decide) hs h hb hx (by simp [bv_length, hp]) (fun u hu => bv_cell p u (by simpa using hu)) (by omega) (by unfold maxLen; omega) (by omega) ?_
  intro g cap w' ho hm
  refine hK' _ _ (hK g cap w' ?_ hm)
  unfold eVals
  rw [vcells_append]
  simpa [vcells] using ho
/-! ### an array in a block of its own -/
def eVal (g : Nat) (l : List Bool) : Ent := ⟨61, 40, .slice (some ⟨g, 0, none⟩) 1 1, 1, bv l⟩
theorem own_val_lit {w0 w : World} {es fs : List Ent} (h : Own w0 w es fs) {l : List Bool} (hl : l.length = 40) {cs : Array Value} (hcs : cs = (bv l).toArray) : Own w0 (w.alloc (.cells cs 61)) (eVal w.heap.size l :: es) fs := by
  subst hcs
  exact h.lit 61 40 1 (bv l).toArray (by simp [bv_length, hl]) (by simp [maxLen])
theorem val_block {w0 w : World} {es fs : List Ent} (h : Own w0 w es fs) {g : Nat} {l : List Bool} (he : eVal g l ∈ es ++ fs) {cs : Array Value} (hcs : cs = (bv l).toArray) : w.heap[g]? = some (.cells cs 61 (0, 0)) := by
  subst hcs
  exact (row_block h he).1
/-- A whole array goes into the block that was made last. -/
theorem wpList_store_fresh {w : World} {ops : Array Oper} {rest : List Oper} {o : Oper} {a : Act} {Q : Exit → Act → World → Prop} (hgd : o.guard = none) (ty : TypeId) (x y : Operand) (ho : o.op = .store ty x y)
    (cs : Array Value) (hx : a.eval x = .pointer (some ⟨w.heap.size, 0, none⟩)) (hy : a.eval y = .agg cs) (t : TypeId) (old : Array Value) (hi : (Tryd.prog.info? ty).map (·.size) = some cs.size) (hold : old.size = cs.size) (h1 : cs.all (·.oneCell') = true)
    (h : wpList Tryd.prog ops Q rest (a.put o.dst undef) (w.alloc (.cells cs t))) : wpList Tryd.prog ops Q (o :: rest) a (w.alloc (.cells old t)) := by
  refine wpList_store_row hgd ty x y ho w.heap.size cs hx hy t old (heap_alloc_new w _) hi hold h1 ?_
  rw [World.setRow_alloc_new]
  exact h
/-- '[]values{v}'. -/
theorem wpList_build_val {w : World} {ops : Array Oper} {rest : List Oper} {o : Oper} {a : Act} {Q : Exit → Act → World → Prop} (hgd : o.guard = none) (x : Operand) (ho : o.op = .buildSlice 92 1 #[(0, x)])
    (cs : Array Value) (hx : a.eval x = .agg cs) (h40 : cs.size = 40)
    (h : wpList Tryd.prog ops Q rest (a.put o.dst (.slice (some ⟨w.heap.size, 0, none⟩) 1 1)) (w.alloc (.cells cs 61))) : wpList Tryd.prog ops Q (o :: rest) a w := by
  obtain ⟨i0, hi, hz0, hz1, hz2⟩ := info_parts zeroV
  refine wpList_buildSlice hgd 92 61 1 _ ho cs i0 _ Tryd.underlying92 hi hz0 (by rw [hz1]; omega) (by rw [hz1]; omega) ?_ h
  have hp : (((#[(0, x)] : Array (Nat × Operand)).map fun (i, y) => (i, a.eval y)).toList) = ([Value.agg cs].zipIdx 0).map fun y => (y.2, y.1) := by simp [hx]
  rw [hp, hz1]
  obtain ⟨r, hr, hs, hk⟩ := Great.fill_dense (s := 40) (by omega) [Value.agg cs] 0 ((Array.range (1 * 40)).map ((Value.agg (bv (List.replicate 40 false)).toArray).cells[· % (Value.agg (bv (List.replicate 40 false)).toArray).cells.size]!)) (fun v hv => by simp at hv; subst hv; exact h40) (by simp)
  rw [hr]
  refine congrArg some (Array.ext_getElem? fun k => ?_)
  rw [hk k]
  clear hp hk hr
  by_cases h1 : k < 40
  · rw [if_pos ⟨by omega, by simpa using h1⟩, Nat.div_eq_of_lt h1, Nat.mod_eq_of_lt h1]
    simp [Value.cells]
  · rw [if_neg (by simp; omega), Array.getElem?_eq_none (by simp; omega), Array.getElem?_eq_none (by omega)]
theorem yieldsIf_load_val {ops : Array Oper} {S : World → Prop} {op : Oper} {a : Act} (hw : Region.wanted op (yielded ops a.tmps) = true) (x : Operand) (ho : op.op = .load 61 x) (g : Nat) (cs : Array Value)
    (hx : a.eval x = .pointer (some ⟨g, 0, none⟩)) (hS : ∀ w, S w → w.heap[g]? = some (.cells cs 61 (0, 0))) (hi : (Tryd.prog.info? 61).map (·.size) = some cs.size) : YieldsIf Tryd.prog ops S op (.agg cs) a :=
  .inl ⟨hw, fun w hw' => by
    unfold execOp
    simp only [ho, hx, Instr.loadAt, Instr.sureAddr, Sem.run_bind, Sem.run_pure, Result.andThen_ok, run_loadVar_row w g _ _ cs (0, 0) _ (hS w hw') Tryd.underlying61 rfl hi]⟩
end Go.Proofs.YtnlkkfcjonchgaaDoor.Df
