/- Arrays of 40 bools: as values, as keys of a map, as elements of a row. Package dfa's Explore at arrays of bools. -/
import Derived.Test.YtciopfiddfmckaaDoorExpl
import Derived.Deep.MidRow
import Derived.Deep.WholeRow
import Derived.Great.BuildSlice

namespace Go.Proofs.YtciopfiddfmckaaDoor.Df
open Go.RowKit Go.IntWalk Go.Proofs.YtciopfiddfmckaaDoor.Wd Go.Proofs.YtciopfiddfmckaaDoor.Wo Go.Proofs.YtciopfiddfmckaaDoor.Mp
open Go.Maps (Keyed)
open Go.WideMaps (ArrKey)

/-! ### one array -/
def bv (l : List Bool) : List Value := l.map Value.bool
theorem bv_length (l : List Bool) : (bv l).length = l.length := by simp [bv]
theorem bv_inj {x y : List Bool} (h : bv x = bv y) : x = y := (List.map_inj_right (fun a b e => by simpa using e)).1 h
theorem bv_cell (l : List Bool) : ∀ v ∈ bv l, v.oneCell' = true := fun v hv => by
  obtain ⟨b, _, rfl⟩ := List.mem_map.1 hv
  rfl
theorem bv_one (l : List Bool) : (bv l).toArray.all (·.oneCell') = true := all_oneCell_toArray (bv_cell l)
abbrev KV (l : List Bool) : Value := .agg (bv l).toArray
theorem KV_inj : ∀ x y : List Bool, KV x = KV y → x = y := fun x y h => by
  simp only [Value.agg.injEq] at h
  exact bv_inj (by simpa using congrArg Array.toList h)
theorem arrV : ArrKey Tryd.prog 81 4 40 := ⟨Tryd.underlying81, by kernel_rfl, by kernel_rfl, by kernel_rfl⟩
theorem keyedV : Keyed Tryd.prog 81 := Keyed.of_law arrV.law
theorem KV_key (l : List Bool) (hl : l.length = 40) : ∃ kl, keyOf Tryd.prog 81 (KV l) = some kl := by
  have h1 := arrV.keyType types_pos
  have hf : (KV l).formed Tryd.prog 81 = true := by simp [Value.formed, arrV.hu, arrV.size, bv_length, hl]
  obtain ⟨m, hm⟩ := types_pos
  have hc : (KV l).cells.toList = bv l := by simp [Value.cells]
  have hk : ∃ ls, Tryd.prog.keyLits (Tryd.prog.types.size + 1) 81 (bv l) = some ls := by
    rw [hm]
    unfold Program.keyLits
    rw [arrV.hu]
    simp only
    rw [if_pos (by simp [bv_length, hl, arrV.size])]
    obtain ⟨ys, hys⟩ := mapM_all (f := fun i => Tryd.prog.keyLits (m + 1) 4 (((bv l).drop (i * Tryd.prog.cellsOf 4)).take (Tryd.prog.cellsOf 4))) (List.range 40) (fun i hi => by
      have hi' := List.mem_range.1 hi
      rw [arrV.one, Nat.mul_one]
      have hd : ((bv l).drop i).take 1 = [.bool (l[i]'(by omega))] := by
        rw [List.drop_eq_getElem_cons (by rw [bv_length]; omega)]; simp [bv]
      rw [hd]
      unfold Program.keyLits
      rw [Tryd.underlying4]
      exact ⟨_, rfl⟩)
    exact ⟨ys.flatten, by rw [hys]; rfl⟩
  obtain ⟨ls, hls⟩ := hk
  unfold keyOf
  rw [arrV.hu]
  simp only
  rw [h1, hf, hc, hls]
  exact ⟨_, rfl⟩
theorem sizeV : (Tryd.prog.info? 81).map (·.size) = some 40 := by kernel_rfl
theorem zeroV : (Tryd.prog.info? 81).map (fun i => (i.zero, i.size, i.bytes)) = some (some (.agg (bv (List.replicate 40 false)).toArray), 40, 40) := by kernel_rfl

/-! ### rows of arrays -/
def vcells (l : List (List Bool)) : List Value := l.flatMap bv
theorem vcells_append (l m : List (List Bool)) : vcells (l ++ m) = vcells l ++ vcells m := List.flatMap_append
theorem vcells_get : ∀ (l : List (List Bool)) (k j : Nat) (p : List Bool) (u : Value), (∀ m ∈ l, m.length = 40) → l[k]? = some p → (bv p)[j]? = some u → (vcells l)[k * 40 + j]? = some u
  | [], k, _, _, _, _, h, _ => by simp at h
  | q :: l, 0, j, p, u, h40, h, hj => by
    simp only [List.getElem?_cons_zero, Option.some.injEq] at h
    subst h
    have e : vcells (q :: l) = bv q ++ vcells l := rfl
    have hlt := (List.getElem?_eq_some_iff.1 hj).1
    rw [e, Nat.zero_mul, Nat.zero_add, List.getElem?_append_left hlt]; exact hj
  | q :: l, k + 1, j, p, u, h40, h, hj => by
    rw [List.getElem?_cons_succ] at h
    have e : vcells (q :: l) = bv q ++ vcells l := rfl
    have hq := h40 q List.mem_cons_self
    rw [e, List.getElem?_append_right (by rw [bv_length]; omega), bv_length, hq, show (k + 1) * 40 + j - 40 = k * 40 + j by omega]
    exact vcells_get l k j p u (fun m hm => h40 m (List.mem_cons_of_mem _ hm)) h hj
def eVals (v : Value) (l : List (List Bool)) : Ent := ⟨81, 40, v, l.length, vcells l⟩
theorem own_vals {w0 w : World} {es fs : List Ent} (h : Own w0 w es fs) {v : Value} {l : List (List Bool)} (he : eVals v l ∈ es ++ fs) :
    ∃ A cap, v = .slice A l.length cap ∧ l.length ≤ cap ∧ cap ≤ 9223372036854775807 := by
  obtain ⟨A, cap, hv, h1, h2, _⟩ := h.form he
  simp only [eVals] at hv h1
  subst hv
  unfold maxLen at h2
  exact ⟨A, cap, rfl, h1, h2⟩
theorem own_val_at {w0 w : World} {es fs : List Ent} (h : Own w0 w es fs) {v : Value} {l : List (List Bool)} (he : eVals v l ∈ es ++ fs) (h40 : ∀ m ∈ l, m.length = 40) {k : Nat} {p : List Bool} (hk : l[k]? = some p) :
    ∃ g cap, v = .slice (some ⟨g, 0, none⟩) l.length cap ∧ l.length ≤ cap ∧ cap ≤ 9223372036854775807 ∧ w.rangeAt g (k * 40) (bv p) := by
  have h1 := h.at_ he
  have hlt := (List.getElem?_eq_some_iff.1 hk).1
  rcases h1.2 with ⟨_, e⟩ | ⟨g, cap, cur, e, _, _, h3, h4, _⟩
  · simp only [eVals] at e; omega
  · simp only [eVals] at e h3
    subst e
    unfold maxLen at h4
    refine ⟨g, cap, rfl, h3, h4, fun j u hj => ?_⟩
    exact (h.cell (t := 81) (sz := 40) (n := l.length) (cap := cap) (g := g) (xs := vcells l) he (vcells_get l k j p u h40 hk hj)).1
/-- 'append(l, p)' of one array. -/
theorem own_val_g {w0 w : World} {ops : Array Oper} {rest : List Oper} {o : Oper} {a : Act} {Q : Exit → Act → World → Prop} (hgd : o.guard = none) (s x : Operand)
    (ho : o.op = .call { callee := .builtin .append, args := #[s, x], argTypes := #[103, 103] })
    {v : Value} {l : List (List Bool)} {es fs : List Ent} (hs : a.eval s = v) (h : Own w0 w (eVals v l :: es) fs) {b : Nat} {ob : Obj} (hb : IsMap w b ob) {p : List Bool} (hp : p.length = 40) {cs : Array Value} (hcs : cs = (bv p).toArray) {t' : TypeId} (hx : a.eval x = .slice (some ⟨w.heap.size, 0, none⟩) 1 1) (hl : l.length < 1099511627776)
    (hK : ∀ g cap w', Own w0 w' (eVals (.slice (some ⟨g, 0, none⟩) (l.length + 1) cap) (l ++ [p]) :: es) fs → IsMap w' b ob → wpList Tryd.prog ops Q rest (a.put o.dst (.slice (some ⟨g, 0, none⟩) (l.length + 1) cap)) w') :
    wpList Tryd.prog ops Q (o :: rest) a (w.alloc (.cells cs t')) := by
  refine wpList_plain hgd fun _ hK' => ?_
  subst hcs
  refine wp_own_append_lit_g s x _ ho Tryd.underlying103 zeroV rfl (by decide) hs h hb hx (by simp [bv_length, hp]) (fun u hu => bv_cell p u (by simpa using hu)) (by omega) (by unfold maxLen; omega) (by omega) ?_
  intro g cap w' ho hm
  refine hK' _ _ (hK g cap w' ?_ hm)
  unfold eVals
  rw [vcells_append]
  simpa [vcells] using ho
/-! ### an array in a block of its own -/
def eVal (g : Nat) (l : List Bool) : Ent := ⟨81, 40, .slice (some ⟨g, 0, none⟩) 1 1, 1, bv l⟩
theorem own_val_lit {w0 w : World} {es fs : List Ent} (h : Own w0 w es fs) {l : List Bool} (hl : l.length = 40) {cs : Array Value} (hcs : cs = (bv l).toArray) : Own w0 (w.alloc (.cells cs 81)) (eVal w.heap.size l :: es) fs := by
  subst hcs
  exact h.lit 81 40 1 (bv l).toArray (by simp [bv_length, hl]) (by simp [maxLen])
theorem val_block {w0 w : World} {es fs : List Ent} (h : Own w0 w es fs) {g : Nat} {l : List Bool} (he : eVal g l ∈ es ++ fs) {cs : Array Value} (hcs : cs = (bv l).toArray) : w.heap[g]? = some (.cells cs 81 (0, 0)) := by
  subst hcs
  exact (row_block h he).1
/-- A whole array goes into the block that was made last. -/
theorem wpList_store_fresh {w : World} {ops : Array Oper} {rest : List Oper} {o : Oper} {a : Act} {Q : Exit → Act → World → Prop} (hgd : o.guard = none) (ty : TypeId) (x y : Operand) (ho : o.op = .store ty x y)
    (cs : Array Value) (hx : a.eval x = .pointer (some ⟨w.heap.size, 0, none⟩)) (hy : a.eval y = .agg cs) (t : TypeId) (old : Array Value) (hi : (Tryd.prog.info? ty).map (·.size) = some cs.size) (hold : old.size = cs.size) (h1 : cs.all (·.oneCell') = true)
    (h : wpList Tryd.prog ops Q rest (a.put o.dst undef) (w.alloc (.cells cs t))) : wpList Tryd.prog ops Q (o :: rest) a (w.alloc (.cells old t)) := by
  refine wpList_store_row hgd ty x y ho w.heap.size cs hx hy t old (heap_alloc_new w _) hi hold h1 ?_
  rw [World.setRow_alloc_new]
  exact h
/-- '[]values{v}'. -/
theorem wpList_build_val {w : World} {ops : Array Oper} {rest : List Oper} {o : Oper} {a : Act} {Q : Exit → Act → World → Prop} (hgd : o.guard = none) (x : Operand) (ho : o.op = .buildSlice 103 1 #[(0, x)])
    (cs : Array Value) (hx : a.eval x = .agg cs) (h40 : cs.size = 40)
    (h : wpList Tryd.prog ops Q rest (a.put o.dst (.slice (some ⟨w.heap.size, 0, none⟩) 1 1)) (w.alloc (.cells cs 81))) : wpList Tryd.prog ops Q (o :: rest) a w := by
  obtain ⟨i0, hi, hz0, hz1, hz2⟩ := info_parts zeroV
  refine wpList_buildSlice hgd 103 81 1 _ ho cs i0 _ Tryd.underlying103 hi hz0 (by rw [hz1]; omega) (by rw [hz1]; omega) ?_ h
  have hp : (((#[(0, x)] : Array (Nat × Operand)).map fun (i, y) => (i, a.eval y)).toList) = ([Value.agg cs].zipIdx 0).map fun y => (y.2, y.1) := by simp [hx]
  rw [hp, hz1]
  obtain ⟨r, hr, hs, hk⟩ := Great.fill_dense (s := 40) (by omega) [Value.agg cs] 0 ((Array.range (1 * 40)).map ((Value.agg (bv (List.replicate 40 false)).toArray).cells[· % (Value.agg (bv (List.replicate 40 false)).toArray).cells.size]!)) (fun v hv => by simp at hv; subst hv; exact h40) (by simp)
  rw [hr]
  refine congrArg some (Array.ext_getElem? fun k => ?_)
  rw [hk k]
  clear hp hk hr
  by_cases h1 : k < 40
  · rw [if_pos ⟨by omega, by simpa using h1⟩, Nat.div_eq_of_lt h1, Nat.mod_eq_of_lt h1]
    simp [Value.cells]
  · rw [if_neg (by simp; omega), Array.getElem?_eq_none (by simp; omega), Array.getElem?_eq_none (by omega)]
theorem yieldsIf_load_val {ops : Array Oper} {S : World → Prop} {op : Oper} {a : Act} (hw : Region.wanted op (yielded ops a.tmps) = true) (x : Operand) (ho : op.op = .load 81 x) (g : Nat) (cs : Array Value)
    (hx : a.eval x = .pointer (some ⟨g, 0, none⟩)) (hS : ∀ w, S w → w.heap[g]? = some (.cells cs 81 (0, 0))) (hi : (Tryd.prog.info? 81).map (·.size) = some cs.size) : YieldsIf Tryd.prog ops S op (.agg cs) a :=
  .inl ⟨hw, fun w hw' => by
    unfold execOp
    simp only [ho, hx, Instr.loadAt, Instr.sureAddr, Sem.run_bind, Sem.run_pure, Result.andThen_ok, run_loadVar_row w g _ _ cs (0, 0) _ (hS w hw') Tryd.underlying81 rfl hi]⟩
end Go.Proofs.YtciopfiddfmckaaDoor.Df

namespace Go.Proofs.YtciopfiddfmckaaDoor.Df
open Go.RowKit Go.IntWalk Go.Proofs.YtciopfiddfmckaaDoor.Wd Go.Proofs.YtciopfiddfmckaaDoor.Wo Go.Proofs.YtciopfiddfmckaaDoor.Mp
open Go.Maps (Keyed)

set_option linter.unusedSimpArgs false in
set_option maxRecDepth 100000 in
set_option maxHeartbeats 4000000 in
theorem explV_any (fn ff : Nat) (hcn : ∀ args W, (callFunc fn args).run Tryd.prog W = .ok (.enter fn args) W) (hcf : ∀ args W, (callFunc ff args).run Tryd.prog W = .ok (.enter ff args) W) (q1 r1 : Value) (S : List Bool → List (List Bool)) (x0 : List Bool) (fin : List Bool → Bool) (n : Nat) (w : World) (h1 : 1 ≤ n) (h6 : n ≤ 6) (hS : ∀ x, (S x).length = n) (hlim : ∀ x, Rch S x0 x → x.length = 40)
    (HN : ∀ x, Rch S x0 x → ∀ c t, (S x)[c]? = some t → ∀ W, Below w.heap.size w W → Calls Tryd.prog fn #[KV x, .int .i64 ((c : Nat) : Int), q1] W fun e w' => e = .returned (KV t) ∧ Below W.heap.size W w')
    (HF : ∀ x, Rch S x0 x → ∀ W, Below w.heap.size w W → Calls Tryd.prog ff #[KV x, r1] W fun e w' => e = .returned (.bool (fin x)) ∧ Below W.heap.size W w') :
    Calls Tryd.prog 49 #[.int .i64 (n : Int), KV x0, .func (.func fn) #[] #[q1], .func (.func ff) #[] #[r1]] w fun e w' => Hid (∃ x, e = .returned (.tuple #[x, errV (explOut (n : Int) S x0 fin).2]) ∧ DfaOwn w w' x (explOut (n : Int) S x0 fin).1) := by
  have HN := Lib.hid HN
  have HF := Lib.hid HF
  have HLim := Lib.hid hlim
  have HSn := Lib.hid hS
  have hmm := @run_makeMap Tryd.prog
  obtain ⟨c0, hc0⟩ : ∃ c : Array Value, c = (bv x0).toArray := ⟨_, rfl⟩
  have Hc0 := Lib.hid hc0
  have Hic0 : Hid ((Tryd.prog.info? 81).map (·.size) = some c0.size) := by rw [Hid, hc0, sizeV]; simp [bv_length, hlim x0 .base]
  have Hoc0 : Hid (c0.all (·.oneCell') = true) := by rw [Hid, hc0]; exact bv_one _
  have Hsc0 : Hid (c0.size = 40) := by rw [Hid, hc0]; simp [bv_length, hlim x0 .base]
  have Hzc0 : Hid ((#[.bool false, .bool false, .bool false, .bool false, .bool false, .bool false, .bool false, .bool false, .bool false, .bool false, .bool false, .bool false, .bool false, .bool false, .bool false, .bool false, .bool false, .bool false, .bool false, .bool false, .bool false, .bool false, .bool false, .bool false, .bool false, .bool false, .bool false, .bool false, .bool false, .bool false, .bool false, .bool false, .bool false, .bool false, .bool false, .bool false, .bool false, .bool false, .bool false, .bool false] : Array Value).size = c0.size) := by rw [Hid, Hsc0.out]; rfl
  obtain ⟨kl0, hkl0⟩ := KV_key x0 (hlim x0 .base)
  unfold KV at hkl0
  rw [← hc0] at hkl0
  have hkv : KV x0 = .agg c0 := by rw [hc0]
  rw [hkv]
  clear hc0
  obtain ⟨wb, hwb⟩ : ∃ wb, wb = w.alloc (.cells c0 81) := ⟨_, rfl⟩
  have hb0 : Below w.heap.size w wb := by rw [hwb]; exact below_alloc _ _
  have hsb : wb.heap.size = w.heap.size + 1 := by rw [hwb]; simp
  have hx0 : wb.heap[w.heap.size]? = some (.cells c0 81 (0, 0)) := by rw [hwb]; exact heap_alloc_new w _
  have HB0 := Lib.hid hb0
  obtain ⟨wz, hwz⟩ : ∃ wz, wz = wb.alloc (.cells #[.int .i64 0, .int .i64 0, .slice none 0 0, .slice none 0 0] 25) := ⟨_, rfl⟩
  have hO1 : Own wb wz [eDfa wb.heap.size zero4] [] := by rw [hwz]; exact (own_start wb).dfa _ _ _ _
  have hsz : wz.heap.size = wb.heap.size + 1 := by rw [hwz]; simp
  have HAl := Lib.hid (alpha_any (n : Int) wz true (decide_eq_true ⟨by omega, by omega⟩).symm)
  have HBx : Hid (∀ W, Below wz.heap.size wz W → W.heap[w.heap.size]? = some (.cells c0 81 (0, 0))) := fun W hW => by
    have hlt : w.heap.size < wb.heap.size := by omega
    rw [hW.block _ (by omega), hwz, (below_alloc wb _).block _ hlt]; exact hx0
  have HWz : Hid (wz = (w.alloc (.cells c0 81)).alloc (.cells #[.int .i64 0, .int .i64 0, .slice none 0 0, .slice none 0 0] 25)) := by rw [Hid, ← hwb]; exact hwz
  have HSz : Hid (wb.heap.size = w.heap.size + 1) := hsb
  have HSZ := Lib.hid hsz
  clear hx0 hwz hwb hsz hsb hb0
  go_enter Tryd.func49, Tryd.ntmps49
  go_wp2_with fail
  rw [← HWz.out]
  clear HWz
  refine HAl.out.mono ?_
  rintro e wa ⟨rfl, hwa⟩
  rw [hwa]
  clear hwa HAl wa
  rw [← HSz.out]
  have hO3 := own_val_lit (hO1.dfa (.int .i64 (n : Int)) (.int .i64 0) (.slice none 0 0) (.slice none 0 0)) (hlim x0 .base) Hc0.out
  rw [show (wz.alloc (.cells #[.int .i64 (n : Int), .int .i64 0, .slice none 0 0, .slice none 0 0] 25)).heap.size = wz.heap.size + 1 by simp] at hO3
  have hs3 : ((wz.alloc (.cells #[.int .i64 (n : Int), .int .i64 0, .slice none 0 0, .slice none 0 0] 25)).alloc (.cells c0 81)).heap.size = wz.heap.size + 1 + 1 := by simp
  have hkl9 : keyOf Tryd.prog 81 (KV x0) = some kl0 := by rw [show KV x0 = .agg c0 by rw [Hc0.out]]; exact hkl0
  obtain ⟨w4, hrun, ht4, hm4⟩ := (map_made ((wz.alloc (.cells #[.int .i64 (n : Int), .int .i64 0, .slice none 0 0, .slice none 0 0] 25)).alloc (.cells c0 81)) Tryd.prog 81 3 KV (Lit.int .i64)).store keyedV Tryd.underlying104 elem_int (by omega) hkl9 KV_inj (x := (0 : Int)) (by decide)
  have hO4 := own_put (hO3.alloc (.map #[] 0)) (by rw [hs3]; have := HSZ.out; omega) (map_made ((wz.alloc (.cells #[.int .i64 (n : Int), .int .i64 0, .slice none 0 0, .slice none 0 0] 25)).alloc (.cells c0 81)) Tryd.prog 81 3 KV (Lit.int .i64)) ht4
  rw [xf_one] at hm4
  rw [hs3] at hm4 hrun
  rw [show KV x0 = .agg c0 by rw [Hc0.out]] at hrun
  have HS0 : Hid (EOut 81 KV eVals S x0 fin n wb w4 wz.heap.size wb.heap.size (wz.heap.size + 1 + 1) 0 (.slice (some ⟨wz.heap.size + 1, 0, none⟩) 1 1)) :=
    ⟨[x0], .slice none 0 0, .slice none 0 0, [], part_zero S x0, ⟨rfl, by
      have h9 : eVal (wz.heap.size + 1) x0 = eVals (.slice (some ⟨wz.heap.size + 1, 0, none⟩) 1 1) [x0] := by unfold eVal eVals vcells; simp
      rw [h9] at hO4
      exact ((hO4.re [1, 2, 0] 3 rfl (by decide)).nil 4 1).nil 38 1⟩, by have := HSZ.out; omega, hm4⟩
  have hx2 := HBx.out (wz.alloc (.cells #[.int .i64 (n : Int), .int .i64 0, .slice none 0 0, .slice none 0 0] 25)) (below_alloc _ _)
  have hx4 := HBx.out (((wz.alloc (.cells #[.int .i64 (n : Int), .int .i64 0, .slice none 0 0, .slice none 0 0] 25)).alloc (.cells c0 81)).alloc (.map #[] 0)) ((((Below.refl _ _).alloc (Nat.le_refl _) _).alloc (by simp) _).alloc (by simp; omega) _)
  have HX2 := Lib.hid hx2
  have HX4 := Lib.hid hx4
  clear hO1 hO3 hO4 hm4 ht4 hkl0 hkl9 hs3 hx2 hx4 HBx
  go_wp2_with (first | (refine wpList_load_row (by rfl) 81 _ (by rfl) w.heap.size (by rfl) 81 c0 (0, 0) _ HX2.out Tryd.underlying81 (by rfl) Hic0.out ?_; simp only [Act.put, List.setIfInBounds_toArray, List.set_cons_zero, List.set_cons_succ]) | (refine wpList_load_row (by rfl) 81 _ (by rfl) w.heap.size (by rfl) 81 c0 (0, 0) _ HX4.out Tryd.underlying81 (by rfl) Hic0.out ?_; simp only [Act.put, List.setIfInBounds_toArray, List.set_cons_zero, List.set_cons_succ]) | (refine wpList_build_val (by rfl) _ (by rfl) c0 (by rfl) Hsc0.out ?_))
  clear hrun hmm
  generalize wz.heap.size + 1 + 1 = gm at *
  generalize wz.heap.size = g at *
  obtain ⟨gr, hgr⟩ : ∃ gr, gr = wb.heap.size := ⟨_, rfl⟩
  have HGr := Lib.hid hgr
  rw [← hgr]
  rw [← hgr] at HS0
  clear hgr HSZ HX2 HX4 Hic0 Hoc0 Hsc0 Hzc0 Hc0
  go_loopw [11, 13] (fun pv i wr => ∃ (k : Nat), k ≤ 40 ∧ i = .int .i64 k ∧ Hid (EOut 81 KV eVals S x0 fin n wb wr g gr gm k pv)) (fun _ i _ => 41 - (intOf i).toNat)
  case atStart => exact ⟨0, by omega, rfl, HS0⟩
  case round =>
    clear HS0
    obtain ⟨k, hk, rfl, HS⟩ := hrel
    obtain ⟨l, nv, fv, rs, hpart, hbd, hge, hmap⟩ := HS.out
    have HP := Lib.hid hpart
    have HBd := Lib.hid hbd
    have HM := Lib.hid hmap
    have HGe := Lib.hid hge
    have HL40 : Hid (∀ m ∈ l, m.length = 40) := fun m hm => HLim.out m (hpart.rch m hm)
    obtain ⟨Ap, cp, hpv, hcp, hcp2⟩ := own_vals hbd.2 (v := u11) (l := l) (by simp)
    have h40 := hpart.n40
    have hkl := hpart.le
    clear HS hpart hge hmap
    by_cases hlt : k < l.length
    · as_aux_lemma =>
      obtain ⟨x, hxy⟩ : ∃ q, l[k]? = some q := ⟨_, List.getElem?_eq_getElem hlt⟩
      obtain ⟨gl, cp, hpv, hcp, hcp2, hrange⟩ := own_val_at hbd.2 (v := u11) (l := l) (by simp) HL40.out hxy
      subst hpv
      have HXY := Lib.hid hxy
      have HRx := Lib.hid (HP.out.rch x (List.mem_of_getElem? hxy))
      have hx40 := HL40.out x (List.mem_of_getElem? hxy)
      obtain ⟨HRS, hown⟩ := HBd.out
      have HRS := Lib.hid HRS
      obtain ⟨cx, hcx⟩ : ∃ c : Array Value, c = (bv x).toArray := ⟨_, rfl⟩
      have Hcx := Lib.hid hcx
      have Hicx : Hid ((Tryd.prog.info? 81).map (·.size) = some cx.size) := by rw [Hid, hcx, sizeV]; simp [bv_length, hx40]
      have Hocx : Hid (cx.all (·.oneCell') = true) := by rw [Hid, hcx]; exact bv_one _
      have Hscx : Hid (cx.size = 40) := by rw [Hid, hcx]; simp [bv_length, hx40]
      have Hzcx : Hid ((#[.bool false, .bool false, .bool false, .bool false, .bool false, .bool false, .bool false, .bool false, .bool false, .bool false, .bool false, .bool false, .bool false, .bool false, .bool false, .bool false, .bool false, .bool false, .bool false, .bool false, .bool false, .bool false, .bool false, .bool false, .bool false, .bool false, .bool false, .bool false, .bool false, .bool false, .bool false, .bool false, .bool false, .bool false, .bool false, .bool false, .bool false, .bool false, .bool false, .bool false] : Array Value).size = cx.size) := by rw [Hid, Hscx.out]; rfl
      have HIx : Hid ((Tryd.prog.info? 81).map (·.size) = some (bv x).length) := by rw [Hid, sizeV, bv_length, hx40]
      have hcxl : (bv x).toArray = cx := hcx.symm
      have HRange : Hid (wr.rangeAt gl (k * 40) (bv x)) := hrange
      have HO1 := Lib.hid (own_val_lit hown hx40 hcx)
      have Hx40 := Lib.hid hx40
      clear hown hxy HBd hbd hcx hrange hx40
      go_wp2_with (first | (refine wpList_load_mid (by rfl) 81 _ (by rfl) gl (k * 40) (by rfl) (bv x) _ HRange.out Tryd.underlying81 (by rfl) HIx.out ?_; rw [hcxl]) | (refine wpList_store_fresh (by rfl) 81 _ _ (by rfl) cx (by rfl) (by rfl) 81 _ Hicx.out Hzcx.out Hocx.out ?_) | (at_make; refine mk_ints rfl _ _ rfl n rfl rfl (by omega) ?_))
      intro w4 hn4
      have hO4 := HO1.out.join (Own.of_nums (show Nums (wr.alloc (.cells cx 81)).heap.size _ _ _ _ by simpa using hn4))
      have HR0 : Hid (EIn 81 KV eVals S fin n [eVal wr.heap.size x] wb w4 g gr gm (wr.heap.size + 1) k l x 0 nv fv rs (.slice (some ⟨gl, 0, none⟩) l.length cp)) := by
        unfold Hid EIn
        rw [prow_zero, List.take_zero]
        exact ⟨hO4.re [6, 0, 2, 3, 4, 5, 1] 7 rfl (by decide), HGe.out, (HM.out.alloc _).on (show Below (wr.alloc (.cells cx 81)).heap.size _ _ by simpa using hn4.2.1) (HM.out.alloc _).lt⟩
      clear hO4 hn4 HO1 HM HRange hcxl
      generalize wr.heap.size = gh at *
      obtain ⟨gw, hgw⟩ : ∃ gw, gw = gh + 1 := ⟨_, rfl⟩
      rw [← hgw] at HR0
      rw [← hgw]
      clear hgw
      go_wp2
      go_loopw [11, 46] (fun pv i wi => ∃ (q : Nat), q ≤ n ∧ i = .int .i64 q ∧ Hid (EIn 81 KV eVals S fin n [eVal gh x] wb wi g gr gm gw k l x q nv fv rs pv)) (fun _ i _ => n - (intOf i).toNat)
      case atStart => exact ⟨0, by omega, rfl, HR0⟩
      case round =>
        clear HR0
        obtain ⟨q, hq, rfl, HR⟩ := hrel
        by_cases hqn : q < n
        · as_aux_lemma =>
          obtain ⟨t, hT⟩ : ∃ t, (S x)[q]? = some t := ⟨_, List.getElem?_eq_getElem (by rw [HSn.out]; exact hqn)⟩
          have HT := Lib.hid hT
          have hbi := HB0.out.trans (HR.out.1.below.mono HB0.out.size)
          have HCall := HN.out x HRx.out q t hT wr hbi
          have HRt : Hid (Rch S x0 t) := .next HRx.out (List.mem_of_getElem? hT)
          have ht40 := HLim.out t HRt.out
          obtain ⟨kl, hkl2⟩ := KV_key t ht40
          have HKl := Lib.hid hkl2
          obtain ⟨ct, hct⟩ : ∃ c : Array Value, c = (bv t).toArray := ⟨_, rfl⟩
          have Hct := Lib.hid hct
          have Hict : Hid ((Tryd.prog.info? 81).map (·.size) = some ct.size) := by rw [Hid, hct, sizeV]; simp [bv_length, ht40]
          have Hoct : Hid (ct.all (·.oneCell') = true) := by rw [Hid, hct]; exact bv_one _
          have Hsct : Hid (ct.size = 40) := by rw [Hid, hct]; simp [bv_length, ht40]
          have Hzct : Hid ((#[.bool false, .bool false, .bool false, .bool false, .bool false, .bool false, .bool false, .bool false, .bool false, .bool false, .bool false, .bool false, .bool false, .bool false, .bool false, .bool false, .bool false, .bool false, .bool false, .bool false, .bool false, .bool false, .bool false, .bool false, .bool false, .bool false, .bool false, .bool false, .bool false, .bool false, .bool false, .bool false, .bool false, .bool false, .bool false, .bool false, .bool false, .bool false, .bool false, .bool false] : Array Value).size = ct.size) := by rw [Hid, Hsct.out]; rfl
          rw [show KV x = .agg cx by rw [Hcx.out], show KV t = .agg ct by rw [hct]] at HCall
          have HCall := Lib.hid HCall
          have Ht40 := Lib.hid ht40
          have hlc : (addAll l ((S x).take q)).length ≤ 1048576 := by
            have e1 := addAll_length_le l ((S x).take q)
            rw [List.length_take] at e1
            omega
          have hpl := prow_length (l := l) (HSn.out x) hq
          obtain ⟨old, hold⟩ : ∃ old, (prow S l x n q)[q]? = some old := ⟨_, List.getElem?_eq_getElem (by omega)⟩
          have HPL : Hid ((prow S l x n q).length = n ∧ (prow S l x n q)[q]? = some old) := ⟨hpl, hold⟩
          obtain ⟨ho, _, hm⟩ := HR.out
          obtain ⟨cur, hcur⟩ : ∃ cur, cur = addAll l ((S x).take q) := ⟨_, rfl⟩
          have HCur := Lib.hid hcur
          rw [← hcur] at ho hm hlc
          obtain ⟨A', c', hv', hlc', hcm'⟩ := own_vals ho (v := u11) (l := cur) (by simp)
          subst hv'
          have HO := Lib.hid ho
          have HM := Lib.hid hm
          have HBx := Lib.hid (val_block ho (g := gh) (l := x) (by simp) Hcx.out)
          clear hT hbi hkl2 hpl hold ho hm hcur HR hct ht40
          go_wp2_with (refine wpList_load_row (by rfl) 81 _ (by rfl) gh (by rfl) 81 cx (0, 0) _ HBx.out Tryd.underlying81 (by rfl) Hicx.out ?_; simp only [Act.put, List.setIfInBounds_toArray, List.set_cons_zero, List.set_cons_succ])
          refine HCall.out.mono ?_
          rintro e w5 ⟨rfl, hb⟩
          have HO := Lib.hid (HO.out.on hb)
          have HM := Lib.hid (HM.out.on hb HM.out.lt)
          clear hb HCall HBx
          have HO := Lib.hid (own_val_lit HO.out Ht40.out Hct.out)
          have HM := Lib.hid (HM.out.alloc (.cells ct 81))
          have HBt := Lib.hid (val_block HO.out (g := w5.heap.size) (l := t) (by simp) Hct.out)
          have hKt : KV t = .agg ct := by rw [Hct.out]
          have HKt : Hid (Value.agg ct = KV t) := hKt.symm
          clear hKt
          obtain ⟨hw1, hw2⟩ := own_ints_cell HO.out.tail (List.mem_append_left _ (List.mem_cons_of_mem _ List.mem_cons_self)) HPL.out.1 HPL.out.2
          by_cases hmem : t ∈ cur
          · as_aux_lemma =>
            have HX : Hid (some ((num cur t : Nat) : Int) = xf cur t) := (xf_at hmem).symm
            have HX2 : Hid (((num cur t : Nat) : Int) = (xf cur t).getD 0) := by rw [Hid, xf_at hmem]; rfl
            have HPut := Lib.hid (EIn.put (z := num cur t) (by rw [← HCur.out]; exact addTo_old hmem) HT.out hqn HPL.out.1 HO.out.tail HGe.out HM.out rfl)
            clear hmem HCur HPL HO HRt
            generalize num cur t = z at *
            go_wp2_with (first | (refine wpList_store_fresh (by rfl) 81 _ _ (by rfl) ct (by rfl) (by rfl) 81 _ Hict.out Hzct.out Hoct.out ?_) | (refine wpList_load_row (by rfl) 81 _ (by rfl) w5.heap.size (by rfl) 81 ct (0, 0) _ HBt.out Tryd.underlying81 (by rfl) Hict.out ?_; simp only [Act.put, List.setIfInBounds_toArray, List.set_cons_zero, List.set_cons_succ]) | (at_lookup; refine wp_look_ok HM.out keyedV Tryd.underlying104 elem_int (by rfl) _ _ (by rfl) (by rfl) (a := t) (by exact HKt.out) HKl.out HX.out ?_) | (at_lookup; refine wp_look_is HM.out keyedV Tryd.underlying104 elem_int (by rfl) _ _ (by rfl) (by rfl) (a := t) (by exact HKt.out) HKl.out HX2.out ?_))
            go_roundw
            case rel => exact ⟨q + 1, by omega, by go_num, HPut⟩
            case measure => simp [intOf]; omega
          · as_aux_lemma =>
            have HX : Hid (none = xf cur t) := (xf_no hmem).symm
            have HMem := Lib.hid hmem
            clear hmem hw1 hw2
            go_wp2_with (first | (refine wpList_store_fresh (by rfl) 81 _ _ (by rfl) ct (by rfl) (by rfl) 81 _ Hict.out Hzct.out Hoct.out ?_) | (refine wpList_load_row (by rfl) 81 _ (by rfl) w5.heap.size (by rfl) 81 ct (0, 0) _ HBt.out Tryd.underlying81 (by rfl) Hict.out ?_; simp only [Act.put, List.setIfInBounds_toArray, List.set_cons_zero, List.set_cons_succ]) | (at_lookup; refine wp_look_ok HM.out keyedV Tryd.underlying104 elem_int (by rfl) _ _ (by rfl) (by rfl) (a := t) (by exact HKt.out) HKl.out HX.out ?_) | (at_mapUpdate; refine wp_store HM.out keyedV Tryd.underlying104 elem_int (by omega) KV_inj (by rfl) _ _ _ (by rfl) (by rfl) (a := t) (by exact HKt.out) HKl.out (x := ((cur.length : Nat) : Int)) (by rfl) (wf_of ⟨by omega, by omega⟩) (m' := cur.length + 1) (by rw [← HX.out]; rfl) ?_))
            intro w6 ht6 hm6
            have ho6 := own_put HO.out HGe.out HM.out ht6
            rw [xf_new HMem.out] at hm6
            obtain ⟨ob, hob⟩ := hm6.isMap
            have HO6 := Lib.hid (ho6.re [1, 0, 2, 3, 4, 5, 6, 7] 8 rfl (by decide))
            have HIm := Lib.hid hob
            have HM6 := Lib.hid hm6
            have hlc2 : cur.length < 1099511627776 := by omega
            have HBt := Lib.hid (val_block HO6.out (g := w5.heap.size) (l := t) (by simp) Hct.out)
            clear ht6 ho6 hob hm6 HM HX HO
            go_wp2_with (first | (refine wpList_load_row (by rfl) 81 _ (by rfl) w5.heap.size (by rfl) 81 ct (0, 0) _ HBt.out Tryd.underlying81 (by rfl) Hict.out ?_; simp only [Act.put, List.setIfInBounds_toArray, List.set_cons_zero, List.set_cons_succ]) | (refine wpList_build_val (by rfl) _ (by rfl) ct (by rfl) Hsct.out ?_) | (at_builtin; refine own_val_g (by rfl) _ _ (by rfl) (by rfl) HO6.out HIm.out Ht40.out Hct.out (by rfl) hlc2 ?_))
            intro g8 cap8 w8 ho8 him8
            have hm8 := map_same HM6.out HIm.out him8
            have HX8 : Hid (((cur.length : Nat) : Int) = (xf (cur ++ [t]) t).getD 0) := by rw [Hid, xf_at (by simp), idx_new HMem.out]; rfl
            have ho9 := (ho8.re [0, 2, 3, 4, 5, 6, 7, 1] 8 rfl (by decide))
            obtain ⟨hw1, hw2⟩ := own_ints_cell ho9 (List.mem_append_left _ (List.mem_cons_of_mem _ List.mem_cons_self)) HPL.out.1 HPL.out.2
            have HBt8 := Lib.hid (val_block ho8 (g := w5.heap.size) (l := t) (by simp) Hct.out)
            have HPut : Hid (EIn 81 KV eVals S fin n [eVal gh x] wb (w8.setCell ⟨gw, q, none⟩ (.int .i64 ((cur.length : Nat) : Int))) g gr gm gw k l x (q + 1) nv fv rs (.slice (some ⟨g8, 0, none⟩) (cur.length + 1) cap8)) := EIn.put (cur := cur ++ [t]) (t := t) (by rw [← HCur.out]; exact addTo_new HMem.out) HT.out hqn HPL.out.1 (by rw [List.map_take]; exact (ho8.re [1, 0, 2, 3, 4, 5, 6, 7] 8 rfl (by decide)).tail) HGe.out (by simpa using hm8) (idx_new HMem.out)
            have HM8 := Lib.hid hm8
            clear HMem HCur HPL ho8 ho9 him8 hm8 HIm HM6 HO6 HRt HBt
            go_wp2_with (first | (refine wpList_load_row (by rfl) 81 _ (by rfl) w5.heap.size (by rfl) 81 ct (0, 0) _ HBt8.out Tryd.underlying81 (by rfl) Hict.out ?_; simp only [Act.put, List.setIfInBounds_toArray, List.set_cons_zero, List.set_cons_succ]) | (at_lookup; refine wp_look_is HM8.out keyedV Tryd.underlying104 elem_int (by rfl) _ _ (by rfl) (by rfl) (a := t) (by exact HKt.out) HKl.out HX8.out ?_))
            go_roundw
            case rel => exact ⟨q + 1, by omega, by go_num, HPut⟩
            case measure => simp [intOf]; omega
        · as_aux_lemma =>
          obtain rfl : q = n := by omega
          obtain ⟨ho, _, hm⟩ := HR.out
          have hS' : (S x).length = q := HSn.out x
          rw [prow_full hS', List.take_of_length_le (by omega)] at ho
          rw [List.take_of_length_le (by omega)] at hm
          have HStep := Lib.hid (HP.out.step HXY.out)
          have HRow := Lib.hid (rows_next HP.out HXY.out)
          have HFlag : Hid (((addAll l (S x)).take (k + 1)).map fin = (l.take k).map fin ++ [fin x]) := flags_next (S := S) fin HXY.out
          clear HR hS' HP
          generalize hrw : (l.take k).map (srow S l) = rws at *
          generalize hbs : (l.take k).map fin = bs at *
          have HLen : Hid ((rs.map (·.1)).length < 1099511627776 ∧ bs.length < 17592186044416) := by
            have h1 := congrArg List.length HRS.out
            rw [← hrw, List.length_map, List.length_map, List.length_take] at h1
            have h2 := congrArg List.length hbs
            rw [List.length_map, List.length_take] at h2
            exact ⟨by rw [List.length_map]; omega, by omega⟩
          clear hrw hbs
          generalize hl' : addAll l (S x) = l' at *
          clear hl'
          obtain ⟨A', c', hv', hlc', hcm'⟩ := own_vals ho (v := u11) (l := l') (by simp)
          subst hv'
          have HO := Lib.hid ho
          have HM := Lib.hid hm
          clear ho hm
          by_cases hfull : 40 < l'.length
          · as_aux_lemma =>
            have hfull' : (40 : Int) < (l'.length : Int) := by omega
            have HNo : Hid (explOut (q : Int) S x0 fin = (zeroA, 4)) := explOut_none (HStep.out.1 hfull)
            have HR2 := Lib.hid (HO.out.pull 5 (by simp))
            obtain ⟨hr0, hf0⟩ := HR2.out.dcell (g := gr) (l := zero4) (j := 0) (by simp) rfl
            obtain ⟨hr1, hf1⟩ := HR2.out.dcell (g := gr) (l := zero4) (j := 1) (by simp) rfl
            obtain ⟨hr2, hf2⟩ := HR2.out.dcell (g := gr) (l := zero4) (j := 2) (by simp) rfl
            obtain ⟨hr3, hf3⟩ := HR2.out.dcell (g := gr) (l := zero4) (j := 3) (by simp) rfl
            have HEnd := Lib.hid (res_bad HR2.out rfl)
            clear HR2 HO HM
            go_wp2
            obtain ⟨k2, k3, k4, k5, k6⟩ := HEnd.out
            refine bodyPost_ret (results_dfa rfl _ rfl k3 k4 k5 k6) rfl ⟨_, by rw [HNo.out]; rfl, by rw [HNo.out]; exact dfaOwn_zero (HB0.out.trans (k2.mono HB0.out.size))⟩
          · as_aux_lemma =>
            have hfull' : ¬ (40 : Int) < (l'.length : Int) := by omega
            have HPn := Lib.hid (HStep.out.2 hfull)
            have HR2 := Lib.hid (HO.out.pull 2 (by simp))
            obtain ⟨ob, hob⟩ := HM.out.isMap
            have HIm := Lib.hid hob
            obtain ⟨hg2, hgf2⟩ := HO.out.dcell (g := g) (l := [.int .i64 (q : Int), .int .i64 0, nv, fv]) (j := 2) (by simp) rfl
            clear HStep HO hob
            go_wp2_with (at_builtin; refine own_row_g (by rfl) _ _ (by rfl) (by rfl) HR2.out HIm.out (by rfl) (by rfl) HLen.out.1 ?_)
            intro g8 cap8 w8 ho8 him8
            have hlr : rs.length = (rs.map (·.1)).length := (List.length_map _).symm
            have HB9 : Hid (Build wb (w8.setCell ⟨g, 2, none⟩ (.slice (some ⟨g8, 0, none⟩) (rs.length + 1) cap8)) g [eDfa gr zero4, eVals (.slice A' l'.length c') l', eVal gh x] (q : Int) 0 (rws ++ [srow S l' x]) bs (.slice (some ⟨g8, 0, none⟩) (rs.length + 1) cap8) fv (rs ++ [(.slice (some ⟨gw, 0, none⟩) q q, srow S l' x)])) :=
              build_row HRS.out (ho8.re [0, 2, 3, 4, 5, 1, 6] 7 rfl (by decide)) rfl
            have HIm9 := Lib.hid (isMap_set (t := 25) (sz := 4) (n := 1) (cap := 1) (g := g) (xs := [.int .i64 (q : Int), .int .i64 0, nv, fv]) him8 ho8 (by simp [eDfa]) 2 (.slice (some ⟨g8, 0, none⟩) (rs.length + 1) cap8))
            obtain ⟨hk8, hf8⟩ := ho8.dcell (g := g) (l := [.int .i64 (q : Int), .int .i64 0, nv, fv]) (j := 2) (by simp) rfl
            rw [← HRow.out] at HB9
            clear ho8 him8 hg2 hgf2 HR2 hlr
            go_wp2_with fail
            generalize hw9 : w8.setCell ⟨g, 2, none⟩ (.slice (some ⟨g8, 0, none⟩) (rs.length + 1) cap8) = w9 at *
            generalize (Value.slice (some ⟨g8, 0, none⟩) (rs.length + 1) cap8) = nv9 at *
            generalize (rs ++ [(Value.slice (some ⟨gw, 0, none⟩) q q, srow S l' x)]) = rs9 at *
            generalize hr9 : (l'.take (k + 1)).map (srow S l') = rws9 at *
            have HR9 := Lib.hid hr9
            clear hr9 hk8 hf8 hw9
            have HK : Hid (∀ W es fs, Own wb W es fs → eDfa g [.int .i64 (q : Int), .int .i64 0, nv9, fv] ∈ es ++ fs ∧ eVal gh x ∈ es ++ fs → W.cell? ⟨g, 3, none⟩ = some fv ∧ W.heap[gh]? = some (.cells cx 81 (0, 0))) := fun W es fs hW hm =>
              ⟨(hW.dcell hm.1 rfl).1, val_block hW hm.2 Hcx.out⟩
            have HO9 := Lib.hid HB9.out.2.two
            have HFc := HF.out x HRx.out w9.drew (HB0.out.trans ((HB9.out.2.on (Below.refl _ _).drew).below.mono HB0.out.size))
            rw [show KV x = .agg cx by rw [Hcx.out]] at HFc
            have HFc := Lib.hid HFc
            refine wp_region_Z ((fun W => W.cell? ⟨g, 3, none⟩ = some fv ∧ W.heap[gh]? = some (.cells cx 81 (0, 0)))) 8 (by kernel_rfl) (HK.out _ _ _ (HB9.out.2.on (by go_grown)) (by simp)) (fun hHeld => ?_)
            refine wpZ_take (i := 0) (v := ?_) rfl (by kernel_rfl) (by kernel_rfl) (by kernel_rfl) (by kernel_rfl) (fun _ _ _ h => h) (Or.inl ⟨by rfl, ?_⟩) hHeld ?_
            rotate_left
            · (go_light; intro w9 hSw; (try dsimp only at hSw); go_simp; try with_reducible rfl)
            try simp only [Act.put, List.setIfInBounds_toArray, List.set_cons_zero, List.set_cons_succ]
            refine wpZ_take (i := 1) (v := ?_) rfl (by kernel_rfl) (by kernel_rfl) (by kernel_rfl) (by kernel_rfl) (fun _ _ _ h => h) (Or.inl ⟨by rfl, ?_⟩) hHeld ?_
            rotate_left
            · (go_light; intro w9 hSw; (try dsimp only at hSw); go_simp; try with_reducible rfl)
            try simp only [Act.put, List.setIfInBounds_toArray, List.set_cons_zero, List.set_cons_succ]
            refine wpZ_take (i := 2) (v := ?_) rfl (by kernel_rfl) (by kernel_rfl) (by kernel_rfl) (by kernel_rfl) (fun _ _ _ h => h) (Or.inl ⟨by rfl, ?_⟩) hHeld ?_
            rotate_left
            · (go_light; intro w9 hSw; (try dsimp only at hSw); go_simp; try with_reducible rfl)
            try simp only [Act.put, List.setIfInBounds_toArray, List.set_cons_zero, List.set_cons_succ]
            refine wpZ_take (i := 3) (v := .agg cx) rfl (by kernel_rfl) (by kernel_rfl) (by kernel_rfl) (by kernel_rfl) (fun _ _ _ h => h) (yieldsIf_load_val (by rfl) (.tmp 14) (by rfl) gh cx (by rfl) (fun _ h => h.2) Hicx.out) hHeld ?_
            try simp only [Act.put, List.setIfInBounds_toArray, List.set_cons_zero, List.set_cons_succ]
            refine wpZ_one (i := 4) rfl (by kernel_rfl) (fun K hK => ?_)
            go_simp
            refine HFc.out.mono ?_
            rintro e w10 ⟨rfl, hb⟩
            have HO10 := Lib.hid ((HO9.out.on (Below.refl _ _).drew).on hb)
            have HIm10 := Lib.hid ((HIm9.out.on (Below.refl _ _).drew).on hb)
            clear hb
            try simp only []
            refine hK.out _ _ (fun _ => HK.out _ _ _ HO10.out (by simp)) (fun hHeld9 => ?_)
            replace hHeld := hHeld9 (by decide)
            clear hHeld9
            clear hK K
            try simp only [Act.put, List.setIfInBounds_toArray, List.set_cons_zero, List.set_cons_succ]
            refine wpZ_one (i := 5) rfl (by kernel_rfl) (fun K hK => ?_)
            go_simp
            refine hK.out _ _ (fun _ => HK.out _ _ _ (HO10.out.alloc _) (by simp)) (fun hHeld9 => ?_)
            replace hHeld := hHeld9 (by decide)
            clear hHeld9
            clear hK K
            try simp only [Act.put, List.setIfInBounds_toArray, List.set_cons_zero, List.set_cons_succ]
            refine wpZ_one (i := 6) rfl (by kernel_rfl) (fun K hK => ?_)
            refine step_own_bool_g (by rfl) _ _ (by rfl) (by rfl) HO10.out HIm10.out (by rfl) HLen.out.2 ?_
            intro g11 cap11 w11 ho11 him11
            refine hK.out _ _ (fun _ => HK.out _ _ _ ho11 (by simp)) (fun hHeld9 => ?_)
            replace hHeld := hHeld9 (by decide)
            clear hHeld9
            clear hK K
            try simp only [Act.put, List.setIfInBounds_toArray, List.set_cons_zero, List.set_cons_succ]
            refine wpZ_take (i := 7) (v := ?_) rfl (by kernel_rfl) (by kernel_rfl) (by kernel_rfl) (by kernel_rfl) (fun _ _ _ h => h) (Or.inl ⟨by rfl, ?_⟩) hHeld ?_
            rotate_left
            · (go_light; intro w9 hSw; (try dsimp only at hSw); go_simp; try with_reducible rfl)
            try simp only [Act.put, List.setIfInBounds_toArray, List.set_cons_zero, List.set_cons_succ]
            refine wpZ_one (i := 8) rfl (by kernel_rfl) (fun K hK => ?_)
            have hk4 := (ho11.dcell (g := g) (l := [.int .i64 (q : Int), .int .i64 0, nv9, fv]) (j := 3) (by simp) rfl).2
            go_simp
            refine hK.out _ _ (fun k => absurd rfl k) (fun _ => ?_)
            clear hK K
            try simp only [Act.put, List.setIfInBounds_toArray, List.set_cons_zero, List.set_cons_succ]
            refine wpZ_done (by kernel_rfl) ?_ _
            have HBf := build_flag HB9.out.1 ho11 rfl
            have him12 := isMap_set (t := 25) (sz := 4) (n := 1) (cap := 1) (g := g) (xs := [.int .i64 (q : Int), .int .i64 0, nv9, fv]) him11 ho11 (by simp [eDfa]) 3 (.slice (some ⟨g11, 0, none⟩) (bs.length + 1) cap11)
            have HN1 : Hid (EOut 81 KV eVals S x0 fin q wb (w11.setCell ⟨g, 3, none⟩ (.slice (some ⟨g11, 0, none⟩) (bs.length + 1) cap11)) g gr gm (k + 1) (.slice A' l'.length c')) := by
              refine ⟨l', nv9, .slice (some ⟨g11, 0, none⟩) (bs.length + 1) cap11, rs9, HPn.out, ?_, HGe.out, map_same HM.out HIm.out him12⟩
              rw [HFlag.out, HR9.out]
              exact ⟨HBf.1, (HBf.2.re [5, 0, 1, 2, 3, 4] 6 rfl (by decide)).tail⟩
            clear HBf ho11 him11 him12 HB9 HO9 HO10 HIm10 HIm9 HIm HM HK hk4 hHeld HFc
            go_wp2
            go_roundw
            case rel => exact ⟨k + 1, by omega, by go_num, HN1⟩
            case measure => simp [intOf]; omega
    · as_aux_lemma =>
      subst hpv
      obtain rfl : k = l.length := by omega
      have HNo : Hid (explOut (n : Int) S x0 fin = (⟨(n : Int), 0, l.map (srow S l), l.map fin⟩, 0)) := explOut_some (HP.out.stop (Nat.le_refl _))
      rw [List.take_length] at HBd
      have HSm := Lib.hid (srow_small S l (by omega))
      clear HP HM hbd
      generalize l.map (srow S l) = rows at *
      generalize l.map fin = bs at *
      obtain ⟨A2, c2, F2, cf2, e1, e2⟩ := HBd.out.form
      obtain ⟨hg0, hg1, hg2, hg3⟩ := HBd.out.str
      obtain ⟨hr0, hf0⟩ := HBd.out.res (j := 0) (by omega)
      obtain ⟨hr1, hf1⟩ := HBd.out.res (j := 1) (by omega)
      obtain ⟨hr2, hf2⟩ := HBd.out.res (j := 2) (by omega)
      obtain ⟨hr3, hf3⟩ := HBd.out.res (j := 3) (by omega)
      subst e1 e2
      have HEnd := Lib.hid (build_end HBd.out HSm.out ⟨by omega, by omega⟩ ⟨by omega, by omega⟩ rfl)
      generalize rows.length = nr at *
      generalize bs.length = nb at *
      go_wp2
      obtain ⟨k1, k3, k4, k5, k6⟩ := HEnd.out
      refine bodyPost_ret (results_dfa rfl _ rfl k3 k4 k5 k6) rfl ⟨_, by rw [HNo.out]; rfl, by rw [HNo.out]; exact k1.base HB0.out⟩
end Go.Proofs.YtciopfiddfmckaaDoor.Df
