/- What a call owns beside a map that it writes. Package dfa's Explore at pairs: the states of an automaton, numbered as they are found. -/
import Derived.Test.YtbciefeipiphiaaDoorMaps
import Derived.Test.YtbciefeipiphiaaDoorDfaQ
import Derived.Test.YtbciefeipiphiaaDoorRegL
import Derived.Handy
import Derived.Deep.Light
namespace Go.Proofs.YtbciefeipiphiaaDoor.Mp
open Go.RowKit Go.IntWalk Go.Proofs.YtbciefeipiphiaaDoor.Wd Go.Proofs.YtbciefeipiphiaaDoor.Wo Go.Proofs.YtbciefeipiphiaaDoor.Df
open Go.Maps (Keyed)

/-- Block b holds a map. -/
def IsMap (w : World) (b : Nat) (o : Obj) : Prop := w.heap[b]? = some o ∧ ∃ es clock, o = .map es clock
theorem IsMap.lt {w : World} {b : Nat} {o : Obj} (h : IsMap w b o) : b < w.heap.size := (Array.getElem?_eq_some_iff.1 h.1).1
theorem IsMap.on {w w' : World} {b : Nat} {o : Obj} (h : IsMap w b o) (hb : Below w.heap.size w w') : IsMap w' b o := ⟨(hb.block b h.lt).trans h.1, h.2⟩
theorem MapIs.isMap {P : Program} {k e : TypeId} {α β : Type} {K : α → Value} {L : β → Lit} {w : World} {b n m : Nat} {f : α → Option β} (h : MapIs P k e K L w b n m f) : ∃ o, IsMap w b o := by
  obtain ⟨D, ⟨es, clock, h1, _⟩, _⟩ := h
  exact ⟨_, h1, es, clock, rfl⟩
theorem row_not_map {w : World} {B : Nat} {t : TypeId} {sz n : Nat} {v : Value} {xs : List Value} (h : w.ownsRow B t sz v n xs) {b : Nat} {o : Obj} (hm : IsMap w b o) : v.ownBlock ≠ some b := by
  obtain ⟨h1, es, clock, rfl⟩ := hm
  rcases h.2 with ⟨e, _⟩ | ⟨g, cap, cur, e, _, hh, _⟩
  · subst e; intro k; cases k
  · subst e
    intro k
    obtain rfl : g = b := Option.some.inj k
    rw [h1] at hh
    cases hh
theorem own_not_map {w0 w : World} {es fs : List Ent} (h : Own w0 w es fs) {b : Nat} {o : Obj} (hm : IsMap w b o) : ∀ e ∈ es ++ fs, e.v.ownBlock ≠ some b := fun _ he => row_not_map (h.at_ he) hm
/-- A map that was made behind the rows is written. -/
theorem own_put {P : Program} {k e : TypeId} {α β : Type} {K : α → Value} {L : β → Lit} {n m : Nat} {f : α → Option β} {w0 w w' : World} {es fs : List Ent} {b : Nat} (h : Own w0 w es fs) (hb : w0.heap.size ≤ b) (hm : MapIs P k e K L w b n m f) (ht : w.mapTurned w' b) : Own w0 w' es fs := by
  obtain ⟨o, ho⟩ := hm.isMap
  exact own_beside h hb (own_not_map h ho) ht
theorem isMap_set {w : World} {b : Nat} {o : Obj} (h : IsMap w b o) {w0 : World} {es fs : List Ent} {t : TypeId} {sz n cap g : Nat} {xs : List Value} (ho : Own w0 w es fs) (he : ⟨t, sz, .slice (some ⟨g, 0, none⟩) n cap, n, xs⟩ ∈ es ++ fs) (j : Nat) (u : Value) : IsMap (w.setCell ⟨g, j, none⟩ u) b o := by
  refine ⟨?_, h.2⟩
  have hne : b ≠ g := fun e => by subst e; exact own_not_map ho h _ he rfl
  rw [heap_setCell_other w _ b _ hne]
  exact h.1
/-- 'l = append(l, ..)' onto the first row beside a map, at the operation. -/
theorem wp_own_append_g {w0 w : World} {o : Oper} {a : Act} {K : Act → World → Prop} {Q : Exit → Act → World → Prop} (s x : Operand) (tt : TypeId)
    (ho : o.op = .call { callee := .builtin .append, args := #[s, x], argTypes := #[tt, tt] }) {t : TypeId} {sz bytes : Nat} {z : Value} (ht : Tryd.prog.underlying tt = some (.slice t))
    (hinfo : (Tryd.prog.info? t).map (fun i => (i.zero, i.size, i.bytes)) = some (some z, sz, bytes)) (hzs : z.cells.size = sz) (hsz : 0 < sz)
    {v : Value} {n : Nat} {xs : List Value} {es fs : List Ent} (hs : a.eval s = v) (h : Own w0 w (⟨t, sz, v, n, xs⟩ :: es) fs) {b : Nat} {ob : Obj} (hb : IsMap w b ob)
    {ad : Addr} {m c : Nat} (news : List Value) (hx : a.eval x = .slice (some ad) m c) (hl : news.length = m * sz) (hnews : ∀ j u, news[j]? = some u → w.cell? (ad.add j) = some u) (h1 : ∀ u ∈ news, u.oneCell' = true)
    (hm : 0 < m) (h63 : n + m ≤ maxLen) (hbytes : (n + m) * bytes ≤ 140737488355328)
    (hK : ∀ g cap w', Own w0 w' (⟨t, sz, .slice (some ⟨g, 0, none⟩) (n + m) cap, n + m, xs ++ news⟩ :: es) fs → IsMap w' b ob → K (a.put o.dst (.slice (some ⟨g, 0, none⟩) (n + m) cap)) w') : o.wp Tryd.prog a w K Q := by
  obtain ⟨i0, hi, hz0, hz1, hz2⟩ := info_parts hinfo
  have hh := h.each _ (List.mem_cons_self)
  obtain ⟨a1, a2⟩ := List.pairwise_cons.1 h.apart
  refine wp_append_lies w s x tt ho w0.heap.size t i0 z sz bytes ht hi hz0 hz1 hz2 hzs hsz v n xs hs hh ad m c news hx hl hnews h1 hm h63 hbytes h.below.size _ rfl ?_
  intro g cap w' hown hg hat hlt
  have keep : ∀ e : Ent, far ⟨t, sz, v, n, xs⟩ e → w.ownsRow w0.heap.size e.t e.sz e.v e.n e.xs → w'.ownsRow w0.heap.size e.t e.sz e.v e.n e.xs := fun e hf ho => by
    refine ho.kept hg ?_
    rcases far_symm hf with hf | hf
    · exact .inl hf
    · exact .inr hf
  have apart : ∀ e : Ent, far ⟨t, sz, v, n, xs⟩ e → w.ownsRow w0.heap.size e.t e.sz e.v e.n e.xs → far ⟨t, sz, .slice (some ⟨g, 0, none⟩) (n + m) cap, n + m, xs ++ news⟩ e := fun b hf ho => by
    right
    intro e
    have e' : some g = b.v.ownBlock := e
    rcases hat with hat | hat
    · unfold far at hf
      simp only [hat, ← e'] at hf
      simp at hf
    · have := ho.lt g e'.symm
      omega
  refine hK g cap w' ⟨h.below.grown hg h.below.size (fun k hk => (hh.lt k hk).1), fun e he => ?_, fun e he => ?_, List.pairwise_cons.2 ⟨fun b hb => ?_, a2⟩, fun e he f hf => ?_⟩ ⟨?_, hb.2⟩
  · rcases List.mem_cons.1 he with rfl | he
    · exact hown
    · exact keep e (a1 e he) (h.each e (List.mem_cons_of_mem _ he))
  · exact keep e (h.off _ List.mem_cons_self e he) (h.done e he)
  · exact apart b (a1 b hb) (h.each b (List.mem_cons_of_mem _ hb))
  · rcases List.mem_cons.1 he with rfl | he
    · exact apart f (h.off _ List.mem_cons_self f hf) (h.done f hf)
    · exact h.off e (List.mem_cons_of_mem _ he) f hf
  · rw [hg.block b hb.lt (fun e => row_not_map hh hb e.symm)]; exact hb.1
/-- The same of what was just laid into a block for it. -/
theorem wp_own_append_lit_g {w0 w : World} {o : Oper} {a : Act} {K : Act → World → Prop} {Q : Exit → Act → World → Prop} (s x : Operand) (tt : TypeId)
    (ho : o.op = .call { callee := .builtin .append, args := #[s, x], argTypes := #[tt, tt] }) {t : TypeId} {sz bytes : Nat} {z : Value} (ht : Tryd.prog.underlying tt = some (.slice t))
    (hinfo : (Tryd.prog.info? t).map (fun i => (i.zero, i.size, i.bytes)) = some (some z, sz, bytes)) (hzs : z.cells.size = sz) (hsz : 0 < sz)
    {v : Value} {n : Nat} {xs : List Value} {es fs : List Ent} (hs : a.eval s = v) (h : Own w0 w (⟨t, sz, v, n, xs⟩ :: es) fs) {b : Nat} {ob : Obj} (hb : IsMap w b ob)
    {c m : Nat} {cs : Array Value} {t' : TypeId} (hx : a.eval x = .slice (some ⟨w.heap.size, 0, none⟩) m c) (hl : cs.size = m * sz) (h1 : ∀ u ∈ cs.toList, u.oneCell' = true)
    (hm : 0 < m) (h63 : n + m ≤ maxLen) (hbytes : (n + m) * bytes ≤ 140737488355328)
    (hK : ∀ g cap w', Own w0 w' (⟨t, sz, .slice (some ⟨g, 0, none⟩) (n + m) cap, n + m, xs ++ cs.toList⟩ :: es) fs → IsMap w' b ob → K (a.put o.dst (.slice (some ⟨g, 0, none⟩) (n + m) cap)) w') : o.wp Tryd.prog a (w.alloc (.cells cs t')) K Q :=
  wp_own_append_g s x tt ho ht hinfo hzs hsz hs (h.alloc _) (hb.on (below_alloc _ _)) cs.toList hx (by simpa using hl) (World.news_of_block (heap_alloc_new w _)) h1 hm h63 hbytes hK
/-- 'append(l, row)' of one row of ints. -/
theorem own_row_g {w0 w : World} {ops : Array Oper} {rest : List Oper} {o : Oper} {a : Act} {Q : Exit → Act → World → Prop} (hgd : o.guard = none) (s x : Operand)
    (ho : o.op = .call { callee := .builtin .append, args := #[s, x], argTypes := #[22, 22] })
    {v : Value} {l : List Value} {es fs : List Ent} (hs : a.eval s = v) (h : Own w0 w (eRows v l :: es) fs) {b : Nat} {ob : Obj} (hb : IsMap w b ob) {y : Value} (hy : y.oneCell' = true) {t' : TypeId} (hx : a.eval x = .slice (some ⟨w.heap.size, 0, none⟩) 1 1) (hl : l.length < 1099511627776)
    (hK : ∀ g cap w', Own w0 w' (eRows (.slice (some ⟨g, 0, none⟩) (l.length + 1) cap) (l ++ [y]) :: es) fs → IsMap w' b ob → wpList Tryd.prog ops Q rest (a.put o.dst (.slice (some ⟨g, 0, none⟩) (l.length + 1) cap)) w') : wpList Tryd.prog ops Q (o :: rest) a (w.alloc (.cells #[y] t')) := by
  refine wpList_plain hgd fun _ hK' => ?_
  refine wp_own_append_lit_g s x _ ho Tryd.underlying22 infoRow rfl (by decide) hs h hb hx rfl (fun u hu => by simp at hu; subst hu; exact hy) (by omega) (by unfold maxLen; omega) (by omega) ?_
  intro g cap w' ho hm
  refine hK' _ _ (hK g cap w' ?_ hm)
  unfold eRows
  simpa using ho
theorem step_own_bool_g {w0 w : World} {ops : Array Oper} {o : Oper} {a : Act} {K : Act → World → Prop} {Q : Exit → Act → World → Prop} {E : Prop} (hgd : o.guard = none) (s x : Operand)
    (ho : o.op = .call { callee := .builtin .append, args := #[s, x], argTypes := #[23, 23] })
    {v : Value} {l : List Bool} {es fs : List Ent} (hs : a.eval s = v) (h : Own w0 w (eBools v l :: es) fs) {b : Nat} {ob : Obj} (hb : IsMap w b ob) {y : Bool} {t' : TypeId} (hx : a.eval x = .slice (some ⟨w.heap.size, 0, none⟩) 1 1) (hl : l.length < 17592186044416)
    (hK : ∀ g cap w', Own w0 w' (eBools (.slice (some ⟨g, 0, none⟩) (l.length + 1) cap) (l ++ [y]) :: es) fs → IsMap w' b ob → K (a.put o.dst (.slice (some ⟨g, 0, none⟩) (l.length + 1) cap)) w') : if Region.wanted o (yielded ops a.tmps) = true then Oper.wp Tryd.prog o a (w.alloc (.cells #[.bool y] t')) K Q else E := by
  have hw : Region.wanted o (yielded ops a.tmps) = true := by simp [Region.wanted, hgd]
  rw [if_pos hw]
  refine wp_own_append_lit_g s x _ ho Tryd.underlying23 infoBool rfl (by decide) hs h hb hx rfl (fun u hu => by simp at hu; subst hu; rfl) (by omega) (by unfold maxLen; omega) (by omega) ?_
  intro g cap w' ho hm
  refine hK g cap w' ?_ hm
  unfold eBools
  simpa using ho
/-- 'append(l, p)' of one pair. -/
theorem own_pair_g {w0 w : World} {ops : Array Oper} {rest : List Oper} {o : Oper} {a : Act} {Q : Exit → Act → World → Prop} (hgd : o.guard = none) (s x : Operand)
    (ho : o.op = .call { callee := .builtin .append, args := #[s, x], argTypes := #[127, 127] })
    {v : Value} {l : List (Nat × Nat)} {es fs : List Ent} (hs : a.eval s = v) (h : Own w0 w (ePairs v l :: es) fs) {b : Nat} {ob : Obj} (hb : IsMap w b ob) {p : Nat × Nat} {t' : TypeId} (hx : a.eval x = .slice (some ⟨w.heap.size, 0, none⟩) 1 1) (hl : l.length < 1099511627776)
    (hK : ∀ g cap w', Own w0 w' (ePairs (.slice (some ⟨g, 0, none⟩) (l.length + 1) cap) (l ++ [p]) :: es) fs → IsMap w' b ob → wpList Tryd.prog ops Q rest (a.put o.dst (.slice (some ⟨g, 0, none⟩) (l.length + 1) cap)) w') :
    wpList Tryd.prog ops Q (o :: rest) a (w.alloc (.cells #[.int .i64 ((p.1 : Nat) : Int), .int .i64 ((p.2 : Nat) : Int)] t')) := by
  refine wpList_plain hgd fun _ hK' => ?_
  refine wp_own_append_lit_g s x _ ho Tryd.underlying127 infoPair rfl (by decide) hs h hb hx rfl (fun u hu => by simp at hu; rcases hu with rfl | rfl <;> rfl) (by omega) (by unfold maxLen; omega) (by omega) ?_
  intro g cap w' ho hm
  refine hK' _ _ (hK g cap w' ?_ hm)
  unfold ePairs
  rw [pcells_append]
  simpa [pcells] using ho
end Go.Proofs.YtbciefeipiphiaaDoor.Mp

namespace Go.Proofs.YtbciefeipiphiaaDoor.Df
open Go.RowKit Go.IntWalk Go.Proofs.YtbciefeipiphiaaDoor.Wd Go.Proofs.YtbciefeipiphiaaDoor.Wo Go.Proofs.YtbciefeipiphiaaDoor.Mp
open Go.Maps (Keyed)

theorem srow_small {α : Type} [DecidableEq α] (S : α → List α) (l : List α) (h : l.length ≤ 40) : ∀ r ∈ l.map (srow S l), ∀ x ∈ r, Small x := by
  intro r hr x hx
  obtain ⟨y, _, rfl⟩ := List.mem_map.1 hr
  obtain ⟨t, _, rfl⟩ := List.mem_map.1 hx
  have : num l t ≤ l.length := List.idxOf_le_length
  exact ⟨by omega, by omega⟩
theorem map_same {P : Program} {k e : TypeId} {α β : Type} {K : α → Value} {L : β → Lit} {w w' : World} {b n m : Nat} {f : α → Option β} {o : Obj} (h : MapIs P k e K L w b n m f) (h1 : IsMap w b o) (h2 : IsMap w' b o) : MapIs P k e K L w' b n m f := h.of_block (h2.1.trans h1.1.symm)
/-- What the map holds: the numbers of what is found. -/
def xf {α : Type} [DecidableEq α] (l : List α) (y : α) : Option Int := if y ∈ l then some ((num l y : Nat) : Int) else none
theorem xf_at {α : Type} [DecidableEq α] {l : List α} {t : α} (h : t ∈ l) : xf l t = some ((num l t : Nat) : Int) := if_pos h
theorem xf_no {α : Type} [DecidableEq α] {l : List α} {t : α} (h : t ∉ l) : xf l t = none := if_neg h
theorem xf_new {α : Type} [DecidableEq α] {l : List α} {t : α} (h : t ∉ l) : (fun y => if y = t then some ((l.length : Nat) : Int) else xf l y) = xf (l ++ [t]) := by
  funext y
  unfold xf
  by_cases e : y = t
  · subst e
    rw [if_pos rfl, if_pos (by simp), idx_new h]
  · rw [if_neg e]
    by_cases hy : y ∈ l
    · rw [if_pos hy, if_pos (List.mem_append_left _ hy), idx_append hy]
    · rw [if_neg hy, if_neg (fun q => (List.mem_append.1 q).elim hy (fun q => e (List.mem_singleton.1 q)))]
theorem xf_one {α : Type} [DecidableEq α] (t : α) : (fun y => if y = t then some (0 : Int) else (fun _ => none) y) = xf [t] := by
  have h := xf_new (l := []) (t := t) (by simp)
  have e : xf ([] : List α) = fun _ => none := by funext y; unfold xf; simp
  rw [e] at h
  exact h

/-! ### sets and pairs -/
def SetsAt (w : World) (B : Nat) (A : Option Addr) (l : List Nat) : Prop := Cells w B A (l.map fun x => .int .u64 ((x : Nat) : Int))
theorem SetsAt.at_ {w : World} {B : Nat} {A : Option Addr} {l : List Nat} (h : SetsAt w B A l) {k : Nat} {p : Nat} (hk : l[k]? = some p) : ∃ ad, A = some ad ∧ ad.block < B ∧ w.cell? (ad.add k) = some (.int .u64 ((p : Nat) : Int)) := h k _ (by rw [List.getElem?_map, hk]; rfl)
abbrev KP (p : Nat × Nat) : Value := .agg #[.int .i64 ((p.1 : Nat) : Int), .int .i64 ((p.2 : Nat) : Int)]
theorem KP_inj : ∀ x y : Nat × Nat, KP x = KP y → x = y := fun x y h => by
  simp at h
  exact Prod.ext (by omega) (by omega)
theorem keyedP : Keyed Tryd.prog 95 := Keyed.of_law (Go.deep_law (m := 2) (by omega) (by kernel_rfl) (by kernel_rfl) (by kernel_rfl))
set_option maxRecDepth 100000 in
theorem KP_key (p : Nat × Nat) (h : p.1 < 1099511627776 ∧ p.2 < 1099511627776) : ∃ kl, keyOf Tryd.prog 95 (KP p) = some kl := by
  unfold keyOf
  rw [Tryd.underlying95]
  simp only
  rw [show Tryd.prog.keyType 95 = true by kernel_rfl, show (KP p).formed Tryd.prog 95 = true by simp [Value.formed, Tryd.underlying95, show Tryd.prog.cellsOf 95 = 2 by kernel_rfl]]
  have hk : ∃ ls, Tryd.prog.keyLits (Tryd.prog.types.size + 1) 95 (KP p).cells.toList = some ls := by
    have hi : ∀ (m : Nat) (x : Nat), x < 1099511627776 → Tryd.prog.keyLits (m + 1) 3 [.int .i64 ((x : Nat) : Int)] = some [.int .i64 ((x : Nat) : Int)] := fun m x hx => by
      unfold Program.keyLits
      rw [Tryd.underlying3]
      exact if_pos ⟨rfl, WalkArith.wf_i64 ⟨by omega, by omega⟩⟩
    obtain ⟨m, hm⟩ := types_pos
    rw [hm]
    unfold Program.keyLits
    rw [Tryd.underlying95]
    simp only
    rw [if_pos ⟨by simp [Value.cells, show Tryd.prog.cellsOf 95 = 2 by kernel_rfl], by kernel_rfl⟩]
    simp [Value.cells, show Tryd.prog.cellsOf 3 = 1 by kernel_rfl, hi m p.1 h.1, hi m p.2 h.2]
  obtain ⟨ls, hls⟩ := hk
  rw [hls]
  exact ⟨_, rfl⟩
/-- Within a state: c letters are done. -/
def EIn {α : Type} [DecidableEq α] (tk : TypeId) (K : α → Value) (eS : Value → List α → Ent) (S : α → List α) (fin : α → Bool) (n : Nat) (xs : List Ent) (w0 wi : World) (g gr gm gw k : Nat) (l : List α) (p : α) (c : Nat) (nv fv : Value) (rs : List (Value × List Int)) (pv : Value) : Prop :=
  Own w0 wi (eS pv (addAll l ((S p).take c)) :: eInts (.slice (some ⟨gw, 0, none⟩) n n) (prow S l p n c) :: eRows nv (rs.map (·.1)) :: eBools fv ((l.take k).map fin) :: eDfa g [.int .i64 (n : Int), .int .i64 0, nv, fv] :: eDfa gr zero4 :: xs) (eEach rs) ∧
    w0.heap.size ≤ gm ∧ MapIs Tryd.prog tk 3 K (Lit.int .i64) wi gm (addAll l ((S p).take c)).length (addAll l ((S p).take c)).length (xf (addAll l ((S p).take c)))
/-- Between two states, the rows apart from each other. -/
def EOutF {α : Type} [DecidableEq α] (tk : TypeId) (K : α → Value) (eS : Value → List α → Ent) (S : α → List α) (a : α) (fin : α → Bool) (n : Nat) (w0 wr : World) (g gr gm i : Nat) (pv : Value) : Prop :=
  ∃ l nv fv rs, Part S a i l ∧ Build w0 wr g (eDfa gr zero4 :: eS pv l :: []) (n : Int) 0 ((l.take i).map (srow S l)) ((l.take i).map fin) nv fv rs ∧ w0.heap.size ≤ gm ∧ MapIs Tryd.prog tk 3 K (Lit.int .i64) wr gm l.length l.length (xf l) ∧ FarR rs
section
variable {α : Type} [DecidableEq α] {tk : TypeId} {K : α → Value} {eS : Value → List α → Ent} {S : α → List α} {fin : α → Bool} {n : Nat} {xs : List Ent} {w0 wi : World} {g gr gm gw k : Nat} {l : List α} {p : α} {c : Nat} {nv fv pv : Value} {rs : List (Value × List Int)}
theorem EIn.on {w' : World} (h : EIn tk K eS S fin n xs w0 wi g gr gm gw k l p c nv fv rs pv) (hb : Below wi.heap.size wi w') : EIn tk K eS S fin n xs w0 w' g gr gm gw k l p c nv fv rs pv := ⟨h.1.on hb, h.2.1, h.2.2.on hb h.2.2.lt⟩
theorem addTo_old {l : List α} {t : α} (h : t ∈ l) : addTo l t = l := by unfold addTo; rw [if_pos h]
theorem addTo_new {l : List α} {t : α} (h : t ∉ l) : addTo l t = l ++ [t] := by unfold addTo; rw [if_neg h]
/-- A letter's number is stored. -/
theorem EIn.put {w9 : World} {t : α} {cur : List α} (hc : addTo (addAll l ((S p).take c)) t = cur) (ht : (S p)[c]? = some t) (hn : c < n) (hl : (prow S l p n c).length = n)
    (ho : Own w0 w9 (eS pv cur :: eInts (.slice (some ⟨gw, 0, none⟩) n n) (prow S l p n c) :: eRows nv (rs.map (·.1)) :: eBools fv ((l.take k).map fin) :: eDfa g [.int .i64 (n : Int), .int .i64 0, nv, fv] :: eDfa gr zero4 :: xs) (eEach rs))
    (hg : w0.heap.size ≤ gm) (hm : MapIs Tryd.prog tk 3 K (Lit.int .i64) w9 gm cur.length cur.length (xf cur)) {z : Nat} (hz : num cur t = z) :
    EIn tk K eS S fin n xs w0 (w9.setCell ⟨gw, c, none⟩ (.int .i64 ((z : Nat) : Int))) g gr gm gw k l p (c + 1) nv fv rs pv := by
  subst hc
  subst hz
  obtain ⟨ob, hob⟩ := hm.isMap
  have him := isMap_set (t := 3) (sz := 1) (n := n) (cap := n) (g := gw) (xs := (prow S l p n c).map i64) hob ho (by rw [← hl]; simp [eInts, hl]) c (.int .i64 ((num (addTo (addAll l ((S p).take c)) t) t : Nat) : Int))
  have h7 := (own_ints_set ho.two hl c ((num (addTo (addAll l ((S p).take c)) t) t : Nat) : Int)).two
  rw [prow_step ht hn] at h7
  refine ⟨?_, hg, ?_⟩
  · rw [addAll_succ ht]; exact h7
  · rw [addAll_succ ht]; exact map_same hm hob him
end
set_option linter.unusedSimpArgs false in
set_option maxRecDepth 100000 in
set_option maxHeartbeats 4000000 in
theorem explP_new (fn ff : Nat) (hcn : ∀ args W, (callFunc fn args).run Tryd.prog W = .ok (.enter fn args) W) (hcf : ∀ args W, (callFunc ff args).run Tryd.prog W = .ok (.enter ff args) W) (q1 q2 r1 r2 r3 : Value) (S : (Nat × Nat) → List (Nat × Nat)) (x0 : (Nat × Nat)) (fin : (Nat × Nat) → Bool) (n : Nat) (w : World) (h1 : 1 ≤ n) (h6 : n ≤ 6) (hS : ∀ x, (S x).length = n) (hlim : (∀ x, Rch S x0 x → x.1 < 1099511627776 ∧ x.2 < 1099511627776))
    (HN : ∀ x, Rch S x0 x → ∀ c t, (S x)[c]? = some t → ∀ W, Below w.heap.size w W → Calls Tryd.prog fn #[.agg #[.int .i64 ((x.1 : Nat) : Int), .int .i64 ((x.2 : Nat) : Int)], .int .i64 ((c : Nat) : Int), q1, q2] W fun e w' => e = .returned (.agg #[.int .i64 ((t.1 : Nat) : Int), .int .i64 ((t.2 : Nat) : Int)]) ∧ Below W.heap.size W w')
    (HF : ∀ x, Rch S x0 x → ∀ W, Below w.heap.size w W → Calls Tryd.prog ff #[.agg #[.int .i64 ((x.1 : Nat) : Int), .int .i64 ((x.2 : Nat) : Int)], r1, r2, r3] W fun e w' => e = .returned (.bool (fin x)) ∧ Below W.heap.size W w') :
    Calls Tryd.prog 60 #[.int .i64 (n : Int), .agg #[.int .i64 ((x0.1 : Nat) : Int), .int .i64 ((x0.2 : Nat) : Int)], .func (.func fn) #[] #[q1, q2], .func (.func ff) #[] #[r1, r2, r3]] w fun e w' => Hid (∃ x, e = .returned (.tuple #[x, errV (explOut (n : Int) S x0 fin).2]) ∧ DfaNew w w' x (explOut (n : Int) S x0 fin).1) := by
  have HN := Lib.hid HN
  have HF := Lib.hid HF
  have HLim := Lib.hid hlim
  have HSn := Lib.hid hS
  have hmm := @run_makeMap Tryd.prog
  obtain ⟨wb, hwb⟩ : ∃ wb, wb = w.alloc (.cells #[.int .i64 ((x0.1 : Nat) : Int), .int .i64 ((x0.2 : Nat) : Int)] 95) := ⟨_, rfl⟩
  have hb0 : Below w.heap.size w wb := by rw [hwb]; exact below_alloc _ _
  have hsb : wb.heap.size = w.heap.size + 1 := by rw [hwb]; simp
  have hx0 : wb.cell? ⟨w.heap.size, 0, none⟩ = some (.int .i64 ((x0.1 : Nat) : Int)) := by rw [hwb]; exact box_cell w _ _ 0
  have hx1 : wb.cell? ⟨w.heap.size, 1, none⟩ = some (.int .i64 ((x0.2 : Nat) : Int)) := by rw [hwb]; exact box_cell w _ _ 1
  have HB0 := Lib.hid hb0
  obtain ⟨wz, hwz⟩ : ∃ wz, wz = wb.alloc (.cells #[.int .i64 0, .int .i64 0, .slice none 0 0, .slice none 0 0] 25) := ⟨_, rfl⟩
  have hO1 : Own wb wz [eDfa wb.heap.size zero4] [] := by rw [hwz]; exact (own_start wb).dfa _ _ _ _
  have hsz : wz.heap.size = wb.heap.size + 1 := by rw [hwz]; simp
  have HAl := Lib.hid (alpha_any (n : Int) wz true (decide_eq_true ⟨by omega, by omega⟩).symm)
  have hz0 := ((below_alloc wb (.cells #[.int .i64 0, .int .i64 0, .slice none 0 0, .slice none 0 0] 25)).cell (p := ⟨w.heap.size, 0, none⟩) (by show w.heap.size < _; omega)).trans hx0
  have hz1 := ((below_alloc wb (.cells #[.int .i64 0, .int .i64 0, .slice none 0 0, .slice none 0 0] 25)).cell (p := ⟨w.heap.size, 1, none⟩) (by show w.heap.size < _; omega)).trans hx1
  rw [← hwz] at hz0 hz1
  have HWz : Hid (wz = (w.alloc (.cells #[.int .i64 ((x0.1 : Nat) : Int), .int .i64 ((x0.2 : Nat) : Int)] 95)).alloc (.cells #[.int .i64 0, .int .i64 0, .slice none 0 0, .slice none 0 0] 25)) := by rw [Hid, ← hwb]; exact hwz
  have HSz : Hid (wb.heap.size = w.heap.size + 1) := hsb
  have HSZ := Lib.hid hsz
  clear hx0 hx1 hwz hwb hsz hsb hb0
  go_enter Tryd.func60, Tryd.ntmps60
  go_wp2_with fail
  rw [← HWz.out]
  clear HWz
  refine HAl.out.mono ?_
  rintro e wa ⟨rfl, hwa⟩
  rw [hwa]
  clear hwa HAl wa
  rw [← HSz.out]
  have hO3 := (hO1.dfa (.int .i64 (n : Int)) (.int .i64 0) (.slice none 0 0) (.slice none 0 0)).lit 95 2 1 #[.int .i64 ((x0.1 : Nat) : Int), .int .i64 ((x0.2 : Nat) : Int)] rfl (by simp [maxLen])
  rw [show (wz.alloc (.cells #[.int .i64 (n : Int), .int .i64 0, .slice none 0 0, .slice none 0 0] 25)).heap.size = wz.heap.size + 1 by simp] at hO3
  obtain ⟨kl0, hkl0⟩ := KP_key x0 (HLim.out x0 .base)
  have hs3 : ((wz.alloc (.cells #[.int .i64 (n : Int), .int .i64 0, .slice none 0 0, .slice none 0 0] 25)).alloc (.cells #[.int .i64 ((x0.1 : Nat) : Int), .int .i64 ((x0.2 : Nat) : Int)] 95)).heap.size = wz.heap.size + 1 + 1 := by simp
  obtain ⟨w4, hrun, ht4, hm4⟩ := (map_made ((wz.alloc (.cells #[.int .i64 (n : Int), .int .i64 0, .slice none 0 0, .slice none 0 0] 25)).alloc (.cells #[.int .i64 ((x0.1 : Nat) : Int), .int .i64 ((x0.2 : Nat) : Int)] 95)) Tryd.prog 95 3 KP (Lit.int .i64)).store keyedP Tryd.underlying128 elem_int (by omega) hkl0 KP_inj (x := (0 : Int)) (by decide)
  have hO4 := own_put (hO3.alloc (.map #[] 0)) (by rw [hs3]; have := HSZ.out; omega) (map_made ((wz.alloc (.cells #[.int .i64 (n : Int), .int .i64 0, .slice none 0 0, .slice none 0 0] 25)).alloc (.cells #[.int .i64 ((x0.1 : Nat) : Int), .int .i64 ((x0.2 : Nat) : Int)] 95)) Tryd.prog 95 3 KP (Lit.int .i64)) ht4
  rw [xf_one] at hm4
  rw [hs3] at hm4 hrun
  simp only [KP] at hrun
  have HS0 : Hid (EOutF 95 KP ePairs S x0 fin n wb w4 wz.heap.size wb.heap.size (wz.heap.size + 1 + 1) 0 (.slice (some ⟨wz.heap.size + 1, 0, none⟩) 1 1)) :=
    ⟨[x0], .slice none 0 0, .slice none 0 0, [], part_zero S x0, ⟨rfl, ((hO4.re [1, 2, 0] 3 rfl (by decide)).nil 4 1).nil 27 1⟩, by have := HSZ.out; omega, hm4, farR_nil⟩
  clear hO1 hO3 hO4 hm4 ht4 hkl0 hs3
  have hltz : w.heap.size < wz.heap.size := by have := HSZ.out; have := HSz.out; omega
  have hbm : Below wz.heap.size wz (((wz.alloc (.cells #[.int .i64 (n : Int), .int .i64 0, .slice none 0 0, .slice none 0 0] 25)).alloc (.cells #[.int .i64 ((x0.1 : Nat) : Int), .int .i64 ((x0.2 : Nat) : Int)] 95)).alloc (.map #[] 0)) := (((Below.refl _ _).alloc (Nat.le_refl _) _).alloc (by simp) _).alloc (by simp; omega) _
  have hy0 := (hbm.cell (p := ⟨w.heap.size, 0, none⟩) hltz).trans hz0
  have hy1 := (hbm.cell (p := ⟨w.heap.size, 1, none⟩) hltz).trans hz1
  clear hbm
  go_wp2
  clear hrun hmm
  clear hz0 hz1 hltz hy0 hy1
  generalize wz.heap.size + 1 + 1 = gm at *
  generalize wz.heap.size = g at *
  obtain ⟨gr, hgr⟩ : ∃ gr, gr = wb.heap.size := ⟨_, rfl⟩
  have HGr := Lib.hid hgr
  rw [← hgr]
  rw [← hgr] at HS0
  clear hgr HSZ
  go_loopw [11, 13] (fun pv i wr => ∃ (k : Nat), k ≤ 40 ∧ i = .int .i64 k ∧ Hid (EOutF 95 KP ePairs S x0 fin n wb wr g gr gm k pv)) (fun _ i _ => 41 - (intOf i).toNat)
  case atStart => exact ⟨0, by omega, rfl, HS0⟩
  case round =>
    clear HS0
    obtain ⟨k, hk, rfl, HS⟩ := hrel
    obtain ⟨l, nv, fv, rs, hpart, hbd, hge, hmap, hfar⟩ := HS.out
    have HFar := Lib.hid hfar
    have HP := Lib.hid hpart
    have HBd := Lib.hid hbd
    have HM := Lib.hid hmap
    have HGe := Lib.hid hge
    obtain ⟨Ap, cp, hpv, hcp, _, hpa⟩ := own_pairs hbd.2 (v := u11) (l := l) (by simp)
    subst hpv
    have h40 := hpart.n40
    have hkl := hpart.le
    clear HS hpart hbd hmap hge hfar
    by_cases hlt : k < l.length
    · as_aux_lemma =>
      obtain ⟨x, hxy⟩ : ∃ q, l[k]? = some q := ⟨_, List.getElem?_eq_getElem hlt⟩
      obtain ⟨adp, hAp, hadp, hp0, hp1⟩ := hpa.at_ hxy
      subst hAp
      have HXY := Lib.hid hxy
      have HRx := Lib.hid (HP.out.rch x (List.mem_of_getElem? hxy))
      obtain ⟨HRS, hown⟩ := HBd.out
      have HRS := Lib.hid HRS
      have HO1 := Lib.hid (hown.lit 95 2 1 #[.int .i64 ((x.1 : Nat) : Int), .int .i64 ((x.2 : Nat) : Int)] rfl (by simp [maxLen]))
      clear hown hpa hxy HBd
      go_wp2_with (at_make; refine mk_ints rfl _ _ rfl n rfl rfl (by omega) ?_)
      intro w4 hn4
      have hO4 := HO1.out.join (Own.of_nums (show Nums (wr.alloc (.cells #[.int .i64 ((x.1 : Nat) : Int), .int .i64 ((x.2 : Nat) : Int)] 95)).heap.size _ _ _ _ by simpa using hn4))
      have HR0 : Hid (EIn 95 KP ePairs S fin n [⟨95, 2, .slice (some ⟨wr.heap.size, 0, none⟩) 1 1, 1, [.int .i64 ((x.1 : Nat) : Int), .int .i64 ((x.2 : Nat) : Int)]⟩] wb w4 g gr gm (wr.heap.size + 1) k l x 0 nv fv rs (.slice (some adp) l.length cp)) := by
        unfold Hid EIn
        rw [prow_zero, List.take_zero]
        exact ⟨hO4.re [6, 0, 2, 3, 4, 5, 1] 7 rfl (by decide), HGe.out, (HM.out.alloc _).on (show Below (wr.alloc (.cells #[.int .i64 ((x.1 : Nat) : Int), .int .i64 ((x.2 : Nat) : Int)] 95)).heap.size _ _ by simpa using hn4.2.1) (HM.out.alloc _).lt⟩
      clear hO4 hn4 HO1 hadp hp0 hp1 HM
      generalize wr.heap.size = gh at *
      obtain ⟨gw, hgw⟩ : ∃ gw, gw = gh + 1 := ⟨_, rfl⟩
      rw [← hgw] at HR0
      rw [← hgw]
      clear hgw
      go_wp2
      go_loopw [11, 46] (fun pv i wi => ∃ (q : Nat), q ≤ n ∧ i = .int .i64 q ∧ Hid (EIn 95 KP ePairs S fin n [⟨95, 2, .slice (some ⟨gh, 0, none⟩) 1 1, 1, [.int .i64 ((x.1 : Nat) : Int), .int .i64 ((x.2 : Nat) : Int)]⟩] wb wi g gr gm gw k l x q nv fv rs pv)) (fun _ i _ => n - (intOf i).toNat)
      case atStart => exact ⟨0, by omega, rfl, HR0⟩
      case round =>
        clear HR0
        obtain ⟨q, hq, rfl, HR⟩ := hrel
        by_cases hqn : q < n
        · as_aux_lemma =>
          obtain ⟨t, hT⟩ : ∃ t, (S x)[q]? = some t := ⟨_, List.getElem?_eq_getElem (by rw [HSn.out]; exact hqn)⟩
          have HT := Lib.hid hT
          have hbi := HB0.out.trans (HR.out.1.below.mono HB0.out.size)
          have HCall := Lib.hid (HN.out x HRx.out q t hT wr hbi)
          have HRt : Hid (Rch S x0 t) := .next HRx.out (List.mem_of_getElem? hT)
          obtain ⟨kl, hkl2⟩ := KP_key t (HLim.out t HRt.out)
          have HKl := Lib.hid hkl2
          have hlc : (addAll l ((S x).take q)).length ≤ 1048576 := by
            have e1 := addAll_length_le l ((S x).take q)
            rw [List.length_take] at e1
            omega
          have hpl := prow_length (l := l) (HSn.out x) hq
          obtain ⟨old, hold⟩ : ∃ old, (prow S l x n q)[q]? = some old := ⟨_, List.getElem?_eq_getElem (by omega)⟩
          have HPL : Hid ((prow S l x n q).length = n ∧ (prow S l x n q)[q]? = some old) := ⟨hpl, hold⟩
          obtain ⟨ho, _, hm⟩ := HR.out
          obtain ⟨cur, hcur⟩ : ∃ cur, cur = addAll l ((S x).take q) := ⟨_, rfl⟩
          have HCur := Lib.hid hcur
          rw [← hcur] at ho hm hlc
          obtain ⟨A', c', hv', hlc', hcm', _⟩ := own_pairs ho (v := u11) (l := cur) (by simp)
          subst hv'
          have HO := Lib.hid ho
          have HM := Lib.hid hm
          clear hT hbi hkl2 hpl hold ho hm hcur HR
          obtain ⟨hh0, _⟩ := HO.out.cell (t := 95) (sz := 2) (n := 1) (cap := 1) (g := gh) (xs := [.int .i64 ((x.1 : Nat) : Int), .int .i64 ((x.2 : Nat) : Int)]) (j := 0) (by simp) rfl
          obtain ⟨hh1, _⟩ := HO.out.cell (t := 95) (sz := 2) (n := 1) (cap := 1) (g := gh) (xs := [.int .i64 ((x.1 : Nat) : Int), .int .i64 ((x.2 : Nat) : Int)]) (j := 1) (by simp) rfl
          go_wp2_with fail
          refine HCall.out.mono ?_
          rintro e w5 ⟨rfl, hb⟩
          have HO := Lib.hid (HO.out.on hb)
          have HM := Lib.hid (HM.out.on hb HM.out.lt)
          clear hb HCall hh0 hh1
          obtain ⟨⟨t1, t2⟩, ht12⟩ : ∃ q, q = t := ⟨_, rfl⟩
          subst ht12
          have HO := Lib.hid (HO.out.lit 95 2 1 #[.int .i64 ((t1 : Nat) : Int), .int .i64 ((t2 : Nat) : Int)] rfl (by simp [maxLen]))
          have HM := Lib.hid (HM.out.alloc (.cells #[.int .i64 ((t1 : Nat) : Int), .int .i64 ((t2 : Nat) : Int)] 95))
          obtain ⟨hn0, _⟩ := HO.out.cell (t := 95) (sz := 2) (n := 1) (cap := 1) (g := w5.heap.size) (xs := [.int .i64 ((t1 : Nat) : Int), .int .i64 ((t2 : Nat) : Int)]) (j := 0) (by simp) rfl
          obtain ⟨hn1, _⟩ := HO.out.cell (t := 95) (sz := 2) (n := 1) (cap := 1) (g := w5.heap.size) (xs := [.int .i64 ((t1 : Nat) : Int), .int .i64 ((t2 : Nat) : Int)]) (j := 1) (by simp) rfl
          obtain ⟨hw1, hw2⟩ := own_ints_cell HO.out.tail (List.mem_append_left _ (List.mem_cons_of_mem _ List.mem_cons_self)) HPL.out.1 HPL.out.2
          by_cases hmem : (t1, t2) ∈ cur
          · as_aux_lemma =>
            have HX : Hid (some ((num cur (t1, t2) : Nat) : Int) = xf cur (t1, t2)) := (xf_at hmem).symm
            have HX2 : Hid (((num cur (t1, t2) : Nat) : Int) = (xf cur (t1, t2)).getD 0) := by rw [Hid, xf_at hmem]; rfl
            have HPut := Lib.hid (EIn.put (z := num cur (t1, t2)) (by rw [← HCur.out]; exact addTo_old hmem) HT.out hqn HPL.out.1 HO.out.tail HGe.out HM.out rfl)
            clear hmem HCur HPL HO HRt
            generalize num cur (t1, t2) = z at *
            go_wp2_with (first | (at_lookup; refine wp_look_ok HM.out keyedP Tryd.underlying128 elem_int (by rfl) _ _ (by rfl) (by rfl) (a := (t1, t2)) (by rfl) HKl.out HX.out ?_) | (at_lookup; refine wp_look_is HM.out keyedP Tryd.underlying128 elem_int (by rfl) _ _ (by rfl) (by rfl) (a := (t1, t2)) (by rfl) HKl.out HX2.out ?_))
            go_roundw
            case rel => exact ⟨q + 1, by omega, by go_num, HPut⟩
            case measure => simp [intOf]; omega
          · as_aux_lemma =>
            have HX : Hid (none = xf cur (t1, t2)) := (xf_no hmem).symm
            have HMem := Lib.hid hmem
            clear hmem hw1 hw2
            go_wp2_with (first | (at_lookup; refine wp_look_ok HM.out keyedP Tryd.underlying128 elem_int (by rfl) _ _ (by rfl) (by rfl) (a := (t1, t2)) (by rfl) HKl.out HX.out ?_) | (at_mapUpdate; refine wp_store HM.out keyedP Tryd.underlying128 elem_int (by omega) KP_inj (by rfl) _ _ _ (by rfl) (by rfl) (a := (t1, t2)) (by rfl) HKl.out (x := ((cur.length : Nat) : Int)) (by rfl) (wf_of ⟨by omega, by omega⟩) (m' := cur.length + 1) (by rw [← HX.out]; rfl) ?_))
            intro w6 ht6 hm6
            have ho6 := own_put HO.out HGe.out HM.out ht6
            rw [xf_new HMem.out] at hm6
            obtain ⟨ob, hob⟩ := hm6.isMap
            have HO6 := Lib.hid (ho6.re [1, 0, 2, 3, 4, 5, 6, 7] 8 rfl (by decide))
            have HIm := Lib.hid hob
            have HM6 := Lib.hid hm6
            have hlc2 : cur.length < 1099511627776 := by omega
            clear ht6 ho6 hob hm6 HM HX HO hn0 hn1
            obtain ⟨hn0, _⟩ := HO6.out.cell (t := 95) (sz := 2) (n := 1) (cap := 1) (g := w5.heap.size) (xs := [.int .i64 ((t1 : Nat) : Int), .int .i64 ((t2 : Nat) : Int)]) (j := 0) (by simp) rfl
            obtain ⟨hn1, _⟩ := HO6.out.cell (t := 95) (sz := 2) (n := 1) (cap := 1) (g := w5.heap.size) (xs := [.int .i64 ((t1 : Nat) : Int), .int .i64 ((t2 : Nat) : Int)]) (j := 1) (by simp) rfl
            go_wp2_with (at_builtin; refine own_pair_g (p := (t1, t2)) (by rfl) _ _ (by rfl) (by rfl) HO6.out HIm.out (by rfl) hlc2 ?_)
            intro g8 cap8 w8 ho8 him8
            have hm8 := map_same HM6.out HIm.out him8
            have HX8 : Hid (((cur.length : Nat) : Int) = (xf (cur ++ [(t1, t2)]) (t1, t2)).getD 0) := by rw [Hid, xf_at (by simp), idx_new HMem.out]; rfl
            have ho9 := (ho8.re [0, 2, 3, 4, 5, 6, 7, 1] 8 rfl (by decide))
            obtain ⟨hw1, hw2⟩ := own_ints_cell ho9 (List.mem_append_left _ (List.mem_cons_of_mem _ List.mem_cons_self)) HPL.out.1 HPL.out.2
            obtain ⟨hn2, _⟩ := ho8.cell (t := 95) (sz := 2) (n := 1) (cap := 1) (g := w5.heap.size) (xs := [.int .i64 ((t1 : Nat) : Int), .int .i64 ((t2 : Nat) : Int)]) (j := 0) (by simp) rfl
            obtain ⟨hn3, _⟩ := ho8.cell (t := 95) (sz := 2) (n := 1) (cap := 1) (g := w5.heap.size) (xs := [.int .i64 ((t1 : Nat) : Int), .int .i64 ((t2 : Nat) : Int)]) (j := 1) (by simp) rfl
            have HPut : Hid (EIn 95 KP ePairs S fin n [⟨95, 2, .slice (some ⟨gh, 0, none⟩) 1 1, 1, [.int .i64 ((x.1 : Nat) : Int), .int .i64 ((x.2 : Nat) : Int)]⟩] wb (w8.setCell ⟨gw, q, none⟩ (.int .i64 ((cur.length : Nat) : Int))) g gr gm gw k l x (q + 1) nv fv rs (.slice (some ⟨g8, 0, none⟩) (cur.length + 1) cap8)) := EIn.put (cur := cur ++ [(t1, t2)]) (t := (t1, t2)) (by rw [← HCur.out]; exact addTo_new HMem.out) HT.out hqn HPL.out.1 (by rw [List.map_take]; exact (ho8.re [1, 0, 2, 3, 4, 5, 6, 7] 8 rfl (by decide)).tail) HGe.out (by simpa using hm8) (idx_new HMem.out)
            have HM8 := Lib.hid hm8
            clear HMem HCur HPL ho8 ho9 him8 hm8 HIm HM6 HO6 HRt hn0 hn1
            go_wp2_with (at_lookup; refine wp_look_is HM8.out keyedP Tryd.underlying128 elem_int (by rfl) _ _ (by rfl) (by rfl) (a := (t1, t2)) (by rfl) HKl.out HX8.out ?_)
            go_roundw
            case rel => exact ⟨q + 1, by omega, by go_num, HPut⟩
            case measure => simp [intOf]; omega
        · as_aux_lemma =>
          obtain rfl : q = n := by omega
          obtain ⟨ho, _, hm⟩ := HR.out
          have hS' : (S x).length = q := HSn.out x
          rw [prow_full hS', List.take_of_length_le (by omega)] at ho
          rw [List.take_of_length_le (by omega)] at hm
          have HStep := Lib.hid (HP.out.step HXY.out)
          have HRow := Lib.hid (rows_next HP.out HXY.out)
          have HFlag : Hid (((addAll l (S x)).take (k + 1)).map fin = (l.take k).map fin ++ [fin x]) := flags_next (S := S) fin HXY.out
          clear HR hS' HP
          generalize hrw : (l.take k).map (srow S l) = rws at *
          generalize hbs : (l.take k).map fin = bs at *
          have HLen : Hid ((rs.map (·.1)).length < 1099511627776 ∧ bs.length < 17592186044416) := by
            have h1 := congrArg List.length HRS.out
            rw [← hrw, List.length_map, List.length_map, List.length_take] at h1
            have h2 := congrArg List.length hbs
            rw [List.length_map, List.length_take] at h2
            exact ⟨by rw [List.length_map]; omega, by omega⟩
          clear hrw hbs
          generalize hl' : addAll l (S x) = l' at *
          clear hl'
          obtain ⟨A', c', hv', hlc', hcm', _⟩ := own_pairs ho (v := u11) (l := l') (by simp)
          subst hv'
          have HO := Lib.hid ho
          have HM := Lib.hid hm
          clear ho hm
          by_cases hfull : 40 < l'.length
          · as_aux_lemma =>
            have hfull' : (40 : Int) < (l'.length : Int) := by omega
            have HNo : Hid (explOut (q : Int) S x0 fin = (zeroA, 4)) := explOut_none (HStep.out.1 hfull)
            have HR2 := Lib.hid (HO.out.pull 5 (by simp))
            obtain ⟨hr0, hf0⟩ := HR2.out.dcell (g := gr) (l := zero4) (j := 0) (by simp) rfl
            obtain ⟨hr1, hf1⟩ := HR2.out.dcell (g := gr) (l := zero4) (j := 1) (by simp) rfl
            obtain ⟨hr2, hf2⟩ := HR2.out.dcell (g := gr) (l := zero4) (j := 2) (by simp) rfl
            obtain ⟨hr3, hf3⟩ := HR2.out.dcell (g := gr) (l := zero4) (j := 3) (by simp) rfl
            have HEnd := Lib.hid (res_bad HR2.out rfl)
            clear HR2 HO HM
            go_wp2
            obtain ⟨k2, k3, k4, k5, k6⟩ := HEnd.out
            refine bodyPost_ret (results_dfa rfl _ rfl k3 k4 k5 k6) rfl ⟨_, by rw [HNo.out]; rfl, by rw [HNo.out]; exact dfaNew_zero (HB0.out.trans (k2.mono HB0.out.size))⟩
          · as_aux_lemma =>
            have hfull' : ¬ (40 : Int) < (l'.length : Int) := by omega
            have HPn := Lib.hid (HStep.out.2 hfull)
            have HR2 := Lib.hid (HO.out.pull 2 (by simp))
            obtain ⟨ob, hob⟩ := HM.out.isMap
            have HIm := Lib.hid hob
            obtain ⟨hg2, hgf2⟩ := HO.out.dcell (g := g) (l := [.int .i64 (q : Int), .int .i64 0, nv, fv]) (j := 2) (by simp) rfl
            clear HStep HO hob
            go_wp2_with (at_builtin; refine own_row_g (by rfl) _ _ (by rfl) (by rfl) HR2.out HIm.out (by rfl) (by rfl) HLen.out.1 ?_)
            intro g8 cap8 w8 ho8 him8
            have hlr : rs.length = (rs.map (·.1)).length := (List.length_map _).symm
            have HB9 : Hid (Build wb (w8.setCell ⟨g, 2, none⟩ (.slice (some ⟨g8, 0, none⟩) (rs.length + 1) cap8)) g [eDfa gr zero4, ePairs (.slice A' l'.length c') l', ⟨95, 2, .slice (some ⟨gh, 0, none⟩) 1 1, 1, [.int .i64 ((x.1 : Nat) : Int), .int .i64 ((x.2 : Nat) : Int)]⟩] (q : Int) 0 (rws ++ [srow S l' x]) bs (.slice (some ⟨g8, 0, none⟩) (rs.length + 1) cap8) fv (rs ++ [(.slice (some ⟨gw, 0, none⟩) q q, srow S l' x)])) :=
              build_row HRS.out (ho8.re [0, 2, 3, 4, 5, 1, 6] 7 rfl (by decide)) rfl
            have HIm9 := Lib.hid (isMap_set (t := 25) (sz := 4) (n := 1) (cap := 1) (g := g) (xs := [.int .i64 (q : Int), .int .i64 0, nv, fv]) him8 ho8 (by simp [eDfa]) 2 (.slice (some ⟨g8, 0, none⟩) (rs.length + 1) cap8))
            obtain ⟨hk8, hf8⟩ := ho8.dcell (g := g) (l := [.int .i64 (q : Int), .int .i64 0, nv, fv]) (j := 2) (by simp) rfl
            have HFar9 : Hid (FarR (rs ++ [(Value.slice (some ⟨gw, 0, none⟩) q q, srow S l' x)])) := farR_snoc HFar.out ho8.three
            rw [← HRow.out] at HB9
            clear ho8 him8 hg2 hgf2 HR2 hlr
            go_wp2_with fail
            generalize hw9 : w8.setCell ⟨g, 2, none⟩ (.slice (some ⟨g8, 0, none⟩) (rs.length + 1) cap8) = w9 at *
            generalize (Value.slice (some ⟨g8, 0, none⟩) (rs.length + 1) cap8) = nv9 at *
            generalize (rs ++ [(Value.slice (some ⟨gw, 0, none⟩) q q, srow S l' x)]) = rs9 at *
            generalize hr9 : (l'.take (k + 1)).map (srow S l') = rws9 at *
            have HR9 := Lib.hid hr9
            clear hr9 hk8 hf8 hw9
            have HK : Hid (∀ W es fs, Own wb W es fs → eDfa g [.int .i64 (q : Int), .int .i64 0, nv9, fv] ∈ es ++ fs ∧ ⟨95, 2, .slice (some ⟨gh, 0, none⟩) 1 1, 1, [.int .i64 ((x.1 : Nat) : Int), .int .i64 ((x.2 : Nat) : Int)]⟩ ∈ es ++ fs → W.cell? ⟨g, 3, none⟩ = some fv ∧ W.cell? ⟨gh, 0, none⟩ = some (.int .i64 ((x.1 : Nat) : Int)) ∧ W.cell? ⟨gh, 1, none⟩ = some (.int .i64 ((x.2 : Nat) : Int))) := fun W es fs hW hm =>
              ⟨(hW.dcell hm.1 rfl).1, (hW.cell (t := 95) (sz := 2) (n := 1) (cap := 1) (g := gh) (xs := [.int .i64 ((x.1 : Nat) : Int), .int .i64 ((x.2 : Nat) : Int)]) (j := 0) hm.2 rfl).1, (hW.cell (t := 95) (sz := 2) (n := 1) (cap := 1) (g := gh) (xs := [.int .i64 ((x.1 : Nat) : Int), .int .i64 ((x.2 : Nat) : Int)]) (j := 1) hm.2 rfl).1⟩
            have HO9 := Lib.hid HB9.out.2.two
            have HFc := Lib.hid (HF.out x HRx.out w9.drew (HB0.out.trans ((HB9.out.2.on (Below.refl _ _).drew).below.mono HB0.out.size)))
            refine wp_region_Z ((fun W => W.cell? ⟨g, 3, none⟩ = some fv ∧ W.cell? ⟨gh, 0, none⟩ = some (.int .i64 ((x.1 : Nat) : Int)) ∧ W.cell? ⟨gh, 1, none⟩ = some (.int .i64 ((x.2 : Nat) : Int)))) 8 (by kernel_rfl) (HK.out _ _ _ (HB9.out.2.on (by go_grown)) (by simp)) (fun hHeld => ?_)
            refine wpZ_take (i := 0) (v := ?_) rfl (by kernel_rfl) (by kernel_rfl) (by kernel_rfl) (by kernel_rfl) (fun _ _ _ h => h) (Or.inl ⟨by rfl, ?_⟩) hHeld ?_
            rotate_left
            · (go_light; intro w9 hSw; (try dsimp only at hSw); go_simp; try with_reducible rfl)
            try simp only [Act.put, List.setIfInBounds_toArray, List.set_cons_zero, List.set_cons_succ]
            refine wpZ_take (i := 1) (v := ?_) rfl (by kernel_rfl) (by kernel_rfl) (by kernel_rfl) (by kernel_rfl) (fun _ _ _ h => h) (Or.inl ⟨by rfl, ?_⟩) hHeld ?_
            rotate_left
            · (go_light; intro w9 hSw; (try dsimp only at hSw); go_simp; try with_reducible rfl)
            try simp only [Act.put, List.setIfInBounds_toArray, List.set_cons_zero, List.set_cons_succ]
            refine wpZ_take (i := 2) (v := ?_) rfl (by kernel_rfl) (by kernel_rfl) (by kernel_rfl) (by kernel_rfl) (fun _ _ _ h => h) (Or.inl ⟨by rfl, ?_⟩) hHeld ?_
            rotate_left
            · (go_light; intro w9 hSw; (try dsimp only at hSw); go_simp; try with_reducible rfl)
            try simp only [Act.put, List.setIfInBounds_toArray, List.set_cons_zero, List.set_cons_succ]
            refine wpZ_take (i := 3) (v := ?_) rfl (by kernel_rfl) (by kernel_rfl) (by kernel_rfl) (by kernel_rfl) (fun _ _ _ h => h) (Or.inl ⟨by rfl, ?_⟩) hHeld ?_
            rotate_left
            · (go_light; intro w9 hSw; (try dsimp only at hSw); go_simp; try with_reducible rfl)
            try simp only [Act.put, List.setIfInBounds_toArray, List.set_cons_zero, List.set_cons_succ]
            refine wpZ_one (i := 4) rfl (by kernel_rfl) (fun K hK => ?_)
            go_simp
            refine HFc.out.mono ?_
            rintro e w10 ⟨rfl, hb⟩
            have HO10 := Lib.hid ((HO9.out.on (Below.refl _ _).drew).on hb)
            have HIm10 := Lib.hid ((HIm9.out.on (Below.refl _ _).drew).on hb)
            clear hb
            try simp only []
            refine hK.out _ _ (fun _ => HK.out _ _ _ HO10.out (by simp)) (fun hHeld9 => ?_)
            replace hHeld := hHeld9 (by decide)
            clear hHeld9
            clear hK K
            try simp only [Act.put, List.setIfInBounds_toArray, List.set_cons_zero, List.set_cons_succ]
            refine wpZ_one (i := 5) rfl (by kernel_rfl) (fun K hK => ?_)
            go_simp
            refine hK.out _ _ (fun _ => HK.out _ _ _ (HO10.out.alloc _) (by simp)) (fun hHeld9 => ?_)
            replace hHeld := hHeld9 (by decide)
            clear hHeld9
            clear hK K
            try simp only [Act.put, List.setIfInBounds_toArray, List.set_cons_zero, List.set_cons_succ]
            refine wpZ_one (i := 6) rfl (by kernel_rfl) (fun K hK => ?_)
            refine step_own_bool_g (by rfl) _ _ (by rfl) (by rfl) HO10.out HIm10.out (by rfl) HLen.out.2 ?_
            intro g11 cap11 w11 ho11 him11
            refine hK.out _ _ (fun _ => HK.out _ _ _ ho11 (by simp)) (fun hHeld9 => ?_)
            replace hHeld := hHeld9 (by decide)
            clear hHeld9
            clear hK K
            try simp only [Act.put, List.setIfInBounds_toArray, List.set_cons_zero, List.set_cons_succ]
            refine wpZ_take (i := 7) (v := ?_) rfl (by kernel_rfl) (by kernel_rfl) (by kernel_rfl) (by kernel_rfl) (fun _ _ _ h => h) (Or.inl ⟨by rfl, ?_⟩) hHeld ?_
            rotate_left
            · (go_light; intro w9 hSw; (try dsimp only at hSw); go_simp; try with_reducible rfl)
            try simp only [Act.put, List.setIfInBounds_toArray, List.set_cons_zero, List.set_cons_succ]
            refine wpZ_one (i := 8) rfl (by kernel_rfl) (fun K hK => ?_)
            have hk4 := (ho11.dcell (g := g) (l := [.int .i64 (q : Int), .int .i64 0, nv9, fv]) (j := 3) (by simp) rfl).2
            go_simp
            refine hK.out _ _ (fun k => absurd rfl k) (fun _ => ?_)
            clear hK K
            try simp only [Act.put, List.setIfInBounds_toArray, List.set_cons_zero, List.set_cons_succ]
            refine wpZ_done (by kernel_rfl) ?_ _
            have HBf := build_flag HB9.out.1 ho11 rfl
            have him12 := isMap_set (t := 25) (sz := 4) (n := 1) (cap := 1) (g := g) (xs := [.int .i64 (q : Int), .int .i64 0, nv9, fv]) him11 ho11 (by simp [eDfa]) 3 (.slice (some ⟨g11, 0, none⟩) (bs.length + 1) cap11)
            have HN1 : Hid (EOutF 95 KP ePairs S x0 fin q wb (w11.setCell ⟨g, 3, none⟩ (.slice (some ⟨g11, 0, none⟩) (bs.length + 1) cap11)) g gr gm (k + 1) (.slice A' l'.length c')) := by
              refine ⟨l', nv9, .slice (some ⟨g11, 0, none⟩) (bs.length + 1) cap11, rs9, HPn.out, ?_, HGe.out, map_same HM.out HIm.out him12, HFar9.out⟩
              rw [HFlag.out, HR9.out]
              exact ⟨HBf.1, (HBf.2.re [5, 0, 1, 2, 3, 4] 6 rfl (by decide)).tail⟩
            clear HBf ho11 him11 him12 HB9 HO9 HO10 HIm10 HIm9 HIm HM HK hk4 hHeld HFc
            go_wp2
            go_roundw
            case rel => exact ⟨k + 1, by omega, by go_num, HN1⟩
            case measure => simp [intOf]; omega
    · as_aux_lemma =>
      obtain rfl : k = l.length := by omega
      have HNo : Hid (explOut (n : Int) S x0 fin = (⟨(n : Int), 0, l.map (srow S l), l.map fin⟩, 0)) := explOut_some (HP.out.stop (Nat.le_refl _))
      rw [List.take_length] at HBd
      have HSm := Lib.hid (srow_small S l (by omega))
      clear HP hpa HM
      generalize l.map (srow S l) = rows at *
      generalize l.map fin = bs at *
      obtain ⟨A2, c2, F2, cf2, e1, e2⟩ := HBd.out.form
      obtain ⟨hg0, hg1, hg2, hg3⟩ := HBd.out.str
      obtain ⟨hr0, hf0⟩ := HBd.out.res (j := 0) (by omega)
      obtain ⟨hr1, hf1⟩ := HBd.out.res (j := 1) (by omega)
      obtain ⟨hr2, hf2⟩ := HBd.out.res (j := 2) (by omega)
      obtain ⟨hr3, hf3⟩ := HBd.out.res (j := 3) (by omega)
      subst e1 e2
      have HEnd := Lib.hid (build_end_new HBd.out HFar.out HSm.out ⟨by omega, by omega⟩ ⟨by omega, by omega⟩ rfl)
      generalize rows.length = nr at *
      generalize bs.length = nb at *
      go_wp2
      obtain ⟨k1, k3, k4, k5, k6⟩ := HEnd.out
      refine bodyPost_ret (results_dfa rfl _ rfl k3 k4 k5 k6) rfl ⟨_, by rw [HNo.out]; rfl, by rw [HNo.out]; exact k1.base HB0.out⟩
end Go.Proofs.YtbciefeipiphiaaDoor.Df
