/- What a call owns beside a map that it writes. Package dfa's Explore at pairs: the states of an automaton, numbered as they are found. -/
import Derived.Test.YtfiknbdpjnpkdaaMaps
import Derived.Test.YtfiknbdpjnpkdaaDfaQ
import Derived.Test.YtfiknbdpjnpkdaaRegL
import Derived.Handy
import Derived.Deep.Light
namespace Go.Proofs.Ytfiknbdpjnpkdaa.Mp
open Go.RowKit Go.IntWalk Go.Proofs.Ytfiknbdpjnpkdaa.Wd Go.Proofs.Ytfiknbdpjnpkdaa.Wo Go.Proofs.Ytfiknbdpjnpkdaa.Df
open Go.Maps (Keyed)

/-- Block b holds a map. -/
def IsMap (w : World) (b : Nat) (o : Obj) : Prop := w.heap[b]? = some o ∧ ∃ es clock, o = .map es clock
theorem IsMap.lt {w : World} {b : Nat} {o : Obj} (h : IsMap w b o) : b < w.heap.size := (Array.getElem?_eq_some_iff.1 h.1).1
theorem IsMap.on {w w' : World} {b : Nat} {o : Obj} (h : IsMap w b o) (hb : Below w.heap.size w w') : IsMap w' b o := ⟨(hb.block b h.lt).trans h.1, h.2⟩
theorem MapIs.isMap {P : Program} {k e : TypeId} {α β : Type} {K : α → Value} {L : β → Lit} {w : World} {b n m : Nat} {f : α → Option β} (h : MapIs P k e K L w b n m f) : ∃ o, IsMap w b o := by
  obtain ⟨D, ⟨es, clock, h1, _⟩, _⟩ := h
  exact ⟨_, h1, es, clock, rfl⟩
theorem row_not_map {w : World} {B : Nat} {t : TypeId} {sz n : Nat} {v : Value} {xs : List Value} (h : w.ownsRow B t sz v n xs) {b : Nat} {o : Obj} (hm : IsMap w b o) : v.ownBlock ≠ some b := by
  obtain ⟨h1, es, clock, rfl⟩ := hm
  rcases h.2 with ⟨e, _⟩ | ⟨g, cap, cur, e, _, hh, _⟩
  · subst e; intro k; cases k
  · subst e
    intro k
    obtain rfl : g = b := Option.some.inj k
    rw [h1] at hh
    cases hh
theorem own_not_map {w0 w : World} {es fs : List Ent} (h : Own w0 w es fs) {b : Nat} {o : Obj} (hm : IsMap w b o) : ∀ e ∈ es ++ fs, e.v.ownBlock ≠ some b := fun _ he => row_not_map (h.at_ he) hm
/-- A map that was made behind the rows is written. -/
theorem own_put {P : Program} {k e : TypeId} {α β : Type} {K : α → Value} {L : β → Lit} {n m : Nat} {f : α → Option β} {w0 w w' : World} {es fs : List Ent} {b : Nat} (h : Own w0 w es fs) (hb : w0.heap.size ≤ b) (hm : MapIs P k e K L w b n m f) (ht : w.mapTurned w' b) : Own w0 w' es fs := by
  obtain ⟨o, ho⟩ := hm.isMap
  exact own_beside h hb (own_not_map h ho) ht
theorem isMap_set {w : World} {b : Nat} {o : Obj} (h : IsMap w b o) {w0 : World} {es fs : List Ent} {t : TypeId} {sz n cap g : Nat} {xs : List Value} (ho : Own w0 w es fs) (he : ⟨t, sz, .slice (some ⟨g, 0, none⟩) n cap, n, xs⟩ ∈ es ++ fs) (j : Nat) (u : Value) : IsMap (w.setCell ⟨g, j, none⟩ u) b o := by
  refine ⟨?_, h.2⟩
  have hne : b ≠ g := fun e => by subst e; exact own_not_map ho h _ he rfl
  rw [heap_setCell_other w _ b _ hne]
  exact h.1
/-- 'l = append(l, ..)' onto the first row beside a map, at the operation. -/
theorem wp_own_append_g {w0 w : World} {o : Oper} {a : Act} {K : Act → World → Prop} {Q : Exit → Act → World → Prop} (s x : Operand) (tt : TypeId)
    (ho : o.op = .call { callee := .builtin .append, args := #[s, x], argTypes := #[tt, tt] }) {t : TypeId} {sz bytes : Nat} {z : Value} (ht : Try.prog.underlying tt = some (.slice t))
    (hinfo : (Try.prog.info? t).map (fun i => (i.zero, i.size, i.bytes)) = some (some z, sz, bytes)) (hzs : z.cells.size = sz) (hsz : 0 < sz)
    {v : Value} {n : Nat} {xs : List Value} {es fs : List Ent} (hs : a.eval s = v) (h : Own w0 w (⟨t, sz, v, n, xs⟩ :: es) fs) {b : Nat} {ob : Obj} (hb : IsMap w b ob)
    {ad : Addr} {m c : Nat} (news : List Value) (hx : a.eval x = .slice (some ad) m c) (hl : news.length = m * sz) (hnews : ∀ j u, news[j]? = some u → w.cell? (ad.add j) = some u) (h1 : ∀ u ∈ news, u.oneCell' = true)
    (hm : 0 < m) (h63 : n + m ≤ maxLen) (hbytes : (n + m) * bytes ≤ 140737488355328)
    (hK : ∀ g cap w', Own w0 w' (⟨t, sz, .slice (some ⟨g, 0, none⟩) (n + m) cap, n + m, xs ++ news⟩ :: es) fs → IsMap w' b ob → K (a.put o.dst (.slice (some ⟨g, 0, none⟩) (n + m) cap)) w') : o.wp Try.prog a w K Q := by
  obtain ⟨i0, hi, hz0, hz1, hz2⟩ := info_parts hinfo
  have hh := h.each _ (List.mem_cons_self)
  obtain ⟨a1, a2⟩ := List.pairwise_cons.1 h.apart
  refine wp_append_lies w s x tt ho w0.heap.size t i0 z sz bytes ht hi hz0 hz1 hz2 hzs hsz v n xs hs hh ad m c news hx hl hnews h1 hm h63 hbytes h.below.size _ rfl ?_
  intro g cap w' hown hg hat hlt
  have keep : ∀ e : Ent, far ⟨t, sz, v, n, xs⟩ e → w.ownsRow w0.heap.size e.t e.sz e.v e.n e.xs → w'.ownsRow w0.heap.size e.t e.sz e.v e.n e.xs := fun e hf ho => by
    refine ho.kept hg ?_
    rcases far_symm hf with hf | hf
    · exact .inl hf
    · exact .inr hf
  have apart : ∀ e : Ent, far ⟨t, sz, v, n, xs⟩ e → w.ownsRow w0.heap.size e.t e.sz e.v e.n e.xs → far ⟨t, sz, .slice (some ⟨g, 0, none⟩) (n + m) cap, n + m, xs ++ news⟩ e := fun b hf ho => by
    right
    intro e
    have e' : some g = b.v.ownBlock := e
    rcases hat with hat | hat
    · unfold far at hf
      simp only [hat, ← e'] at hf
      simp at hf
    · have := ho.lt g e'.symm
      omega
  refine hK g cap w' ⟨h.below.grown hg h.below.size (fun k hk => (hh.lt k hk).1), fun e he => ?_, fun e he => ?_, List.pairwise_cons.2 ⟨fun b hb => ?_, a2⟩, fun e he f hf => ?_⟩ ⟨?_, hb.2⟩
  · rcases List.mem_cons.1 he with rfl | he
    · exact hown
    · exact keep e (a1 e he) (h.each e (List.mem_cons_of_mem _ he))
  · exact keep e (h.off _ List.mem_cons_self e he) (h.done e he)
  · exact apart b (a1 b hb) (h.each b (List.mem_cons_of_mem _ hb))
  · rcases List.mem_cons.1 he with rfl | he
    · exact apart f (h.off _ List.mem_cons_self f hf) (h.done f hf)
    · exact h.off e (List.mem_cons_of_mem _ he) f hf
  · rw [hg.block b hb.lt (fun e => row_not_map hh hb e.symm)]; exact hb.1
/-- The same of what was just laid into a block for it. -/
theorem wp_own_append_lit_g {w0 w : World} {o : Oper} {a : Act} {K : Act → World → Prop} {Q : Exit → Act → World → Prop} (s x : Operand) (tt : TypeId)
    (ho : o.op = .call { callee := .builtin .append, args := #[s, x], argTypes := #[tt, tt] }) {t : TypeId} {sz bytes : Nat} {z : Value} (ht : Try.prog.underlying tt = some (.slice t))
    (hinfo : (Try.prog.info? t).map (fun i => (i.zero, i.size, i.bytes)) = some (some z, sz, bytes)) (hzs : z.cells.size = sz) (hsz : 0 < sz)
    {v : Value} {n : Nat} {xs : List Value} {es fs : List Ent} (hs : a.eval s = v) (h : Own w0 w (⟨t, sz, v, n, xs⟩ :: es) fs) {b : Nat} {ob : Obj} (hb : IsMap w b ob)
    {c m : Nat} {cs : Array Value} {t' : TypeId} (hx : a.eval x = .slice (some ⟨w.heap.size, 0, none⟩) m c) (hl : cs.size = m * sz) (h1 : ∀ u ∈ cs.toList, u.oneCell' = true)
    (hm : 0 < m) (h63 : n + m ≤ maxLen) (hbytes : (n + m) * bytes ≤ 140737488355328)
    (hK : ∀ g cap w', Own w0 w' (⟨t, sz, .slice (some ⟨g, 0, none⟩) (n + m) cap, n + m, xs ++ cs.toList⟩ :: es) fs → IsMap w' b ob → K (a.put o.dst (.slice (some ⟨g, 0, none⟩) (n + m) cap)) w') : o.wp Try.prog a (w.alloc (.cells cs t')) K Q :=
  wp_own_append_g s x tt ho ht hinfo hzs hsz hs (h.alloc _) (hb.on (below_alloc _ _)) cs.toList hx (by simpa using hl) (World.news_of_block (heap_alloc_new w _)) h1 hm h63 hbytes hK
/-- 'append(l, row)' of one row of ints. -/
theorem own_row_g {w0 w : World} {ops : Array Oper} {rest : List Oper} {o : Oper} {a : Act} {Q : Exit → Act → World → Prop} (hgd : o.guard = none) (s x : Operand)
    (ho : o.op = .call { callee := .builtin .append, args := #[s, x], argTypes := #[22, 22] })
    {v : Value} {l : List Value} {es fs : List Ent} (hs : a.eval s = v) (h : Own w0 w (eRows v l :: es) fs) {b : Nat} {ob : Obj} (hb : IsMap w b ob) {y : Value} (hy : y.oneCell' = true) {t' : TypeId} (hx : a.eval x = .slice (some ⟨w.heap.size, 0, none⟩) 1 1) (hl : l.length < 1099511627776)
    (hK : ∀ g cap w', Own w0 w' (eRows (.slice (some ⟨g, 0, none⟩) (l.length + 1) cap) (l ++ [y]) :: es) fs → IsMap w' b ob → wpList Try.prog ops Q rest (a.put o.dst (.slice (some ⟨g, 0, none⟩) (l.length + 1) cap)) w') : wpList Try.prog ops Q (o :: rest) a (w.alloc (.cells #[y] t')) := by
  refine wpList_plain hgd fun _ hK' => ?_
  refine wp_own_append_lit_g s x _ ho Try.underlying22 infoRow rfl (by decide) hs h hb hx rfl (fun u hu => by simp at hu; subst hu; exact hy) (by omega) (by unfold maxLen; omega) (by omega) ?_
  intro g cap w' ho hm
  refine hK' _ _ (hK g cap w' ?_ hm)
  unfold eRows
  simpa using ho
theorem step_own_row_g {w0 w : World} {ops : Array Oper} {o : Oper} {a : Act} {K : Act → World → Prop} {Q : Exit → Act → World → Prop} {E : Prop} (hgd : o.guard = none) (s x : Operand)
    (ho : o.op = .call { callee := .builtin .append, args := #[s, x], argTypes := #[22, 22] })
    {v : Value} {l : List Value} {es fs : List Ent} (hs : a.eval s = v) (h : Own w0 w (eRows v l :: es) fs) {b : Nat} {ob : Obj} (hb : IsMap w b ob) {y : Value} (hy : y.oneCell' = true) {t' : TypeId} (hx : a.eval x = .slice (some ⟨w.heap.size, 0, none⟩) 1 1) (hl : l.length < 1099511627776)
    (hK : ∀ g cap w', Own w0 w' (eRows (.slice (some ⟨g, 0, none⟩) (l.length + 1) cap) (l ++ [y]) :: es) fs → IsMap w' b ob → K (a.put o.dst (.slice (some ⟨g, 0, none⟩) (l.length + 1) cap)) w') : if Region.wanted o (yielded ops a.tmps) = true then Oper.wp Try.prog o a (w.alloc (.cells #[y] t')) K Q else E := by
  have hw : Region.wanted o (yielded ops a.tmps) = true := by simp [Region.wanted, hgd]
  rw [if_pos hw]
  refine wp_own_append_lit_g s x _ ho Try.underlying22 infoRow rfl (by decide) hs h hb hx rfl (fun u hu => by simp at hu; subst hu; exact hy) (by omega) (by unfold maxLen; omega) (by omega) ?_
  intro g cap w' ho hm
  refine hK g cap w' ?_ hm
  unfold eRows
  simpa using ho
theorem step_own_bool_g {w0 w : World} {ops : Array Oper} {o : Oper} {a : Act} {K : Act → World → Prop} {Q : Exit → Act → World → Prop} {E : Prop} (hgd : o.guard = none) (s x : Operand)
    (ho : o.op = .call { callee := .builtin .append, args := #[s, x], argTypes := #[23, 23] })
    {v : Value} {l : List Bool} {es fs : List Ent} (hs : a.eval s = v) (h : Own w0 w (eBools v l :: es) fs) {b : Nat} {ob : Obj} (hb : IsMap w b ob) {y : Bool} {t' : TypeId} (hx : a.eval x = .slice (some ⟨w.heap.size, 0, none⟩) 1 1) (hl : l.length < 17592186044416)
    (hK : ∀ g cap w', Own w0 w' (eBools (.slice (some ⟨g, 0, none⟩) (l.length + 1) cap) (l ++ [y]) :: es) fs → IsMap w' b ob → K (a.put o.dst (.slice (some ⟨g, 0, none⟩) (l.length + 1) cap)) w') : if Region.wanted o (yielded ops a.tmps) = true then Oper.wp Try.prog o a (w.alloc (.cells #[.bool y] t')) K Q else E := by
  have hw : Region.wanted o (yielded ops a.tmps) = true := by simp [Region.wanted, hgd]
  rw [if_pos hw]
  refine wp_own_append_lit_g s x _ ho Try.underlying23 infoBool rfl (by decide) hs h hb hx rfl (fun u hu => by simp at hu; subst hu; rfl) (by omega) (by unfold maxLen; omega) (by omega) ?_
  intro g cap w' ho hm
  refine hK g cap w' ?_ hm
  unfold eBools
  simpa using ho
end Go.Proofs.Ytfiknbdpjnpkdaa.Mp

namespace Go.Proofs.Ytfiknbdpjnpkdaa.Df
open Go.RowKit Go.IntWalk Go.Proofs.Ytfiknbdpjnpkdaa.Wd Go.Proofs.Ytfiknbdpjnpkdaa.Wo Go.Proofs.Ytfiknbdpjnpkdaa.Mp
open Go.Maps (Keyed)

theorem srow_small {α : Type} [DecidableEq α] (S : α → List α) (l : List α) (h : l.length ≤ 40) : ∀ r ∈ l.map (srow S l), ∀ x ∈ r, Small x := by
  intro r hr x hx
  obtain ⟨y, _, rfl⟩ := List.mem_map.1 hr
  obtain ⟨t, _, rfl⟩ := List.mem_map.1 hx
  have : num l t ≤ l.length := List.idxOf_le_length
  exact ⟨by omega, by omega⟩
theorem map_same {P : Program} {k e : TypeId} {α β : Type} {K : α → Value} {L : β → Lit} {w w' : World} {b n m : Nat} {f : α → Option β} {o : Obj} (h : MapIs P k e K L w b n m f) (h1 : IsMap w b o) (h2 : IsMap w' b o) : MapIs P k e K L w' b n m f := h.of_block (h2.1.trans h1.1.symm)
/-- What the map holds: the numbers of what is found. -/
def xf {α : Type} [DecidableEq α] (l : List α) (y : α) : Option Int := if y ∈ l then some ((num l y : Nat) : Int) else none
theorem xf_at {α : Type} [DecidableEq α] {l : List α} {t : α} (h : t ∈ l) : xf l t = some ((num l t : Nat) : Int) := if_pos h
theorem xf_no {α : Type} [DecidableEq α] {l : List α} {t : α} (h : t ∉ l) : xf l t = none := if_neg h
theorem xf_new {α : Type} [DecidableEq α] {l : List α} {t : α} (h : t ∉ l) : (fun y => if y = t then some ((l.length : Nat) : Int) else xf l y) = xf (l ++ [t]) := by
  funext y
  unfold xf
  by_cases e : y = t
  · subst e
    rw [if_pos rfl, if_pos (by simp), idx_new h]
  · rw [if_neg e]
    by_cases hy : y ∈ l
    · rw [if_pos hy, if_pos (List.mem_append_left _ hy), idx_append hy]
    · rw [if_neg hy, if_neg (fun q => (List.mem_append.1 q).elim hy (fun q => e (List.mem_singleton.1 q)))]
theorem xf_one {α : Type} [DecidableEq α] (t : α) : (fun y => if y = t then some (0 : Int) else (fun _ => none) y) = xf [t] := by
  have h := xf_new (l := []) (t := t) (by simp)
  have e : xf ([] : List α) = fun _ => none := by funext y; unfold xf; simp
  rw [e] at h
  exact h

/-! ### sets and pairs -/
def SetsAt (w : World) (B : Nat) (A : Option Addr) (l : List Nat) : Prop := Cells w B A (l.map fun x => .int .u64 ((x : Nat) : Int))
theorem SetsAt.at_ {w : World} {B : Nat} {A : Option Addr} {l : List Nat} (h : SetsAt w B A l) {k : Nat} {p : Nat} (hk : l[k]? = some p) : ∃ ad, A = some ad ∧ ad.block < B ∧ w.cell? (ad.add k) = some (.int .u64 ((p : Nat) : Int)) := h k _ (by rw [List.getElem?_map, hk]; rfl)
abbrev KS (x : Nat) : Value := .int .u64 ((x : Nat) : Int)
abbrev KP (p : Nat × Nat) : Value := .agg #[.int .i64 ((p.1 : Nat) : Int), .int .i64 ((p.2 : Nat) : Int)]
theorem KS_inj : ∀ x y : Nat, KS x = KS y → x = y := fun x y h => by simp only [Value.int.injEq, true_and] at h; omega
theorem KP_inj : ∀ x y : Nat × Nat, KP x = KP y → x = y := fun x y h => by
  simp at h
  exact Prod.ext (by omega) (by omega)
/-- Between two states. -/
def EOut {α : Type} [DecidableEq α] (tk : TypeId) (K : α → Value) (eS : Value → List α → Ent) (S : α → List α) (a : α) (fin : α → Bool) (n : Nat) (w0 wr : World) (g gr gm i : Nat) (pv : Value) : Prop :=
  ∃ l nv fv rs, Part S a i l ∧ Build w0 wr g (eDfa gr zero4 :: eS pv l :: []) (n : Int) 0 ((l.take i).map (srow S l)) ((l.take i).map fin) nv fv rs ∧ w0.heap.size ≤ gm ∧ MapIs Try.prog tk 3 K (Lit.int .i64) wr gm l.length l.length (xf l)
/-- Within a state: c letters are done. -/
def EIn {α : Type} [DecidableEq α] (tk : TypeId) (K : α → Value) (eS : Value → List α → Ent) (S : α → List α) (fin : α → Bool) (n : Nat) (xs : List Ent) (w0 wi : World) (g gr gm gw k : Nat) (l : List α) (p : α) (c : Nat) (nv fv : Value) (rs : List (Value × List Int)) (pv : Value) : Prop :=
  Own w0 wi (eS pv (addAll l ((S p).take c)) :: eInts (.slice (some ⟨gw, 0, none⟩) n n) (prow S l p n c) :: eRows nv (rs.map (·.1)) :: eBools fv ((l.take k).map fin) :: eDfa g [.int .i64 (n : Int), .int .i64 0, nv, fv] :: eDfa gr zero4 :: xs) (eEach rs) ∧
    w0.heap.size ≤ gm ∧ MapIs Try.prog tk 3 K (Lit.int .i64) wi gm (addAll l ((S p).take c)).length (addAll l ((S p).take c)).length (xf (addAll l ((S p).take c)))
section
variable {α : Type} [DecidableEq α] {tk : TypeId} {K : α → Value} {eS : Value → List α → Ent} {S : α → List α} {fin : α → Bool} {n : Nat} {xs : List Ent} {w0 wi : World} {g gr gm gw k : Nat} {l : List α} {p : α} {c : Nat} {nv fv pv : Value} {rs : List (Value × List Int)}
theorem EIn.on {w' : World} (h : EIn tk K eS S fin n xs w0 wi g gr gm gw k l p c nv fv rs pv) (hb : Below wi.heap.size wi w') : EIn tk K eS S fin n xs w0 w' g gr gm gw k l p c nv fv rs pv := ⟨h.1.on hb, h.2.1, h.2.2.on hb h.2.2.lt⟩
theorem addTo_old {l : List α} {t : α} (h : t ∈ l) : addTo l t = l := by unfold addTo; rw [if_pos h]
theorem addTo_new {l : List α} {t : α} (h : t ∉ l) : addTo l t = l ++ [t] := by unfold addTo; rw [if_neg h]
/-- A letter's number is stored. -/
theorem EIn.put {w9 : World} {t : α} {cur : List α} (hc : addTo (addAll l ((S p).take c)) t = cur) (ht : (S p)[c]? = some t) (hn : c < n) (hl : (prow S l p n c).length = n)
    (ho : Own w0 w9 (eS pv cur :: eInts (.slice (some ⟨gw, 0, none⟩) n n) (prow S l p n c) :: eRows nv (rs.map (·.1)) :: eBools fv ((l.take k).map fin) :: eDfa g [.int .i64 (n : Int), .int .i64 0, nv, fv] :: eDfa gr zero4 :: xs) (eEach rs))
    (hg : w0.heap.size ≤ gm) (hm : MapIs Try.prog tk 3 K (Lit.int .i64) w9 gm cur.length cur.length (xf cur)) {z : Nat} (hz : num cur t = z) :
    EIn tk K eS S fin n xs w0 (w9.setCell ⟨gw, c, none⟩ (.int .i64 ((z : Nat) : Int))) g gr gm gw k l p (c + 1) nv fv rs pv := by
  subst hc
  subst hz
  obtain ⟨ob, hob⟩ := hm.isMap
  have him := isMap_set (t := 3) (sz := 1) (n := n) (cap := n) (g := gw) (xs := (prow S l p n c).map i64) hob ho (by rw [← hl]; simp [eInts, hl]) c (.int .i64 ((num (addTo (addAll l ((S p).take c)) t) t : Nat) : Int))
  have h7 := (own_ints_set ho.two hl c ((num (addTo (addAll l ((S p).take c)) t) t : Nat) : Int)).two
  rw [prow_step ht hn] at h7
  refine ⟨?_, hg, ?_⟩
  · rw [addAll_succ ht]; exact h7
  · rw [addAll_succ ht]; exact map_same hm hob him
end
end Go.Proofs.Ytfiknbdpjnpkdaa.Df
