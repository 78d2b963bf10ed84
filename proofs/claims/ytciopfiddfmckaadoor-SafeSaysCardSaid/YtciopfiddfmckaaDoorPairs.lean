/- What package small's search keeps: pairs as keys of a map; rows of pairs with words. -/
import Derived.Test.YtciopfiddfmckaaDoorMaps
import Derived.Test.YtciopfiddfmckaaDoorSmallT
import Derived.Test.YtciopfiddfmckaaDoorSearch
import Derived.Test.YtciopfiddfmckaaDoorRegL

namespace Go.Proofs.YtciopfiddfmckaaDoor.Mp
open Go.RowKit Go.IntWalk Go.Proofs.YtciopfiddfmckaaDoor.Wd Go.Proofs.YtciopfiddfmckaaDoor.Wo Go.Proofs.YtciopfiddfmckaaDoor.Df Go.Proofs.YtciopfiddfmckaaDoor.Rc Go.Proofs.YtciopfiddfmckaaDoor.Sm
open Go.Maps (Keyed)
open Go.WideMaps (ArrKey)

/-! ### pairs -/
def K2 (p : Pr) : Value := .agg #[.int .i64 ((p.1 : Nat) : Int), .int .i64 ((p.2 : Nat) : Int)]
theorem K2_inj : ∀ x y : Pr, K2 x = K2 y → x = y := fun x y h => by
  unfold K2 at h
  simp at h
  exact Prod.ext (by omega) (by omega)
theorem arr2 : ArrKey Tryd.prog 131 3 2 := ⟨Tryd.underlying131, by kernel_rfl, by kernel_rfl, by kernel_rfl⟩
theorem keyed2 : Keyed Tryd.prog 131 := Keyed.of_law arr2.law
theorem K2_key (p : Pr) (h : p.1 < 4294967296 ∧ p.2 < 4294967296) : ∃ kl, keyOf Tryd.prog 131 (K2 p) = some kl := by
  have := arr_key arr2 Tryd.underlying3 types_pos (cs := [((p.1 : Nat) : Int), ((p.2 : Nat) : Int)]) rfl (fun x hx => by
    simp at hx; unfold wfI; rcases hx with rfl | rfl <;> omega)
  exact this
/-- Which pairs are known. -/
def kn (l : List (Fg Pr)) (p : Pr) : Option Bool := if knownG l p then some true else none
theorem kn_get (l : List (Fg Pr)) (p : Pr) : ((kn l p).getD false) = decide (knownG l p) := by
  unfold kn
  by_cases h : knownG l p <;> simp [h]
theorem knownG_snoc (l : List (Fg Pr)) (x : Fg Pr) (t : Pr) : knownG (l ++ [x]) t ↔ knownG l t ∨ t = x.1 := by unfold knownG; simp
theorem kn_snoc (l : List (Fg Pr)) (x : Fg Pr) : (fun y => if y = x.1 then some true else kn l y) = kn (l ++ [x]) := by
  funext y
  unfold kn
  by_cases e : y = x.1
  · rw [if_pos e, if_pos ((knownG_snoc l x y).2 (.inr e))]
  · rw [if_neg e]
    by_cases h : knownG l y
    · rw [if_pos h, if_pos ((knownG_snoc l x y).2 (.inl h))]
    · rw [if_neg h, if_neg (fun q => ((knownG_snoc l x y).1 q).elim h e)]
/-- The map of the known pairs. -/
def Knows (w : World) (b : Nat) (l : List (Fg Pr)) : Prop := ∃ m, MapIs Tryd.prog 131 4 K2 Lit.bool w b l.length m (kn l)

/-! ### rows of them -/
abbrev Fq := Fg Pr × Value
def qcells (l : List Fq) : List Value := l.flatMap fun p => [.int .i64 ((p.1.1.1 : Nat) : Int), .int .i64 ((p.1.1.2 : Nat) : Int), p.2]
def eFq (v : Value) (l : List Fq) : Ent := ⟨134, 3, v, l.length, qcells l⟩
def eEachQ (l : List Fq) : List Ent := l.map fun p => eInts p.2 p.1.2
theorem qcells_append (l m : List Fq) : qcells (l ++ m) = qcells l ++ qcells m := List.flatMap_append
theorem qcells_get : ∀ (l : List Fq) (k : Nat) (p : Fq), l[k]? = some p → (qcells l)[k * 3]? = some (.int .i64 ((p.1.1.1 : Nat) : Int)) ∧ (qcells l)[k * 3 + 1]? = some (.int .i64 ((p.1.1.2 : Nat) : Int)) ∧ (qcells l)[k * 3 + 2]? = some p.2
  | [], k, p, h => by simp at h
  | q :: l, 0, p, h => by
    simp only [List.getElem?_cons_zero, Option.some.injEq] at h
    subst h
    exact ⟨rfl, rfl, rfl⟩
  | q :: l, k + 1, p, h => by
    rw [List.getElem?_cons_succ] at h
    have := qcells_get l k p h
    have e : qcells (q :: l) = .int .i64 ((q.1.1.1 : Nat) : Int) :: .int .i64 ((q.1.1.2 : Nat) : Int) :: q.2 :: qcells l := rfl
    rw [e, show (k + 1) * 3 = k * 3 + 1 + 1 + 1 by omega]
    simpa using this
theorem infoQ : (Tryd.prog.info? 134).map (fun i => (i.zero, i.size, i.bytes)) = some (some (.agg #[.int .i64 0, .int .i64 0, .slice none 0 0]), 3, 40) := by kernel_rfl
theorem own_fq {w0 w : World} {es fs : List Ent} (h : Own w0 w es fs) {v : Value} {l : List Fq} (he : eFq v l ∈ es ++ fs) :
    ∃ A cap, v = .slice A l.length cap ∧ l.length ≤ cap ∧ cap ≤ 9223372036854775807 ∧ Cells w w.heap.size A (qcells l) := by
  obtain ⟨A, cap, hv, h1, h2, _⟩ := h.form he
  simp only [eFq] at hv h1
  subst hv
  unfold maxLen at h2
  exact ⟨A, cap, rfl, h1, h2, h.cells he⟩
theorem fq_at {w : World} {B : Nat} {A : Option Addr} {l : List Fq} (h : Cells w B A (qcells l)) {k : Nat} {p : Fq} (hk : l[k]? = some p) :
    ∃ ad, A = some ad ∧ ad.block < B ∧ w.cell? (ad.add (k * 3)) = some (.int .i64 ((p.1.1.1 : Nat) : Int)) ∧ w.cell? ⟨(ad.add (k * 3)).block, (ad.add (k * 3)).off + 1, none⟩ = some (.int .i64 ((p.1.1.2 : Nat) : Int)) ∧ w.cell? ⟨(ad.add (k * 3)).block, (ad.add (k * 3)).off + 2, none⟩ = some p.2 := by
  obtain ⟨h1, h2, h3⟩ := qcells_get l k p hk
  obtain ⟨ad, e, h4, h5⟩ := h _ _ h1
  obtain ⟨ad2, e2, _, h6⟩ := h _ _ h2
  obtain ⟨ad3, e3, _, h7⟩ := h _ _ h3
  obtain rfl := Option.some.inj (e.symm.trans e2)
  obtain rfl := Option.some.inj (e.symm.trans e3)
  refine ⟨ad, e, h4, h5, ?_, ?_⟩
  · rw [← Addr.add_succ' (ad.add (k * 3)) 0, Addr.add_add]; exact h6
  · rw [← Addr.add_succ' (ad.add (k * 3)) 1, Addr.add_add]; exact h7
theorem step_own_found2 {w0 w : World} {ops : Array Oper} {o : Oper} {a : Act} {K : Act → World → Prop} {Q : Exit → Act → World → Prop} {E : Prop} (hgd : o.guard = none) (s x : Operand)
    (ho : o.op = .call { callee := .builtin .append, args := #[s, x], argTypes := #[135, 135] })
    {v : Value} {l : List Fq} {es fs : List Ent} (hs : a.eval s = v) (h : Own w0 w (eFq v l :: es) fs) {p : Fq} (hp : p.2.oneCell' = true) {t' : TypeId} (hx : a.eval x = .slice (some ⟨w.heap.size, 0, none⟩) 1 1) (hb : l.length < 1099511627776)
    (hK : ∀ g cap w', Own w0 w' (eFq (.slice (some ⟨g, 0, none⟩) (l.length + 1) cap) (l ++ [p]) :: es) fs → K (a.put o.dst (.slice (some ⟨g, 0, none⟩) (l.length + 1) cap)) w') : if Region.wanted o (yielded ops a.tmps) = true then Oper.wp Tryd.prog o a (w.alloc (.cells #[.int .i64 ((p.1.1.1 : Nat) : Int), .int .i64 ((p.1.1.2 : Nat) : Int), p.2] t')) K Q else E := by
  refine step_own_append_lit hgd s x _ ho Tryd.underlying135 infoQ rfl (by decide) hs h hx rfl (fun u hu => by simp at hu; rcases hu with rfl | rfl | rfl; rfl; rfl; exact hp) (by omega) (by unfold maxLen; omega) (by omega) ?_
  intro g cap w' ho
  refine hK g cap w' ?_
  unfold eFq
  rw [qcells_append]
  simpa [qcells] using ho
/-- 'append(l, z)', what is appended laid ahead. -/
theorem step_own_ints1 {w0 w : World} {ops : Array Oper} {o : Oper} {a : Act} {K : Act → World → Prop} {Q : Exit → Act → World → Prop} {E : Prop} (hgd : o.guard = none) (s x : Operand)
    (ho : o.op = .call { callee := .builtin .append, args := #[s, x], argTypes := #[38, 38] })
    {v : Value} {l : List Int} {es fs : List Ent} (hs : a.eval s = v) (h : Own w0 w (eInts v l :: es) fs) {y : Int} {gz : Nat} (hm : eInts (rV gz 1) [y] ∈ es) (hx : a.eval x = .slice (some ⟨gz, 0, none⟩) 1 1) (hb : l.length < 17592186044416)
    (hK : ∀ g cap w', Own w0 w' (eInts (.slice (some ⟨g, 0, none⟩) (l.length + 1) cap) (l ++ [y]) :: es) fs → K (a.put o.dst (.slice (some ⟨g, 0, none⟩) (l.length + 1) cap)) w') : if Region.wanted o (yielded ops a.tmps) = true then Oper.wp Tryd.prog o a w K Q else E := by
  have hc := (own_ints_cell (g := gz) (n := 1) (cap := 1) (l := [y]) h (List.mem_append_left _ (List.mem_cons_of_mem _ hm)) rfl (j := 0) rfl).1
  refine step_own_append hgd s x _ ho Tryd.underlying38 infoI rfl (by decide) hs h [.int .i64 y] hx (by simp) (fun j u hj => ?_) (fun u hu => by simp at hu; subst hu; rfl) (by omega) (by unfold maxLen; omega) (by omega) ?_
  · rcases j with _ | j
    · simp at hj; subst hj
      exact hc
    · simp at hj
  intro g cap w' ho
  refine hK g cap w' ?_
  unfold eInts
  simpa [i64] using ho
/-- Two may come up. -/
theorem wpZ_two {P : Program} {ops : Array Oper} {Q : Exit → Act → World → Prop} {md : Region.Mode} {S : World → Prop} {z i j : Nat} {oi oj : Oper} {n : Nat} {listed : Array Bool} {a : Act} {w : World} (hi : ops[i]? = some oi) (hj : ops[j]? = some oj) (hr : Region.ready md ops listed = [i, j])
    (h1 : ∀ K : Act → World → Prop, Shut (∀ b u, (i ≠ z → S u) → ((i ≠ z → S u) → wpZ P md ops Q S z n (listed.setIfInBounds i true) b u) → K b u) →
      if Region.wanted oi (yielded ops a.tmps) = true then Oper.wp P oi a w K Q else K (a.put oi.dst undef) w)
    (h2 : ∀ K : Act → World → Prop, Shut (∀ b u, (j ≠ z → S u) → ((j ≠ z → S u) → wpZ P md ops Q S z n (listed.setIfInBounds j true) b u) → K b u) →
      if Region.wanted oj (yielded ops a.tmps) = true then Oper.wp P oj a w K Q else K (a.put oj.dst undef) w) : wpZ P md ops Q S z (n + 1) listed a w :=
  ⟨fun e => (by rw [hr] at e; cases e), fun k hk => by
    rw [hr] at hk
    rcases List.mem_cons.1 hk with rfl | hk
    · exact wpOp_step hi fun K hK => h1 K fun b u hS hW => hK b u ⟨hS, hW hS⟩
    · obtain rfl := List.mem_singleton.1 hk
      exact wpOp_step hj fun K hK => h2 K fun b u hS hW => hK b u ⟨hS, hW hS⟩⟩
def nilQ (rs : List Fq) : Prop := ∀ p ∈ rs, p.1.2 = [] → p.2 = .slice none 0 0
theorem nilQ_snoc {rs : List Fq} (h : nilQ rs) (t : Pr) (w : List Int) (a : Int) (v : Value) : nilQ (rs ++ [((t, w ++ [a]), v)]) := fun p hp => by
  rcases List.mem_append.1 hp with hp | hp
  · exact h p hp
  · simp at hp; subst hp; intro e; simp at e
theorem eEachQ_snoc (rs : List Fq) (p : Fq) : eEachQ (rs ++ [p]) = eEachQ rs ++ [eInts p.2 p.1.2] := by unfold eEachQ; rw [List.map_append]; rfl
end Go.Proofs.YtciopfiddfmckaaDoor.Mp
