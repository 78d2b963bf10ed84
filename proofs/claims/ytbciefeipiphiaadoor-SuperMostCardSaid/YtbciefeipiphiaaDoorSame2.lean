/- What package small's search keeps: pairs as keys of a map; rows of pairs with words. The walk of package small's difference. The walk of package small's Same. -/
import Derived.Test.YtbciefeipiphiaaDoorMaps
import Derived.Test.YtbciefeipiphiaaDoorSmallT
import Derived.Test.YtbciefeipiphiaaDoorFirst
import Derived.Test.YtbciefeipiphiaaDoorRegL

namespace Go.Proofs.YtbciefeipiphiaaDoor.Mp
open Go.RowKit Go.IntWalk Go.Proofs.YtbciefeipiphiaaDoor.Wd Go.Proofs.YtbciefeipiphiaaDoor.Wo Go.Proofs.YtbciefeipiphiaaDoor.Df Go.Proofs.YtbciefeipiphiaaDoor.Rc Go.Proofs.YtbciefeipiphiaaDoor.Sm
open Go.Maps (Keyed)
open Go.WideMaps (ArrKey)

/-! ### pairs -/
def K2 (p : Pr) : Value := .agg #[.int .i64 ((p.1 : Nat) : Int), .int .i64 ((p.2 : Nat) : Int)]
theorem K2_inj : ∀ x y : Pr, K2 x = K2 y → x = y := fun x y h => by
  unfold K2 at h
  simp at h
  exact Prod.ext (by omega) (by omega)
/-- Which pairs are known. -/
def kn (l : List (Fg Pr)) (p : Pr) : Option Bool := if knownG l p then some true else none
theorem kn_get (l : List (Fg Pr)) (p : Pr) : ((kn l p).getD false) = decide (knownG l p) := by
  unfold kn
  by_cases h : knownG l p <;> simp [h]
theorem knownG_snoc (l : List (Fg Pr)) (x : Fg Pr) (t : Pr) : knownG (l ++ [x]) t ↔ knownG l t ∨ t = x.1 := by unfold knownG; simp
theorem kn_snoc (l : List (Fg Pr)) (x : Fg Pr) : (fun y => if y = x.1 then some true else kn l y) = kn (l ++ [x]) := by
  funext y
  unfold kn
  by_cases e : y = x.1
  · rw [if_pos e, if_pos ((knownG_snoc l x y).2 (.inr e))]
  · rw [if_neg e]
    by_cases h : knownG l y
    · rw [if_pos h, if_pos ((knownG_snoc l x y).2 (.inl h))]
    · rw [if_neg h, if_neg (fun q => ((knownG_snoc l x y).1 q).elim h e)]
/-! ### rows of them -/
abbrev Fq := Fg Pr × Value
def qcells (l : List Fq) : List Value := l.flatMap fun p => [.int .i64 ((p.1.1.1 : Nat) : Int), .int .i64 ((p.1.1.2 : Nat) : Int), p.2]
def eEachQ (l : List Fq) : List Ent := l.map fun p => eInts p.2 p.1.2
theorem qcells_append (l m : List Fq) : qcells (l ++ m) = qcells l ++ qcells m := List.flatMap_append
theorem qcells_get : ∀ (l : List Fq) (k : Nat) (p : Fq), l[k]? = some p → (qcells l)[k * 3]? = some (.int .i64 ((p.1.1.1 : Nat) : Int)) ∧ (qcells l)[k * 3 + 1]? = some (.int .i64 ((p.1.1.2 : Nat) : Int)) ∧ (qcells l)[k * 3 + 2]? = some p.2
  | [], k, p, h => by simp at h
  | q :: l, 0, p, h => by
    simp only [List.getElem?_cons_zero, Option.some.injEq] at h
    subst h
    exact ⟨rfl, rfl, rfl⟩
  | q :: l, k + 1, p, h => by
    rw [List.getElem?_cons_succ] at h
    have := qcells_get l k p h
    have e : qcells (q :: l) = .int .i64 ((q.1.1.1 : Nat) : Int) :: .int .i64 ((q.1.1.2 : Nat) : Int) :: q.2 :: qcells l := rfl
    rw [e, show (k + 1) * 3 = k * 3 + 1 + 1 + 1 by omega]
    simpa using this
theorem fq_at {w : World} {B : Nat} {A : Option Addr} {l : List Fq} (h : Cells w B A (qcells l)) {k : Nat} {p : Fq} (hk : l[k]? = some p) :
    ∃ ad, A = some ad ∧ ad.block < B ∧ w.cell? (ad.add (k * 3)) = some (.int .i64 ((p.1.1.1 : Nat) : Int)) ∧ w.cell? ⟨(ad.add (k * 3)).block, (ad.add (k * 3)).off + 1, none⟩ = some (.int .i64 ((p.1.1.2 : Nat) : Int)) ∧ w.cell? ⟨(ad.add (k * 3)).block, (ad.add (k * 3)).off + 2, none⟩ = some p.2 := by
  obtain ⟨h1, h2, h3⟩ := qcells_get l k p hk
  obtain ⟨ad, e, h4, h5⟩ := h _ _ h1
  obtain ⟨ad2, e2, _, h6⟩ := h _ _ h2
  obtain ⟨ad3, e3, _, h7⟩ := h _ _ h3
  obtain rfl := Option.some.inj (e.symm.trans e2)
  obtain rfl := Option.some.inj (e.symm.trans e3)
  refine ⟨ad, e, h4, h5, ?_, ?_⟩
  · rw [← Addr.add_succ' (ad.add (k * 3)) 0, Addr.add_add]; exact h6
  · rw [← Addr.add_succ' (ad.add (k * 3)) 1, Addr.add_add]; exact h7
/-- 'append(l, z)', what is appended laid ahead. -/
theorem step_own_ints1 {w0 w : World} {ops : Array Oper} {o : Oper} {a : Act} {K : Act → World → Prop} {Q : Exit → Act → World → Prop} {E : Prop} (hgd : o.guard = none) (s x : Operand)
    (ho : o.op = .call { callee := .builtin .append, args := #[s, x], argTypes := #[27, 27] })
    {v : Value} {l : List Int} {es fs : List Ent} (hs : a.eval s = v) (h : Own w0 w (eInts v l :: es) fs) {y : Int} {gz : Nat} (hm : eInts (rV gz 1) [y] ∈ es) (hx : a.eval x = .slice (some ⟨gz, 0, none⟩) 1 1) (hb : l.length < 17592186044416)
    (hK : ∀ g cap w', Own w0 w' (eInts (.slice (some ⟨g, 0, none⟩) (l.length + 1) cap) (l ++ [y]) :: es) fs → K (a.put o.dst (.slice (some ⟨g, 0, none⟩) (l.length + 1) cap)) w') : if Region.wanted o (yielded ops a.tmps) = true then Oper.wp Tryd.prog o a w K Q else E := by
  have hc := (own_ints_cell (g := gz) (n := 1) (cap := 1) (l := [y]) h (List.mem_append_left _ (List.mem_cons_of_mem _ hm)) rfl (j := 0) rfl).1
  refine step_own_append hgd s x _ ho Tryd.underlying27 infoI rfl (by decide) hs h [.int .i64 y] hx (by simp) (fun j u hj => ?_) (fun u hu => by simp at hu; subst hu; rfl) (by omega) (by unfold maxLen; omega) (by omega) ?_
  · rcases j with _ | j
    · simp at hj; subst hj
      exact hc
    · simp at hj
  intro g cap w' ho
  refine hK g cap w' ?_
  unfold eInts
  simpa [i64] using ho
/-- Two may come up. -/
theorem wpZ_two {P : Program} {ops : Array Oper} {Q : Exit → Act → World → Prop} {md : Region.Mode} {S : World → Prop} {z i j : Nat} {oi oj : Oper} {n : Nat} {listed : Array Bool} {a : Act} {w : World} (hi : ops[i]? = some oi) (hj : ops[j]? = some oj) (hr : Region.ready md ops listed = [i, j])
    (h1 : ∀ K : Act → World → Prop, Shut (∀ b u, (i ≠ z → S u) → ((i ≠ z → S u) → wpZ P md ops Q S z n (listed.setIfInBounds i true) b u) → K b u) →
      if Region.wanted oi (yielded ops a.tmps) = true then Oper.wp P oi a w K Q else K (a.put oi.dst undef) w)
    (h2 : ∀ K : Act → World → Prop, Shut (∀ b u, (j ≠ z → S u) → ((j ≠ z → S u) → wpZ P md ops Q S z n (listed.setIfInBounds j true) b u) → K b u) →
      if Region.wanted oj (yielded ops a.tmps) = true then Oper.wp P oj a w K Q else K (a.put oj.dst undef) w) : wpZ P md ops Q S z (n + 1) listed a w :=
  ⟨fun e => (by rw [hr] at e; cases e), fun k hk => by
    rw [hr] at hk
    rcases List.mem_cons.1 hk with rfl | hk
    · exact wpOp_step hi fun K hK => h1 K fun b u hS hW => hK b u ⟨hS, hW hS⟩
    · obtain rfl := List.mem_singleton.1 hk
      exact wpOp_step hj fun K hK => h2 K fun b u hS hW => hK b u ⟨hS, hW hS⟩⟩
def nilQ (rs : List Fq) : Prop := ∀ p ∈ rs, p.1.2 = [] → p.2 = .slice none 0 0
theorem nilQ_snoc {rs : List Fq} (h : nilQ rs) (t : Pr) (w : List Int) (a : Int) (v : Value) : nilQ (rs ++ [((t, w ++ [a]), v)]) := fun p hp => by
  rcases List.mem_append.1 hp with hp | hp
  · exact h p hp
  · simp at hp; subst hp; intro e; simp at e
theorem eEachQ_snoc (rs : List Fq) (p : Fq) : eEachQ (rs ++ [p]) = eEachQ rs ++ [eInts p.2 p.1.2] := by unfold eEachQ; rw [List.map_append]; rfl
end Go.Proofs.YtbciefeipiphiaaDoor.Mp

namespace Go.Proofs.YtbciefeipiphiaaDoor.Mp
open Go.RowKit Go.IntWalk Go.Proofs.YtbciefeipiphiaaDoor.Wd Go.Proofs.YtbciefeipiphiaaDoor.Wo Go.Proofs.YtbciefeipiphiaaDoor.Df Go.Proofs.YtbciefeipiphiaaDoor.Rc Go.Proofs.YtbciefeipiphiaaDoor.Sm

/-- What it returns. -/
def Dif (a b : Aut) (w : World) (e : Ending) (w' : World) : Prop :=
  (∃ u wv, diffW a b a.s.toNat b.s.toNat = some u ∧ e = .returned (.tuple #[wv, .bool true]) ∧ Own w w' [] [eInts wv u] ∧ (u = [] → wv = .slice none 0 0)) ∨ (diffW a b a.s.toNat b.s.toNat = none ∧ e = .returned (.tuple #[.slice none 0 0, .bool false]) ∧ Below w.heap.size w w')
end Go.Proofs.YtbciefeipiphiaaDoor.Mp

namespace Go.Proofs.YtbciefeipiphiaaDoor.Mp
open Go.RowKit Go.IntWalk Go.Proofs.YtbciefeipiphiaaDoor.Wd Go.Proofs.YtbciefeipiphiaaDoor.Wo Go.Proofs.YtbciefeipiphiaaDoor.Df Go.Proofs.YtbciefeipiphiaaDoor.Rc Go.Proofs.YtbciefeipiphiaaDoor.Sm

/-- Whether two accept the same; else the first word at which they differ; the error. -/
def sameOut (a b : Aut) : Bool × List Int × Nat :=
  if chkD2 a b = 0 then (match diffW a b a.s.toNat b.s.toNat with | some u => (false, u, 0) | none => (true, [], 0)) else (false, [], chkD2 a b)
theorem sameOut_bad {a b : Aut} (h : chkD2 a b ≠ 0) : sameOut a b = (false, [], chkD2 a b) := if_neg h
theorem sameOut_some {a b : Aut} (h : chkD2 a b = 0) {u : List Int} (hu : diffW a b a.s.toNat b.s.toNat = some u) : sameOut a b = (false, u, 0) := by unfold sameOut; rw [if_pos h, hu]
theorem sameOut_none {a b : Aut} (h : chkD2 a b = 0) (hu : diffW a b a.s.toNat b.s.toNat = none) : sameOut a b = (true, [], 0) := by unfold sameOut; rw [if_pos h, hu]
/-- What Same returns. -/
def SameR (out : Bool × List Int × Nat) (w : World) (e : Ending) (w' : World) : Prop := ∃ wv, e = .returned (.tuple #[.bool out.1, wv, errV out.2.2]) ∧ Own w w' [] [eInts wv out.2.1] ∧ (out.2.1 = [] → wv = .slice none 0 0)
end Go.Proofs.YtbciefeipiphiaaDoor.Mp
