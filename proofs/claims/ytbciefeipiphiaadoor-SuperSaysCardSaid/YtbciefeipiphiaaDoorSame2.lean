/- What package small's search keeps: pairs as keys of a map; rows of pairs with words. The walk of package small's difference. The walk of package small's Same. -/
import Derived.Test.YtbciefeipiphiaaDoorMaps
import Derived.Test.YtbciefeipiphiaaDoorSmallT
import Derived.Test.YtbciefeipiphiaaDoorFirst
import Derived.Test.YtbciefeipiphiaaDoorRegL

namespace Go.Proofs.YtbciefeipiphiaaDoor.Mp
open Go.RowKit Go.IntWalk Go.Proofs.YtbciefeipiphiaaDoor.Wd Go.Proofs.YtbciefeipiphiaaDoor.Wo Go.Proofs.YtbciefeipiphiaaDoor.Df Go.Proofs.YtbciefeipiphiaaDoor.Rc Go.Proofs.YtbciefeipiphiaaDoor.Sm
open Go.Maps (Keyed)
open Go.WideMaps (ArrKey)

/-! ### pairs -/
def K2 (p : Pr) : Value := .agg #[.int .i64 ((p.1 : Nat) : Int), .int .i64 ((p.2 : Nat) : Int)]
/-- Which pairs are known. -/
def kn (l : List (Fg Pr)) (p : Pr) : Option Bool := if knownG l p then some true else none
theorem kn_get (l : List (Fg Pr)) (p : Pr) : ((kn l p).getD false) = decide (knownG l p) := by
  unfold kn
  by_cases h : knownG l p <;> simp [h]
theorem knownG_snoc (l : List (Fg Pr)) (x : Fg Pr) (t : Pr) : knownG (l ++ [x]) t ↔ knownG l t ∨ t = x.1 := by unfold knownG; simp
theorem kn_snoc (l : List (Fg Pr)) (x : Fg Pr) : (fun y => if y = x.1 then some true else kn l y) = kn (l ++ [x]) := by
  funext y
  unfold kn
  by_cases e : y = x.1
  · rw [if_pos e, if_pos ((knownG_snoc l x y).2 (.inr e))]
  · rw [if_neg e]
    by_cases h : knownG l y
    · rw [if_pos h, if_pos ((knownG_snoc l x y).2 (.inl h))]
    · rw [if_neg h, if_neg (fun q => ((knownG_snoc l x y).1 q).elim h e)]
/-! ### rows of them -/
abbrev Fq := Fg Pr × Value
def qcells (l : List Fq) : List Value := l.flatMap fun p => [.int .i64 ((p.1.1.1 : Nat) : Int), .int .i64 ((p.1.1.2 : Nat) : Int), p.2]
def eEachQ (l : List Fq) : List Ent := l.map fun p => eInts p.2 p.1.2
theorem qcells_append (l m : List Fq) : qcells (l ++ m) = qcells l ++ qcells m := List.flatMap_append
theorem qcells_get : ∀ (l : List Fq) (k : Nat) (p : Fq), l[k]? = some p → (qcells l)[k * 3]? = some (.int .i64 ((p.1.1.1 : Nat) : Int)) ∧ (qcells l)[k * 3 + 1]? = some (.int .i64 ((p.1.1.2 : Nat) : Int)) ∧ (qcells l)[k * 3 + 2]? = some p.2
  | [], k, p, h => by simp at h
  | q :: l, 0, p, h => by
    simp only [List.getElem?_cons_zero, Option.some.injEq] at h
    subst h
    exact ⟨rfl, rfl, rfl⟩
  | q :: l, k + 1, p, h => by
    rw [List.getElem?_cons_succ] at h
    have := qcells_get l k p h
    have e : qcells (q :: l) = .int .i64 ((q.1.1.1 : Nat) : Int) :: .int .i64 ((q.1.1.2 : Nat) : Int) :: q.2 :: qcells l := rfl
    rw [e, show (k + 1) * 3 = k * 3 + 1 + 1 + 1 by omega]
    simpa using this
theorem fq_at {w : World} {B : Nat} {A : Option Addr} {l : List Fq} (h : Cells w B A (qcells l)) {k : Nat} {p : Fq} (hk : l[k]? = some p) :
    ∃ ad, A = some ad ∧ ad.block < B ∧ w.cell? (ad.add (k * 3)) = some (.int .i64 ((p.1.1.1 : Nat) : Int)) ∧ w.cell? ⟨(ad.add (k * 3)).block, (ad.add (k * 3)).off + 1, none⟩ = some (.int .i64 ((p.1.1.2 : Nat) : Int)) ∧ w.cell? ⟨(ad.add (k * 3)).block, (ad.add (k * 3)).off + 2, none⟩ = some p.2 := by
  obtain ⟨h1, h2, h3⟩ := qcells_get l k p hk
  obtain ⟨ad, e, h4, h5⟩ := h _ _ h1
  obtain ⟨ad2, e2, _, h6⟩ := h _ _ h2
  obtain ⟨ad3, e3, _, h7⟩ := h _ _ h3
  obtain rfl := Option.some.inj (e.symm.trans e2)
  obtain rfl := Option.some.inj (e.symm.trans e3)
  refine ⟨ad, e, h4, h5, ?_, ?_⟩
  · rw [← Addr.add_succ' (ad.add (k * 3)) 0, Addr.add_add]; exact h6
  · rw [← Addr.add_succ' (ad.add (k * 3)) 1, Addr.add_add]; exact h7
def nilQ (rs : List Fq) : Prop := ∀ p ∈ rs, p.1.2 = [] → p.2 = .slice none 0 0
theorem nilQ_snoc {rs : List Fq} (h : nilQ rs) (t : Pr) (w : List Int) (a : Int) (v : Value) : nilQ (rs ++ [((t, w ++ [a]), v)]) := fun p hp => by
  rcases List.mem_append.1 hp with hp | hp
  · exact h p hp
  · simp at hp; subst hp; intro e; simp at e
theorem eEachQ_snoc (rs : List Fq) (p : Fq) : eEachQ (rs ++ [p]) = eEachQ rs ++ [eInts p.2 p.1.2] := by unfold eEachQ; rw [List.map_append]; rfl
end Go.Proofs.YtbciefeipiphiaaDoor.Mp

namespace Go.Proofs.YtbciefeipiphiaaDoor.Mp
open Go.RowKit Go.IntWalk Go.Proofs.YtbciefeipiphiaaDoor.Wd Go.Proofs.YtbciefeipiphiaaDoor.Wo Go.Proofs.YtbciefeipiphiaaDoor.Df Go.Proofs.YtbciefeipiphiaaDoor.Rc Go.Proofs.YtbciefeipiphiaaDoor.Sm

end Go.Proofs.YtbciefeipiphiaaDoor.Mp

namespace Go.Proofs.YtbciefeipiphiaaDoor.Mp
open Go.RowKit Go.IntWalk Go.Proofs.YtbciefeipiphiaaDoor.Wd Go.Proofs.YtbciefeipiphiaaDoor.Wo Go.Proofs.YtbciefeipiphiaaDoor.Df Go.Proofs.YtbciefeipiphiaaDoor.Rc Go.Proofs.YtbciefeipiphiaaDoor.Sm

end Go.Proofs.YtbciefeipiphiaaDoor.Mp
