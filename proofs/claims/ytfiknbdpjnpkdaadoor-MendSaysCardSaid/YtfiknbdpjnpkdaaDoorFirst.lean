/- Rows of what package reach's search finds: states with words; clones of words; rows of bools that are made. The walk of package reach's search. The walks of package reach's firstFrom and First. -/
import Derived.Test.YtfiknbdpjnpkdaaDoorDfaP
import Derived.Test.YtfiknbdpjnpkdaaDoorReachB
import Derived.Handy
import Derived.Test.YtfiknbdpjnpkdaaDoorDfaR

namespace Go.Proofs.YtfiknbdpjnpkdaaDoor.Rc
open Go.RowKit Go.IntWalk Go.Proofs.YtfiknbdpjnpkdaaDoor.Wd Go.Proofs.YtfiknbdpjnpkdaaDoor.Wo Go.Proofs.YtfiknbdpjnpkdaaDoor.Df
/-- One that is found, and its word's value. -/
abbrev Fv := Fd × Value
def fcells (l : List Fv) : List Value := l.flatMap fun p => [.int .i64 ((p.1.1 : Nat) : Int), p.2]
def eEachW (l : List Fv) : List Ent := l.map fun p => eInts p.2 p.1.2
theorem fcells_append (l m : List Fv) : fcells (l ++ m) = fcells l ++ fcells m := List.flatMap_append
theorem fcells_get : ∀ (l : List Fv) (k : Nat) (p : Fv), l[k]? = some p → (fcells l)[k * 2]? = some (.int .i64 ((p.1.1 : Nat) : Int)) ∧ (fcells l)[k * 2 + 1]? = some p.2
  | [], k, p, h => by simp at h
  | q :: l, 0, p, h => by
    simp only [List.getElem?_cons_zero, Option.some.injEq] at h
    subst h
    exact ⟨rfl, rfl⟩
  | q :: l, k + 1, p, h => by
    rw [List.getElem?_cons_succ] at h
    have := fcells_get l k p h
    have e : fcells (q :: l) = .int .i64 ((q.1.1 : Nat) : Int) :: q.2 :: fcells l := rfl
    rw [e, show (k + 1) * 2 = k * 2 + 1 + 1 by omega]
    simpa using this
theorem fd_at {w : World} {B : Nat} {A : Option Addr} {l : List Fv} (h : Cells w B A (fcells l)) {k : Nat} {p : Fv} (hk : l[k]? = some p) :
    ∃ ad, A = some ad ∧ ad.block < B ∧ w.cell? (ad.add (k * 2)) = some (.int .i64 ((p.1.1 : Nat) : Int)) ∧ w.cell? ⟨(ad.add (k * 2)).block, (ad.add (k * 2)).off + 1, none⟩ = some p.2 := by
  obtain ⟨h1, h2⟩ := fcells_get l k p hk
  obtain ⟨ad, e, h3, h4⟩ := h _ _ h1
  obtain ⟨ad2, e2, _, h6⟩ := h _ _ h2
  obtain rfl := Option.some.inj (e.symm.trans e2)
  exact ⟨ad, e, h3, h4, by rw [← Addr.add_succ' (ad.add (k * 2)) 0, Addr.add_add]; exact h6⟩
theorem own_one {w0 w : World} {es fs : List Ent} {v : Value} {l : List Int} (h : Own w0 w es fs) (hm : eInts v l ∈ es ++ fs) : v.oneCell' = true := by
  obtain ⟨A, cap, hv, _⟩ := h.form hm
  simp only [eInts] at hv
  rw [hv]; rfl
/-- Which states are known. -/
def kb (l : List Fd) (n : Nat) : List Bool := (List.range n).map fun t => decide (known l t)
theorem kb_length (l : List Fd) (n : Nat) : (kb l n).length = n := by simp [kb]
theorem kb_get (l : List Fd) {n t : Nat} (h : t < n) : (kb l n)[t]? = some (decide (known l t)) := by unfold kb; rw [List.getElem?_map, List.getElem?_range h]; rfl
theorem known_snoc (l : List Fd) (x : Fd) (t : Nat) : known (l ++ [x]) t ↔ known l t ∨ t = x.1 := by unfold known; simp
theorem kb_set (l : List Fd) (n : Nat) (x : Fd) : (kb l n).set x.1 true = kb (l ++ [x]) n := by
  refine List.ext_getElem? fun k => ?_
  rw [List.getElem?_set, kb_length]
  by_cases hk : k < n
  · rw [kb_get _ hk, kb_get _ hk]
    by_cases e : x.1 = k
    · rw [if_pos e, e, if_pos hk]
      congr 1
      exact (decide_eq_true ((known_snoc l x k).2 (.inr e.symm))).symm
    · rw [if_neg e]
      congr 1
      have := known_snoc l x k
      by_cases hk2 : known l k
      · rw [decide_eq_true hk2, decide_eq_true (this.2 (.inl hk2))]
      · rw [decide_eq_false hk2, decide_eq_false (fun q => (this.1 q).elim hk2 (fun q => e q.symm))]
  · rw [List.getElem?_eq_none (by rw [kb_length]; omega), List.getElem?_eq_none (by rw [kb_length]; omega)]
    split
    · rw [if_neg (by omega)]
    · rfl
theorem kb_none (n : Nat) : kb [] n = List.replicate n false := by
  unfold kb
  rw [show (fun t => decide (known [] t)) = fun (_ : Nat) => false from by funext t; exact decide_eq_false (by unfold known; simp), List.map_const']
  simp
end Go.Proofs.YtfiknbdpjnpkdaaDoor.Rc

namespace Go.Proofs.YtfiknbdpjnpkdaaDoor.Rc
open Go.RowKit Go.IntWalk Go.Proofs.YtfiknbdpjnpkdaaDoor.Wd Go.Proofs.YtfiknbdpjnpkdaaDoor.Wo Go.Proofs.YtfiknbdpjnpkdaaDoor.Df

/-- A row of n values in block g. -/
abbrev rV (g n : Nat) : Value := .slice (some ⟨g, 0, none⟩) n n
def nilW (rs : List Fv) : Prop := ∀ p ∈ rs, p.1.2 = [] → p.2 = .slice none 0 0
theorem nilW_snoc {rs : List Fv} (h : nilW rs) (t : Nat) (w : List Int) (a : Int) (v : Value) : nilW (rs ++ [((t, w ++ [a]), v)]) := fun p hp => by
  rcases List.mem_append.1 hp with hp | hp
  · exact h p hp
  · simp at hp; subst hp; intro e; simp at e
theorem eEachW_snoc (rs : List Fv) (p : Fv) : eEachW (rs ++ [p]) = eEachW rs ++ [eInts p.2 p.1.2] := by unfold eEachW; rw [List.map_append]; rfl
end Go.Proofs.YtfiknbdpjnpkdaaDoor.Rc

namespace Go.Proofs.YtfiknbdpjnpkdaaDoor.Rc
open Go.RowKit Go.IntWalk Go.Proofs.YtfiknbdpjnpkdaaDoor.Wd Go.Proofs.YtfiknbdpjnpkdaaDoor.Wo Go.Proofs.YtfiknbdpjnpkdaaDoor.Df

/-- What firstFrom returns. -/
def FF (d : Aut) (s : Nat) (w : World) (e : Ending) (w' : World) : Prop :=
  (∃ u wv, firstW d s = some u ∧ e = .returned (.tuple #[wv, .bool true]) ∧ Own w w' [] [eInts wv u]) ∨ (firstW d s = none ∧ e = .returned (.tuple #[.slice none 0 0, .bool false]) ∧ Below w.heap.size w w')
def noneYet (d : Aut) (l : List Fd) (k : Nat) : Prop := ∀ j y, j < k → l[j]? = some y → finA d y.1 = false
theorem noneYet_zero (d : Aut) (l : List Fd) : noneYet d l 0 := fun j y hj => by omega
theorem noneYet_succ {d : Aut} {l : List Fd} {k : Nat} {x : Fd} (h : noneYet d l k) (hx : l[k]? = some x) (hf : finA d x.1 = false) : noneYet d l (k + 1) := fun j y hj hy => by
  by_cases e : j < k
  · exact h j y e hy
  · obtain rfl : j = k := by omega
    obtain rfl := Option.some.inj (hx.symm.trans hy)
    exact hf
theorem noneYet_all {d : Aut} {l : List Fd} {k : Nat} (h : noneYet d l k) (hk : l.length ≤ k) : ∀ x ∈ l, finA d x.1 = false := fun x hx => by
  obtain ⟨j, hj, rfl⟩ := List.getElem_of_mem hx
  exact h j _ (by omega) (List.getElem?_eq_getElem hj)
/-- What a function returns that gives a list of ints and an error. -/
def IntsR (out : List Int × Nat) (w : World) (e : Ending) (w' : World) : Prop := ∃ wv, e = .returned (.tuple #[wv, errV out.2]) ∧ Own w w' [] [eInts wv out.1]
theorem own_nil {w w' : World} (h : Below w.heap.size w w') : Own w w' [] [eInts (.slice none 0 0) []] := (((own_start w).on h).nil 3 1).fin
def firstOut (d : Aut) : List Int × Nat := if dchk d = 0 then (match firstW d d.s.toNat with | some u => (u, 0) | none => ([], 5)) else ([], dchk d)
theorem firstOut_some {d : Aut} {u : List Int} (h : dchk d = 0) (hf : firstW d d.s.toNat = some u) : firstOut d = (u, 0) := by unfold firstOut; rw [if_pos h, hf]
theorem firstOut_none {d : Aut} (h : dchk d = 0) (hf : firstW d d.s.toNat = none) : firstOut d = ([], 5) := by unfold firstOut; rw [if_pos h, hf]
theorem firstOut_bad {d : Aut} (h : dchk d ≠ 0) : firstOut d = ([], dchk d) := by unfold firstOut; rw [if_neg h]
end Go.Proofs.YtfiknbdpjnpkdaaDoor.Rc
