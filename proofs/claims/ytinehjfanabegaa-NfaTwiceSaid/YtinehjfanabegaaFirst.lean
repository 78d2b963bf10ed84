/- The walks of package reach's firstFrom and First. -/
import Derived.Test.YtinehjfanabegaaSearch
namespace Go.Proofs.Ytinehjfanabegaa.Rc
open Go.RowKit Go.IntWalk Go.Proofs.Ytinehjfanabegaa.Wd Go.Proofs.Ytinehjfanabegaa.Wo Go.Proofs.Ytinehjfanabegaa.Df

/-- What firstFrom returns. -/
def FF (d : Aut) (s : Nat) (w : World) (e : Ending) (w' : World) : Prop :=
  (∃ u wv, firstW d s = some u ∧ e = .returned (.tuple #[wv, .bool true]) ∧ Own w w' [] [eInts wv u]) ∨ (firstW d s = none ∧ e = .returned (.tuple #[.slice none 0 0, .bool false]) ∧ Below w.heap.size w w')
def noneYet (d : Aut) (l : List Fd) (k : Nat) : Prop := ∀ j y, j < k → l[j]? = some y → finA d y.1 = false
theorem noneYet_zero (d : Aut) (l : List Fd) : noneYet d l 0 := fun j y hj => by omega
theorem noneYet_succ {d : Aut} {l : List Fd} {k : Nat} {x : Fd} (h : noneYet d l k) (hx : l[k]? = some x) (hf : finA d x.1 = false) : noneYet d l (k + 1) := fun j y hj hy => by
  by_cases e : j < k
  · exact h j y e hy
  · obtain rfl : j = k := by omega
    obtain rfl := Option.some.inj (hx.symm.trans hy)
    exact hf
theorem noneYet_all {d : Aut} {l : List Fd} {k : Nat} (h : noneYet d l k) (hk : l.length ≤ k) : ∀ x ∈ l, finA d x.1 = false := fun x hx => by
  obtain ⟨j, hj, rfl⟩ := List.getElem_of_mem hx
  exact h j _ (by omega) (List.getElem?_eq_getElem hj)
/-- What a function returns that gives a list of ints and an error. -/
def IntsR (out : List Int × Nat) (w : World) (e : Ending) (w' : World) : Prop := ∃ wv, e = .returned (.tuple #[wv, errV out.2]) ∧ Own w w' [] [eInts wv out.1]
theorem own_nil {w w' : World} (h : Below w.heap.size w w') : Own w w' [] [eInts (.slice none 0 0) []] := (((own_start w).on h).nil 3 1).fin
def firstOut (d : Aut) : List Int × Nat := if dchk d = 0 then (match firstW d d.s.toNat with | some u => (u, 0) | none => ([], 5)) else ([], dchk d)
theorem firstOut_some {d : Aut} {u : List Int} (h : dchk d = 0) (hf : firstW d d.s.toNat = some u) : firstOut d = (u, 0) := by unfold firstOut; rw [if_pos h, hf]
theorem firstOut_none {d : Aut} (h : dchk d = 0) (hf : firstW d d.s.toNat = none) : firstOut d = ([], 5) := by unfold firstOut; rw [if_pos h, hf]
theorem firstOut_bad {d : Aut} (h : dchk d ≠ 0) : firstOut d = ([], dchk d) := by unfold firstOut; rw [if_neg h]
end Go.Proofs.Ytinehjfanabegaa.Rc
