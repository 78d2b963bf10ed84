/- The walks of package mean's Values and Holds. The walks of the laws' own helpers over formulas: more, known. What laws about meanings ask: formulas with more nodes behind, the contracts of Holds by their two ways. -/
import Derived.Test.YtloihkoamccacaaGreatDoorMeanW
import Derived.Test.YtloihkoamccacaaGreatDoorFormW
import Derived.Maps.AppendAt

namespace Go.Proofs.YtloihkoamccacaaGreatDoor.Fm
open Go.RowKit Go.IntWalk Go.Proofs.YtloihkoamccacaaGreatDoor.Wd Go.Proofs.YtloihkoamccacaaGreatDoor.Wo

theorem errV_pos {n : Nat} (h : n ≠ 0) : errV n = .iface 57 (.int .i64 (n : Int)) := by
  rcases n with _ | m
  · exact absurd rfl h
  · rfl
/-- The value of the whole formula. -/
def fval (f : List Nd) (z : List Int) : Bool := vat f z (f.length - 1) 0
end Go.Proofs.YtloihkoamccacaaGreatDoor.Fm

namespace Go.Proofs.YtloihkoamccacaaGreatDoor.Fm
open Go.RowKit Go.IntWalk Go.Proofs.YtloihkoamccacaaGreatDoor.Wd Go.Proofs.YtloihkoamccacaaGreatDoor.Wo

/-! ### a closed fact -/
end Go.Proofs.YtloihkoamccacaaGreatDoor.Fm

namespace Go.Proofs.YtloihkoamccacaaGreatDoor.Fm
open Go.RowKit Go.IntWalk Go.Proofs.YtloihkoamccacaaGreatDoor.Wd Go.Proofs.YtloihkoamccacaaGreatDoor.Wo

/-! ### one node more -/
theorem fval_root (f : List Nd) (z : List Int) : fval f z = val1 z (root f) 0 := rfl
/-! ### contracts -/
theorem nds_small {L : Int} {f : List Nd} (g : FGood L f) : ∀ m ∈ f, NdSmall m := by
  intro m hm
  obtain ⟨i, hi⟩ := List.getElem?_of_mem hm
  have := (List.getElem?_eq_some_iff.1 hi).1
  exact good_small g.l6 (by have := g.le; omega) (g.nd i m hi)
end Go.Proofs.YtloihkoamccacaaGreatDoor.Fm
