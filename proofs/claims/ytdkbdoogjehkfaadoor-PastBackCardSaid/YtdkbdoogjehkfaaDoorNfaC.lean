/- The walk of package nfa's Make. -/
import Derived.Test.YtdkbdoogjehkfaaDoorNfaS
import Derived.Test.YtdkbdoogjehkfaaDoorExplS
import Derived.Test.YtdkbdoogjehkfaaDoorDfaR
namespace Go.Proofs.YtdkbdoogjehkfaaDoor.Nf
open Go.RowKit Go.IntWalk Go.Proofs.YtdkbdoogjehkfaaDoor.Wd Go.Proofs.YtdkbdoogjehkfaaDoor.Wo Go.Proofs.YtdkbdoogjehkfaaDoor.Df

theorem rch64 {a : Nfa} (g : Good a) {x : Nat} (h : Rch (T64 a) (enc (beg a)) x) : ∃ X, Rch (T a) (beg a) X ∧ x = enc X := by
  induction h with
  | base => exact ⟨_, .base, rfl⟩
  | next _ ht ih =>
    obtain ⟨X, hX, rfl⟩ := ih
    unfold T64 at ht
    rw [dec_enc (rch_canon g hX)] at ht
    obtain ⟨Y, hY, rfl⟩ := List.mem_map.1 ht
    exact ⟨Y, .next hX hY, rfl⟩
theorem T64_at {a : Nfa} (g : Good a) {X : List Nat} (hX : Rch (T a) (beg a) X) {c t : Nat} (h : (T64 a (enc X))[c]? = some t) : t = enc (goN a X (c : Int)) := by
  unfold T64 at h
  rw [dec_enc (rch_canon g hX)] at h
  unfold T at h
  have hc : c < a.L.toNat := by have := (List.getElem?_eq_some_iff.1 h).1; simpa using this
  rw [List.getElem?_map, List.getElem?_map, List.getElem?_range hc] at h
  exact (Option.some.inj h).symm
theorem T64_len (a : Nfa) (x : Nat) : (T64 a x).length = a.L.toNat := by simp [T64, T]
theorem cell4 {w : World} {g gr : Nat} (h : g ≠ gr) (j : Nat) (a b c d : Value) : ((((w.setCell ⟨gr, 0, none⟩ a).setCell ⟨gr, 1, none⟩ b).setCell ⟨gr, 2, none⟩ c).setCell ⟨gr, 3, none⟩ d).cell? ⟨g, j, none⟩ = w.cell? ⟨g, j, none⟩ := by
  have hh : ((((w.setCell ⟨gr, 0, none⟩ a).setCell ⟨gr, 1, none⟩ b).setCell ⟨gr, 2, none⟩ c).setCell ⟨gr, 3, none⟩ d).heap[g]? = w.heap[g]? := by
    rw [heap_setCell_other _ _ g _ h, heap_setCell_other _ _ g _ h, heap_setCell_other _ _ g _ h, heap_setCell_other _ _ g _ h]
  unfold World.cell?
  simp only [hh]
theorem makeOut_bad {a : Nfa} (h : nchk a ≠ 0) : makeOut a = (zeroA, nchk a) := by unfold makeOut; rw [if_neg h]
theorem makeOut_ok {a : Nfa} (h : nchk a = 0) : makeOut a = explOut a.L (T a) (beg a) (finN a) := by unfold makeOut; rw [if_pos h]
end Go.Proofs.YtdkbdoogjehkfaaDoor.Nf
