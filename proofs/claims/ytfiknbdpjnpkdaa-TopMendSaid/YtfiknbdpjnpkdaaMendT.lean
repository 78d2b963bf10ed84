/- Plain mathematics: what is cut off, or held back, is changed at least as much as mending changes. -/
import Derived.Test.YtfiknbdpjnpkdaaMendM
import Derived.Test.YtfiknbdpjnpkdaaEditM
namespace Go.Proofs.Ytfiknbdpjnpkdaa.Wr
open Go.Proofs.Ytfiknbdpjnpkdaa.Df Go.Proofs.Ytfiknbdpjnpkdaa.Wo Go.Proofs.Ytfiknbdpjnpkdaa.Rc Go.Proofs.Ytfiknbdpjnpkdaa.Sm Go.Proofs.Ytfiknbdpjnpkdaa.Me

/-! What is cut off, or held back, is changed at least as much as mending changes. -/
theorem lev_front (v u : List Int) : Ne.lev (v ++ u) v = u.length := by
  have h1 := Ne.lev_le (Ne.lev_sub (List.sublist_append_left v u))
  have h2 := (Ne.lev_len (v ++ u) v).1
  simp at h1 h2
  omega
theorem mend_front {d : Aut} {v u : List Int} {x : Lb} (h : mendW d (v ++ u) = some x) (hv : Word d.L v) (ha : accA d v = true) : x.1 ≤ u.length := by
  have := ((mend_some h).2.2.2 v hv ha).1
  rw [lev_front] at this
  exact this
theorem mend_edit {d : Aut} {e : Ed.Et} {w : List Int} (k : Ed.Eok d e w) {x : Lb} (h : mendW d w = some x) : Ne.lev w e.out = e.held.length ∧ x.1 ≤ e.held.length := by
  have ho := Ed.eok_out k
  have hw : w = e.out ++ e.held := k.all.symm
  rw [hw] at h ⊢
  refine ⟨lev_front _ _, mend_front h (fun a hm => k.word a ?_) k.acc⟩
  rw [hw]; exact List.mem_append_left _ hm
theorem mend_gate {d : Aut} (hd : Ga.GGood d) {w : List Int} (hw : Word d.L w) {x : Lb} (h : mendW d w = some x) :
    Ne.lev w (w.take (Ga.pass d d.s.toNat w)) = w.length - Ga.pass d d.s.toNat w ∧ x.1 ≤ w.length - Ga.pass d d.s.toNat w := by
  have hp := Ga.pass_le d d.s.toNat w
  have hl : (w.drop (Ga.pass d d.s.toNat w)).length = w.length - Ga.pass d d.s.toNat w := by rw [List.length_drop]
  have e : w = w.take (Ga.pass d d.s.toNat w) ++ w.drop (Ga.pass d d.s.toNat w) := (List.take_append_drop _ _).symm
  have h1 := lev_front (w.take (Ga.pass d d.s.toNat w)) (w.drop (Ga.pass d d.s.toNat w))
  rw [← e, hl] at h1
  refine ⟨h1, ?_⟩
  rw [← hl]
  rw [e] at h
  exact mend_front h (fun a hm => hw a (List.mem_of_mem_take hm)) ((Ga.pass_longest hd hw).1 _ (Nat.le_refl _))

end Go.Proofs.Ytfiknbdpjnpkdaa.Wr
