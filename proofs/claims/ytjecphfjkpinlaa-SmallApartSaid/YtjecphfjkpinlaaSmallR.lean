/- Plain mathematics of small and nfa: what is made by finding is numbered as found; what has no two states alike is the smallest. -/
import Derived.Test.YtjecphfjkpinlaaSmallQ
namespace Go.Proofs.Ytjecphfjkpinlaa.Sm
open Go.Proofs.Ytjecphfjkpinlaa.Df Go.Proofs.Ytjecphfjkpinlaa.Wo Go.Proofs.Ytjecphfjkpinlaa.Rc

theorem autOf_trim {α : Type} [DecidableEq α] {L : Int} {S : α → List α} {a : α} {l : List α} {f : α → Bool} (hl : found S a = some l) (h1 : 1 ≤ L) (h6 : L ≤ 6) (hS : ∀ x ∈ l, ((S x).length : Int) = L) : trimA (autOf L S l f) = autOf L S l f := by
  have hw := found_whole hl
  have gm := autOf_good (f := f) hw h1 h6 hS
  have hn : (autOf L S l f).next.length = l.length := by unfold autOf; simp
  have hr : rset (autOf L S l f) 0 = List.range (autOf L S l f).next.length := by
    have h1 := expl_map (f := f) hw hS 41 0 [a] hl (fun x hx => by simp at hx; subst hx; exact List.mem_of_getElem? hw.hd)
    rw [List.map_singleton, idx_of hw.nd hw.hd, map_num hw.nd] at h1
    have h2 : found (S1 (autOf L S l f)) 0 = some (List.range l.length) := h1
    unfold rset
    rw [h2, hn]; rfl
  have h0 : (autOf L S l f).s = 0 := rfl
  generalize autOf L S l f = m at *
  have hs : m.s = 0 → trimA m = m := fun hs => by
    obtain ⟨h1, h2⟩ := good_form gm
    have hs' : m.s.toNat = 0 := by rw [hs]; rfl
    have e : trimA m = ⟨m.L, 0, (rset m 0).map (srow (S1 m) (rset m 0)), (rset m 0).map (finA m)⟩ := by
      show autOf m.L (S1 m) (rset m m.s.toNat) (finA m) = _
      rw [hs']; rfl
    have hsr : ∀ q, q < m.next.length → srow (S1 m) (List.range m.next.length) q = (S1 m q).map fun (t : Nat) => (t : Int) := fun q hq => by
      unfold srow
      exact List.map_congr_left fun t ht => by rw [num_range (S1_lt gm hq ht)]
    rw [e, hr]
    have e3 : (List.range m.next.length).map (srow (S1 m) (List.range m.next.length)) = m.next := by
      conv => rhs; rw [h1]
      exact List.map_congr_left fun q hq => hsr q (List.mem_range.1 hq)
    rw [e3, ← h2, ← hs]
  exact hs h0
/-- What is numbered as found and has no two alike is the smallest of its own. -/
theorem min_self {m : Aut} (g : Df.Good m) (ht : trimA m = m) (hd : ∀ i j, i < m.next.length → j < m.next.length → Alike m m i j → i = j) : minA m = m := by
  have hk : ∀ x, x < m.next.length → kin m m x = x := fun x hx => by
    obtain ⟨_, h2, h3⟩ := stand_spec g hx
    exact (hd x _ hx h2 h3).symm
  have hq : quo m = m := by
    obtain ⟨h1, _⟩ := good_form g
    have e1 : ((kin m m m.s.toNat : Nat) : Int) = m.s := by rw [hk _ g.s_lt]; exact g.s_eq
    have e2 : ((List.range m.next.length).map fun q => (S1 m q).map fun t => ((kin m m t : Nat) : Int)) = m.next := by
      conv => rhs; rw [h1]
      refine List.map_congr_left fun q hq => List.map_congr_left fun t ht => ?_
      rw [hk t (S1_lt g (List.mem_range.1 hq) ht)]
    unfold quo
    rw [e1, e2]
  unfold minA
  rw [hq, ht]
theorem min_of {d m : Aut} (g : Good2 d m) (ht : trimA m = m) (hd : ∀ i j, i < m.next.length → j < m.next.length → Alike m m i j → i = j) (h : ∀ w, Word d.L w → accA d w = accA m w) : m = minA d := by
  rw [← min_self g.gb ht hd]
  exact min_unique g h
/-- What is found, with no two alike, is the smallest. -/
theorem autOf_min {α : Type} [DecidableEq α] {L : Int} {S : α → List α} {a : α} {l : List α} {f : α → Bool} (hl : found S a = some l) (hS : ∀ x ∈ l, ((S x).length : Int) = L)
    (hd : ∀ x ∈ l, ∀ y ∈ l, (∀ w, Word L w → f (viaAll S x w) = f (viaAll S y w)) → x = y) {d : Aut} (g : Df.Good d) (e : d.L = L) (h : ∀ w, Word L w → accA d w = f (viaAll S a w)) : autOf L S l f = minA d := by
  have hw := found_whole hl
  have h1 : 1 ≤ L := by rw [← e]; exact g.l1
  have h6 : L ≤ 6 := by rw [← e]; exact g.l6
  have gm := autOf_good (f := f) hw h1 h6 hS
  have hn : (autOf L S l f).next.length = l.length := by unfold autOf; simp
  refine min_of ⟨g, gm, e⟩ (autOf_trim hl h1 h6 hS) (fun i j hi hj ha => ?_) fun w hwd => ?_
  · rw [hn] at hi hj
    have key : ∀ i (hi : i < l.length) w, Word L w → finA (autOf L S l f) (runA (autOf L S l f) i w) = f (viaAll S l[i] w) := fun i hi w hwd => by
      have hm := List.getElem_mem hi
      have hnum : num l l[i] = i := idx_of hw.nd (List.getElem?_eq_getElem hi)
      obtain ⟨p1, p2⟩ := autOf_run (f := f) hw hS hwd hm
      rw [hnum] at p2
      rw [p2]
      show ((l.map f)[num l (viaAll S l[i] w)]?).getD false = _
      rw [List.getElem?_map, idx_get p1]; rfl
    have := hd l[i] (List.getElem_mem hi) l[j] (List.getElem_mem hj) fun w hwd => by
      rw [← key i hi w hwd, ← key j hj w hwd]
      exact ha w hwd
    exact (List.getElem_inj hw.nd).1 this
  · rw [h w (by rw [← e]; exact hwd), autOf_acc hw hS (by rw [← e]; exact hwd)]
end Go.Proofs.Ytjecphfjkpinlaa.Sm
