/- The walk of near.Common. -/
import Derived.Test.YtfiknbdpjnpkdaaNearL
namespace Go.Proofs.Ytfiknbdpjnpkdaa.Ne
open Go.RowKit Go.IntWalk Go.Proofs.Ytfiknbdpjnpkdaa.Wd Go.Proofs.Ytfiknbdpjnpkdaa.Wo

def comOut (L : Int) (v z : List Int) : List Int × Nat := if chk2 L v z = 0 then (com v z, 0) else ([], chk2 L v z)
theorem nums_weaken {w w1 wr : World} {l : List Int} {x : Value} (h : Nums w1.heap.size w1 l x wr) (hb : Below w.heap.size w w1) : Nums w.heap.size w l x wr := by
  obtain ⟨⟨h1, h2⟩, h3, h4⟩ := h
  refine ⟨⟨h1, ?_⟩, hb.trans (h3.mono hb.size), Nat.le_trans hb.size h4⟩
  rcases h2 with h2 | ⟨g, cap, cur, e, hB, r⟩
  · exact .inl h2
  · exact .inr ⟨g, cap, cur, e, Nat.le_trans hb.size hB, r⟩
/-- The next letter of the best. -/
theorem next_letter {L : Int} {v z : List Int} (hv : Fine L v) {k i j : Nat} (hk : k < ll v z) (h : com (v.drop i) (z.drop j) = (com v z).drop k) :
    ∃ (p : Nat) (r : List Int), (p : Int) < L ∧ com (v.drop i) (z.drop j) = (p : Int) :: r ∧ (com v z).drop (k + 1) = r ∧ (com v z).take (k + 1) = (com v z).take k ++ [(p : Int)] := by
  have hl := com_len v z
  have hk' : k < (com v z).length := by omega
  have hm := hv.2.2 _ ((com_best v z).left.mem (List.getElem_mem hk'))
  have e : (((com v z)[k].toNat : Nat) : Int) = (com v z)[k] := by omega
  refine ⟨(com v z)[k].toNat, _, by omega, ?_, rfl, ?_⟩
  · rw [h, e, ← List.drop_eq_getElem_cons hk']
  · rw [e, List.take_append_getElem hk']
theorem com_fine {L : Int} {v z : List Int} (h : Fine L v) : Fine L (com v z) :=
  ⟨h.1, Nat.le_trans (com_best v z).left.length_le h.2.1, fun a ha => h.2.2 a ((com_best v z).left.mem ha)⟩
end Go.Proofs.Ytfiknbdpjnpkdaa.Ne
