/- For the law BackJoins: the smallest automaton of what another does not accept; two formulas joined. -/
import Derived.Test.YtloihkoamccacaaBackM
import Derived.Test.YtloihkoamccacaaMeanL
namespace Go.Proofs.Ytloihkoamccacaa.Fm
open Go.Proofs.Ytloihkoamccacaa.Df Go.Proofs.Ytloihkoamccacaa.Sm Go.Proofs.Ytloihkoamccacaa.Rc

theorem trim_not {d : Aut} (g : Df.Good d) : trimA (notA d) = notA (trimA d) := by
  have h : (rset d d.s.toNat).map (finA (notA d)) = ((rset d d.s.toNat).map (finA d)).map (!·) := by
    rw [List.map_map]
    exact List.map_congr_left fun x hx => notA_fin g (rch_lt1 g g.s_lt ((rset_whole g g.s_lt).rch x hx))
  show autOf d.L (S1 d) (rset d d.s.toNat) (finA (notA d)) = _
  unfold notA trimA autOf
  simp only [Aut.mk.injEq, true_and]
  exact h
/-- Who has no fewer states has no fewer for what he does not accept. -/
theorem not_min {d : Aut} (g : Df.Good d) (h : minA d = d) : minA (notA d) = notA d := by
  have ht : trimA d = d := by
    have := trim_trim (quo_good g)
    change trimA (minA d) = minA d at this
    rwa [h] at this
  refine min_self (notA_good g) (by rw [trim_not g, ht]) fun i j hi hj hij => ?_
  have hi' : i < d.next.length := hi
  have hj' : j < d.next.length := hj
  have hm := min_apart g (i := i) (j := j) (by rw [h]; exact hi') (by rw [h]; exact hj')
  rw [h] at hm
  refine hm fun w hw => ?_
  have q := hij w hw
  rw [notA_run, notA_run, notA_fin g (g.run_lt hw hi'), notA_fin g (g.run_lt hw hj')] at q
  have q2 := congrArg (!·) q
  simpa using q2
/-- Two formulas, one behind the other, and their root. -/
def join (f g : List Nd) (k : Int) : List Nd := (f ++ g.map (shf f.length)) ++ [(k, (f.length : Int) - 1, (f.length : Int) + (g.length : Int) - 1)]
theorem join_length (f g : List Nd) (k : Int) : (join f g k).length = f.length + g.length + 1 := by simp [join]; omega
theorem join_good {L : Int} {f g : List Nd} (gf : FGood L f) (gg : FGood L g) (h : f.length + g.length < 40) {k : Int} (hk : k = 4 ∨ k = 5) : FGood L (join f g k) ∧
    ∀ z, vat (join f g k) z ((join f g k).length - 1) 0 = if k = 4 then fval f z && fval g z else fval f z || fval g z := by
  have h1 := gf.ne
  have h2 := gg.ne
  have hl : (f ++ g.map (shf f.length)).length = f.length + g.length := by simp
  have gF : FGood L (f ++ g.map (shf f.length)) := ⟨gf.l1, gf.l6, by omega, by omega, both_good gf.nd gg.nd⟩
  have hk' : k = 4 ∨ k = 5 ∨ k = 8 ∨ k = 9 := by omega
  have gJ : FGood L (join f g k) := more_good gF (by omega) (bin_good hk' ⟨by omega, by rw [hl]; omega⟩ ⟨by omega, by rw [hl]; omega⟩)
  refine ⟨gJ, fun z => ?_⟩
  rw [join_length, Nat.add_sub_cancel]
  have hn : (join f g k)[f.length + g.length]? = some (k, (f.length : Int) - 1, (f.length : Int) + (g.length : Int) - 1) := by
    unfold join
    rw [List.getElem?_append_right (by rw [hl]; exact Nat.le_refl _), hl, Nat.sub_self]; rfl
  unfold vat
  rw [tre_bin gJ.nd hn hk', show ((f.length : Int) - 1).toNat = f.length - 1 by omega, show ((f.length : Int) + (g.length : Int) - 1).toNat = f.length + (g.length - 1) by omega]
  have e1 : tre (join f g k) (f.length - 1) = tre f (f.length - 1) := by
    unfold join
    rw [tre_more _ _ (by omega), tre_more _ _ (by omega)]
  have e2 : tre (join f g k) (f.length + (g.length - 1)) = tre g (g.length - 1) := by
    unfold join
    rw [tre_more _ _ (by omega), tre_shift gf.nd gg.nd _ (by omega)]
  rw [e1, e2]
  rcases hk with rfl | rfl <;> rfl
theorem join_many {L : Int} {f g : List Nd} (gf : FGood L f) (h : ¬ f.length + g.length < 40) (k : Int) : fchk L (join f g k) = 4 :=
  fchk_many (by have := gf.l1; have := gf.l6; omega) (by rw [join_length]; omega)
end Go.Proofs.Ytloihkoamccacaa.Fm
