/- The contracts of Minimal and of Same as the laws' walks use them. -/
import Derived.Test.YtjecphfjkpinlaaMinimal
import Derived.Test.YtjecphfjkpinlaaSmallV
import Derived.Test.YtjecphfjkpinlaaReached
namespace Go.Proofs.Ytjecphfjkpinlaa.Mp
open Go.RowKit Go.IntWalk Go.Proofs.Ytjecphfjkpinlaa.Wd Go.Proofs.Ytjecphfjkpinlaa.Wo Go.Proofs.Ytjecphfjkpinlaa.Df Go.Proofs.Ytjecphfjkpinlaa.Rc Go.Proofs.Ytjecphfjkpinlaa.Sm

theorem min_gives {W : World} {v : Value} {d : Aut} (h : DfaAt W W.heap.size v d) {E : Value} {r : Aut} {k : Nat} (hr : minOut d = (r, k)) (hE : errV k = E) : Gives 12 #[v] W E r :=
  gives_of (minimal_any v d W h) (by rw [hr]; exact hE) (by rw [hr])
theorem same_len {W : World} {v z : Value} {a b : Aut} (h : DfaAt W W.heap.size v a) (h2 : DfaAt W W.heap.size z b) {x : Bool} {l : List Int} {k n : Nat} {E : Value} (hr : sameOut a b = (x, l, k)) (hE : errV k = E) (hn : l.length = n) :
    Calls Try.prog 13 #[v, z] W fun e w' => ∃ A c, e = .returned (.tuple #[.bool x, .slice A n c, E]) ∧ Below W.heap.size W w' :=
  (same_gives2 h h2 hr hE).mono fun e w' ⟨A, c, h1, _, h3⟩ => ⟨A, c, by rw [h1, hn], h3⟩
theorem sameOut_min {d : Aut} (g : Df.Good d) : sameOut d (minA d) = (true, [], 0) := by
  have g2 : Good2 d (minA d) := ⟨g, min_good g, rfl⟩
  refine sameOut_none (chkD2_iff.2 g2) ((diffW_none g2 g.s_lt (min_good g).s_lt).2 fun w hw => ?_)
  exact (min_acc g hw).symm
theorem reached_len {W : World} {v : Value} {d : Aut} (h : DfaAt W W.heap.size v d) (g : Df.Good d) {K : Nat} (hK : (upto d.next.length (isReached d d.s.toNat)).length = K) :
    Calls Try.prog 16 #[v] W fun e w' => ∃ A c, e = .returned (.tuple #[.slice A K c, .nilIface]) ∧ Below W.heap.size W w' := by
  refine (reached_any v d W h).mono fun e w' he => ?_
  obtain ⟨wv, h1, ho⟩ := he.out
  rw [reachedR_ok (dchk_iff.2 g)] at h1 ho
  obtain ⟨A, cap, hv, _⟩ := ho.form (e := eInts wv (upto d.next.length (isReached d d.s.toNat))) (List.mem_append_right _ List.mem_cons_self)
  simp only [eInts] at hv
  rw [hK] at hv
  exact ⟨A, cap, by rw [h1, hv]; rfl, ho.below⟩
end Go.Proofs.Ytjecphfjkpinlaa.Mp
