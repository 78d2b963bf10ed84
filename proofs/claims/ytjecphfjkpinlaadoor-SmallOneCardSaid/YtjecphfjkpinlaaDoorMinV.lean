/- The contracts of Minimal and of Same as the laws' walks use them. -/
import Derived.Test.YtjecphfjkpinlaaDoorMinimal
import Derived.Test.YtjecphfjkpinlaaDoorSmallV
import Derived.Test.YtjecphfjkpinlaaDoorReached
namespace Go.Proofs.YtjecphfjkpinlaaDoor.Mp
open Go.RowKit Go.IntWalk Go.Proofs.YtjecphfjkpinlaaDoor.Wd Go.Proofs.YtjecphfjkpinlaaDoor.Wo Go.Proofs.YtjecphfjkpinlaaDoor.Df Go.Proofs.YtjecphfjkpinlaaDoor.Rc Go.Proofs.YtjecphfjkpinlaaDoor.Sm

theorem min_gives {W : World} {v : Value} {d : Aut} (h : DfaAt W W.heap.size v d) {E : Value} {r : Aut} {k : Nat} (hr : minOut d = (r, k)) (hE : errV k = E) : Gives 9 #[v] W E r :=
  gives_of (minimal_any v d W h) (by rw [hr]; exact hE) (by rw [hr])
theorem same_len {W : World} {v z : Value} {a b : Aut} (h : DfaAt W W.heap.size v a) (h2 : DfaAt W W.heap.size z b) {x : Bool} {l : List Int} {k n : Nat} {E : Value} (hr : sameOut a b = (x, l, k)) (hE : errV k = E) (hn : l.length = n) :
    Calls Tryd.prog 14 #[v, z] W fun e w' => ∃ A c, e = .returned (.tuple #[.bool x, .slice A n c, E]) ∧ Below W.heap.size W w' :=
  (same_gives2 h h2 hr hE).mono fun e w' ⟨A, c, h1, _, h3⟩ => ⟨A, c, by rw [h1, hn], h3⟩
theorem sameOut_min {d : Aut} (g : Df.Good d) : sameOut d (minA d) = (true, [], 0) := by
  have g2 : Good2 d (minA d) := ⟨g, min_good g, rfl⟩
  refine sameOut_none (chkD2_iff.2 g2) ((diffW_none g2 g.s_lt (min_good g).s_lt).2 fun w hw => ?_)
  exact (min_acc g hw).symm
end Go.Proofs.YtjecphfjkpinlaaDoor.Mp
