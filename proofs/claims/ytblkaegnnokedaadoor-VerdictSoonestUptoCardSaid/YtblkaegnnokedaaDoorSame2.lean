/- The walk of package small's Same. -/
import Derived.Test.YtblkaegnnokedaaDoorDiff
import Derived.Test.YtblkaegnnokedaaDoorFirst
namespace Go.Proofs.YtblkaegnnokedaaDoor.Mp
open Go.RowKit Go.IntWalk Go.Proofs.YtblkaegnnokedaaDoor.Wd Go.Proofs.YtblkaegnnokedaaDoor.Wo Go.Proofs.YtblkaegnnokedaaDoor.Df Go.Proofs.YtblkaegnnokedaaDoor.Rc Go.Proofs.YtblkaegnnokedaaDoor.Sm

/-- Whether two accept the same; else the first word at which they differ; the error. -/
def sameOut (a b : Aut) : Bool × List Int × Nat :=
  if chkD2 a b = 0 then (match diffW a b a.s.toNat b.s.toNat with | some u => (false, u, 0) | none => (true, [], 0)) else (false, [], chkD2 a b)
theorem sameOut_bad {a b : Aut} (h : chkD2 a b ≠ 0) : sameOut a b = (false, [], chkD2 a b) := if_neg h
theorem sameOut_some {a b : Aut} (h : chkD2 a b = 0) {u : List Int} (hu : diffW a b a.s.toNat b.s.toNat = some u) : sameOut a b = (false, u, 0) := by unfold sameOut; rw [if_pos h, hu]
theorem sameOut_none {a b : Aut} (h : chkD2 a b = 0) (hu : diffW a b a.s.toNat b.s.toNat = none) : sameOut a b = (true, [], 0) := by unfold sameOut; rw [if_pos h, hu]
/-- What Same returns. -/
def SameR (out : Bool × List Int × Nat) (w : World) (e : Ending) (w' : World) : Prop := ∃ wv, e = .returned (.tuple #[.bool out.1, wv, errV out.2.2]) ∧ Own w w' [] [eInts wv out.2.1] ∧ (out.2.1 = [] → wv = .slice none 0 0)
end Go.Proofs.YtblkaegnnokedaaDoor.Mp
