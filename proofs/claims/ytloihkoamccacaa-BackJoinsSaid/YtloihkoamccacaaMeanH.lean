/- The walks of package mean's Values and Holds. -/
import Derived.Test.YtloihkoamccacaaMeanW
import Derived.Test.YtloihkoamccacaaFormW
namespace Go.Proofs.Ytloihkoamccacaa.Fm
open Go.RowKit Go.IntWalk Go.Proofs.Ytloihkoamccacaa.Wd Go.Proofs.Ytloihkoamccacaa.Wo

theorem errV_pos {n : Nat} (h : n ≠ 0) : errV n = .iface 60 (.int .i64 (n : Int)) := by
  rcases n with _ | m
  · exact absurd rfl h
  · rfl
/-- What is wrong with a formula and a word. -/
def verr (L : Int) (f : List Nd) (z : List Int) : Nat := if fchk L f = 0 then chk L z else fchk L f
theorem verr_iff {L : Int} {f : List Nd} {z : List Int} : verr L f z = 0 ↔ FGood L f ∧ Fine L z := by
  unfold verr
  rw [← fchk_iff, ← chk_iff]
  split <;> simp_all
/-- A row of bools that a call has made. -/
def RowIs (w w' : World) (v : Value) (l : List Bool) : Prop := ∃ g, v = .slice (some ⟨g, 0, none⟩) l.length l.length ∧ Own w w' [eBools v l] []
/-- The value of the whole formula. -/
def fval (f : List Nd) (z : List Int) : Bool := vat f z (f.length - 1) 0
end Go.Proofs.Ytloihkoamccacaa.Fm
