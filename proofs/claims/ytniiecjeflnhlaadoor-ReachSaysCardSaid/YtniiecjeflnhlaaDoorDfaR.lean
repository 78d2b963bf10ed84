/- The walk of package dfa's product. -/
import Derived.Test.YtniiecjeflnhlaaDoorDfaQ
import Derived.Test.YtniiecjeflnhlaaDoorRegL
import Derived.Handy
import Derived.Deep.Light
namespace Go.Proofs.YtniiecjeflnhlaaDoor.Df
open Go.RowKit Go.IntWalk Go.Proofs.YtniiecjeflnhlaaDoor.Wd Go.Proofs.YtniiecjeflnhlaaDoor.Wo

theorem srow_small {α : Type} [DecidableEq α] (S : α → List α) (l : List α) (h : l.length ≤ 40) : ∀ r ∈ l.map (srow S l), ∀ x ∈ r, Small x := by
  intro r hr x hx
  obtain ⟨y, _, rfl⟩ := List.mem_map.1 hr
  obtain ⟨t, _, rfl⟩ := List.mem_map.1 hx
  have : num l t ≤ l.length := List.idxOf_le_length
  exact ⟨by omega, by omega⟩
/-- What a step of a state reads. -/
theorem DfaIs.step_at {w : World} {B : Nat} {L s : Int} {A F : Option Addr} {c cf : Nat} {d : Aut} (h : DfaIs w B L s A c F cf d) (g : Good d) {q i : Nat} (hq : q < d.next.length) (hi : (i : Int) < d.L) :
    ∃ ad ar m cr, A = some ad ∧ ad.block < B ∧ w.cell? (ad.add q) = some (.slice (some ar) m cr) ∧ i < m ∧ ar.block < B ∧ w.cell? (ar.add i) = some (.int .i64 ((step d q i : Nat) : Int)) := by
  obtain ⟨r, hr, _, hl, hra, _⟩ := g.at_ hq hi
  obtain ⟨ad, A', c', e, h1, h2, _, _, h5⟩ := h.rows q r hr
  obtain ⟨ar, e2, h6, h7, h8⟩ := h5.get hra
  subst e2
  exact ⟨ad, ar, r.length, c', e, h1, h2, h8, h6, h7⟩
end Go.Proofs.YtniiecjeflnhlaaDoor.Df
