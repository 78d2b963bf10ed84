/- Arenas that came in as arguments. -/
import Derived.Test.YtkphdegelhlpeaaDuelA
import Derived.ChangeSlices
namespace Go.Proofs.Ytkphdegelhlpeaa.Du
open Go.RowKit Go.IntWalk Go.ChangeShapes Go.WideShapes Go.Proofs.Ytkphdegelhlpeaa.Wd Go.Proofs.Ytkphdegelhlpeaa.Wo Go.Proofs.Ytkphdegelhlpeaa.Df Go.Proofs.Ytkphdegelhlpeaa.Rc

theorem open_ints_slice {H : Type} {enc : TypeId × Value → H} {w : World} {base : Nat} {spare : Nat → Bool} {held : Bool} {fuel : Nat} {v : Value} {x : DataW H × List MemPlace} (h : DataW.trod enc Try.prog w base spare held fuel 22 [v] = some x) :
    ∃ (A : Option Addr) (c : Nat) (l : List Int), v = .slice A l.length c ∧ l.length ≤ c ∧ c ≤ 9223372036854775807 ∧ IntsAt w w.heap.size A l := by
  rcases open_ints Try.underlying22 Try.underlying3 (by kernel_rfl) h with ⟨hcs, _⟩ | ⟨x, l, c, zs, hcs, _, hl, hm, hz, hx, hcell, hwz⟩
  · exact ⟨none, 0, [], by simpa using hcs, by simp, by omega, IntsAt.nil _ _ _⟩
  · unfold maxLen at hm
    have hk : (zs.take l).length = l := by
      rw [List.length_take]
      have : l ≤ zs.length := by rw [hz]; split <;> omega
      omega
    exact ⟨some x, c, zs.take l, by rw [hk]; simpa using hcs, by rw [hk]; exact hl, hm, intsAt_of_open hcell hwz l⟩
set_option maxRecDepth 100000 in
theorem ar_open {H : Type} {enc : TypeId × Value → H} {w : World} {r : Reach} {b0 : Nat} {v : Value} {x : DataW H} {p : List MemPlace} (hv : Value.okWide Try.prog w r b0 26 v)
    (h : DataW.Trod enc Try.prog w 0 (fun _ => true) true 26 v x p) : ∃ a : Ar, ArAt w w.heap.size v a := by
  obtain ⟨v0, v1, v2, y0, y1, y2, n, rfl, _, _, t0, t1, t2⟩ := Go.Joins.open_agg3 Try.underlying26 (by kernel_rfl) (by kernel_rfl) hv h
  have hN : ∃ (A : Option Addr) (c : Nat) (rows : List (List Int)), v1 = .slice A rows.length c ∧ rows.length ≤ c ∧ c ≤ 9223372036854775807 ∧ RowsAt w w.heap.size A rows := by
    rcases Go.Deep.open_int_rows Try.underlying23 Try.underlying22 Try.underlying3 (by kernel_rfl) (by kernel_rfl) t1 with ⟨hcs, _⟩ | ⟨a, len, cap, A, L, C, Z, hcs, _, hl, hm, _, hx⟩
    · exact ⟨none, 0, [], by simpa using hcs, by simp, by omega, RowsAt.nil _ _ _⟩
    · unfold maxLen at hm
      exact ⟨some a, cap, _, by simpa using hcs, by simpa using hl, hm, rowsAt_of_open hl hx⟩
  have hF : ∃ (A : Option Addr) (c : Nat) (bs : List Bool), v2 = .slice A bs.length c ∧ bs.length ≤ c ∧ c ≤ 9223372036854775807 ∧ BoolsAt w w.heap.size A bs := by
    rcases Go.Deep.open_bools Try.underlying24 Try.underlying4 (by kernel_rfl) t2 with ⟨hcs, _⟩ | ⟨a, len, cap, B, hcs, _, hl, hm, _, hx⟩
    · exact ⟨none, 0, [], by simpa using hcs, by simp, by omega, BoolsAt.nil _ _ _⟩
    · unfold maxLen at hm
      exact ⟨some a, cap, _, by simpa using hcs, by simpa using hl, hm, boolsAt_of_open hl hx⟩
  obtain ⟨O, co, own, rfl, o1, o2, o3⟩ := open_ints_slice t0
  obtain ⟨A, c, rows, rfl, k1, k2, k3⟩ := hN
  obtain ⟨F, cf, bs, rfl, q1, q2, q3⟩ := hF
  exact ⟨⟨own, rows, bs⟩, O, co, A, c, F, cf, rfl, o1, o2, k1, k2, q1, q2, o3, k3, q3⟩
end Go.Proofs.Ytkphdegelhlpeaa.Du
