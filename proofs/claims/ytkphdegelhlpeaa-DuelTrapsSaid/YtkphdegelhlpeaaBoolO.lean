/- A slice of bools that came in: what reads as one. -/
import Derived.Test.YtkphdegelhlpeaaBoolT
import Derived.Deep.Matrix
import Derived.Deep.Grids
namespace Go.Proofs.Ytkphdegelhlpeaa.Df
open Go.RowKit Go.IntWalk Go.Proofs.Ytkphdegelhlpeaa.Wd Go.ChangeShapes Go.WideShapes

theorem bools_of_open {w : World} {x : Addr} {len cap : Nat} {B : Nat → Bool} (hl : len ≤ cap) (h : ∀ i, i < cap → w.cell? (x.add i) = some (.bool (B i))) :
    BoolsAt w w.heap.size (some x) ((List.range len).map B) := by
  intro k u hk
  have hlt : k < len := by have := (List.getElem?_eq_some_iff.1 hk).1; simpa using this
  rw [List.getElem?_map, List.getElem?_map, List.getElem?_range hlt] at hk
  obtain rfl := Option.some.inj hk
  have h1 := h k (by omega)
  have hlt2 := World.block_lt_of_cell? w _ h1
  rw [Wd.block_add] at hlt2
  exact ⟨x, rfl, hlt2, h1⟩
set_option maxRecDepth 100000 in
theorem bools_open {H : Type} {enc : TypeId × Value → H} {w : World} {r : Reach} {b0 : Nat} {v : Value} {x : DataW H} {p : List MemPlace} (hv : Value.okWide Try.prog w r b0 24 v)
    (h : DataW.Trod enc Try.prog w 0 (fun _ => true) true 24 v x p) : ∃ (A : Option Addr) (c : Nat) (bs : List Bool), v = .slice A bs.length c ∧ bs.length ≤ c ∧ c ≤ 9223372036854775807 ∧ BoolsAt w w.heap.size A bs := by
  obtain ⟨A, len, c, rfl⟩ := okWide_slice Try.underlying24 hv
  obtain ⟨fuel, hf⟩ := h
  rcases Go.Deep.open_bools Try.underlying24 Try.underlying4 (by kernel_rfl) hf with ⟨hcs, _⟩ | ⟨a, len, cap, B, hcs, _, hl, hm, _, hx⟩
  · simp [Value.cells] at hcs
    obtain ⟨rfl, rfl, rfl⟩ := hcs
    exact ⟨none, 0, [], rfl, by simp, by omega, BoolsAt.nil _ _ _⟩
  · unfold maxLen at hm
    simp [Value.cells] at hcs
    obtain ⟨rfl, rfl, rfl⟩ := hcs
    exact ⟨some a, c, (List.range len).map B, by simp, by simpa using hl, hm, bools_of_open hl hx⟩
end Go.Proofs.Ytkphdegelhlpeaa.Df
