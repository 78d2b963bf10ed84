/- What the laws of words ask of the walks: each contract by its two ways. -/
import Derived.Test.YtbciefeipiphiaaDoorWordW
import Derived.Test.YtbciefeipiphiaaDoorSame
namespace Go.Proofs.YtbciefeipiphiaaDoor.Wo
open Go.RowKit Go.IntWalk Go.Proofs.YtbciefeipiphiaaDoor.Wd

theorem fine_small {L : Int} {z : List Int} (h : Fine L z) : ∀ x ∈ z, Small x := fun x hx => by
  have := h.2.2 x hx
  have := h.1
  exact ⟨by omega, by omega⟩
theorem Fine.append {L : Int} {v z : List Int} (hv : Fine L v) (hz : Fine L z) (h : v.length + z.length ≤ 80) : Fine L (v ++ z) :=
  ⟨hv.1, by rw [List.length_append]; exact h, fun a ha => by
    rcases List.mem_append.1 ha with ha | ha
    · exact hv.2.2 a ha
    · exact hz.2.2 a ha⟩
theorem Fine.left {L : Int} {v z : List Int} (h : Fine L (v ++ z)) : Fine L v :=
  ⟨h.1, by have := h.2.1; rw [List.length_append] at this; omega, fun a ha => h.2.2 a (List.mem_append.2 (.inl ha))⟩
theorem Fine.right {L : Int} {v z : List Int} (h : Fine L (v ++ z)) : Fine L z :=
  ⟨h.1, by have := h.2.1; rw [List.length_append] at this; omega, fun a ha => h.2.2 a (List.mem_append.2 (.inr ha))⟩

section
variable {L : Int} {A B : Option Addr} {c d : Nat} {v z : List Int} {w : World}
/-- Ints of two lists that are one, behind some draws. -/
theorem ints_yes {n : Nat} (h : v = z) (hA : IntsAt w w.heap.size A v) (hB : IntsAt w w.heap.size B z) (hl : v.length ≤ 140737488355328) :
    Calls Tryd.prog 11 #[.slice A v.length c, .slice B z.length d] (w.drewN n) fun e w' => e = .returned (.bool true) ∧ ∃ m, w' = w.drewN m := by
  subst h
  refine (ints_any A B c d v v (w.drewN n) (hA.below (below_drewN (Below.refl _ _) n)) (hB.below (below_drewN (Below.refl _ _) n)) hl hl).mono ?_
  rintro e w' ⟨he, m, rfl⟩
  exact ⟨by rw [he.out]; simp, _, World.drewN_drewN _ _ _⟩
end
end Go.Proofs.YtbciefeipiphiaaDoor.Wo
