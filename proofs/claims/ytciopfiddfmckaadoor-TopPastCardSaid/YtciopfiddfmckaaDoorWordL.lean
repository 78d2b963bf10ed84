/- What the laws of words ask of the walks: each contract by its two ways. -/
import Derived.Test.YtciopfiddfmckaaDoorWordW
import Derived.Test.YtciopfiddfmckaaDoorSame
namespace Go.Proofs.YtciopfiddfmckaaDoor.Wo
open Go.RowKit Go.IntWalk Go.Proofs.YtciopfiddfmckaaDoor.Wd

theorem fine_small {L : Int} {z : List Int} (h : Fine L z) : ∀ x ∈ z, Small x := fun x hx => by
  have := h.2.2 x hx
  have := h.1
  exact ⟨by omega, by omega⟩
theorem Fine.append {L : Int} {v z : List Int} (hv : Fine L v) (hz : Fine L z) (h : v.length + z.length ≤ 80) : Fine L (v ++ z) :=
  ⟨hv.1, by rw [List.length_append]; exact h, fun a ha => by
    rcases List.mem_append.1 ha with ha | ha
    · exact hv.2.2 a ha
    · exact hz.2.2 a ha⟩
theorem Fine.left {L : Int} {v z : List Int} (h : Fine L (v ++ z)) : Fine L v :=
  ⟨h.1, by have := h.2.1; rw [List.length_append] at this; omega, fun a ha => h.2.2 a (List.mem_append.2 (.inl ha))⟩
theorem Fine.right {L : Int} {v z : List Int} (h : Fine L (v ++ z)) : Fine L z :=
  ⟨h.1, by have := h.2.1; rw [List.length_append] at this; omega, fun a ha => h.2.2 a (List.mem_append.2 (.inr ha))⟩

section
variable {L : Int} {A B : Option Addr} {c d : Nat} {v z : List Int} {w : World}
theorem mirror_ok (hL : Small L) (hA : IntsAt w w.heap.size A v) (h : Fine L v) :
    Calls Tryd.prog 41 #[.int .i64 L, .slice A v.length c] w fun e w' => ∃ (X : Option Addr) (k : Nat), e = .returned (.tuple #[.slice X v.reverse.length k, .nilIface]) ∧ IntsAt w' w'.heap.size X v.reverse ∧ Below w.heap.size w w' :=
  (mirror_any L A c v w hL hA (by have := h.2.1; omega)).mono fun e w' he => by
    obtain ⟨x, h1, h2⟩ := he.out
    have hm : mirOut L v = (v.reverse, 0) := by unfold mirOut; rw [if_pos (chk_iff.2 h)]
    rw [hm] at h1 h2
    obtain ⟨X, k, rfl, hx⟩ := nums_at h2
    exact ⟨X, k, h1, ⟨hx, fine_small (reverse_fine h)⟩, h2.2.1⟩
end
end Go.Proofs.YtciopfiddfmckaaDoor.Wo
