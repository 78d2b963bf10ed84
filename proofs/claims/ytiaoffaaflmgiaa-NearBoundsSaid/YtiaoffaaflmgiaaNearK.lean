/- What the laws of package near ask of the walks: each contract by its two ways. -/
import Derived.Test.YtiaoffaaflmgiaaNearD
import Derived.Test.YtiaoffaaflmgiaaNearC
import Derived.Test.YtiaoffaaflmgiaaWordL
namespace Go.Proofs.Ytiaoffaaflmgiaa.Ne
open Go.RowKit Go.IntWalk Go.Proofs.Ytiaoffaaflmgiaa.Wd Go.Proofs.Ytiaoffaaflmgiaa.Wo

section
variable {L : Int} {A B : Option Addr} {c d : Nat} {v z : List Int} {w : World}
theorem dist_ok (hL : Small L) (hA : IntsAt w w.heap.size A v) (hB : IntsAt w w.heap.size B z) (h1 : Fine L v) (h2 : Fine L z) :
    Calls Try.prog 7 #[.int .i64 L, .slice A v.length c, .slice B z.length d] w fun e w' => e = .returned (.tuple #[.int .i64 ((lev v z : Nat) : Int), .nilIface]) ∧ Below w.heap.size w w' :=
  (dist_any L A c v B d z w hL hA hB (by have := h1.2.1; omega) (by have := h2.2.1; omega)).mono fun e w' ⟨he, hw⟩ => ⟨by rw [he.out]; unfold distOut; rw [if_pos (chk2_iff.2 ⟨h1, h2⟩)]; rfl, hw⟩
theorem dist_bad (hL : Small L) (hA : IntsAt w w.heap.size A v) (hB : IntsAt w w.heap.size B z) (hv : v.length ≤ 17592186044416) (hz : z.length ≤ 17592186044416) (h : ¬ (Fine L v ∧ Fine L z)) :
    Calls Try.prog 7 #[.int .i64 L, .slice A v.length c, .slice B z.length d] w fun e w' => (∃ k : Int, e = .returned (.tuple #[.int .i64 0, .iface 45 (.int .i64 k)])) ∧ Below w.heap.size w w' :=
  (dist_any L A c v B d z w hL hA hB hv hz).mono fun e w' ⟨he, hw⟩ => ⟨by
    rcases hc : chk2 L v z with _ | k
    · exact absurd (chk2_iff.1 hc) h
    · exact ⟨_, by rw [he.out]; unfold distOut; rw [if_neg (by omega), hc]; rfl⟩, hw⟩
theorem com_ok (hL : Small L) (hA : IntsAt w w.heap.size A v) (hB : IntsAt w w.heap.size B z) (h1 : Fine L v) (h2 : Fine L z) (hc : v.length ≤ c) (hd : z.length ≤ d) :
    Calls Try.prog 10 #[.int .i64 L, .slice A v.length c, .slice B z.length d] w fun e w' => ∃ (X : Option Addr) (k : Nat), e = .returned (.tuple #[.slice X (com v z).length k, .nilIface]) ∧ IntsAt w' w'.heap.size X (com v z) ∧ Below w.heap.size w w' :=
  (com_any L A c v B d z w hL hA hB (by have := h1.2.1; omega) (by have := h2.2.1; omega) hc hd).mono fun e w' he => by
    obtain ⟨x, h3, h4⟩ := he.out
    have hm : comOut L v z = (com v z, 0) := by unfold comOut; rw [if_pos (chk2_iff.2 ⟨h1, h2⟩)]
    rw [hm] at h3 h4
    obtain ⟨X, k, rfl, hx⟩ := nums_at h4
    exact ⟨X, k, h3, ⟨hx, fine_small (com_fine h1)⟩, h4.2.1⟩
theorem com_bad (hL : Small L) (hA : IntsAt w w.heap.size A v) (hB : IntsAt w w.heap.size B z) (hv : v.length ≤ 17592186044416) (hz : z.length ≤ 17592186044416) (hc : v.length ≤ c) (hd : z.length ≤ d) (h : ¬ (Fine L v ∧ Fine L z)) :
    Calls Try.prog 10 #[.int .i64 L, .slice A v.length c, .slice B z.length d] w fun e w' => ∃ (X : Option Addr) (k : Nat) (i : Int), e = .returned (.tuple #[.slice X 0 k, .iface 45 (.int .i64 i)]) ∧ Below w.heap.size w w' :=
  (com_any L A c v B d z w hL hA hB hv hz hc hd).mono fun e w' he => by
    obtain ⟨x, h1, h2⟩ := he.out
    rcases hk : chk2 L v z with _ | k
    · exact absurd (chk2_iff.1 hk) h
    · have hm : comOut L v z = ([], k + 1) := by unfold comOut; rw [if_neg (by omega), hk]
      rw [hm] at h1 h2
      obtain ⟨X, k, rfl, hx⟩ := nums_at h2
      exact ⟨X, k, _, h1, h2.2.1⟩
end
end Go.Proofs.Ytiaoffaaflmgiaa.Ne
