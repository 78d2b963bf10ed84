/- What the laws of package near ask of the walks: each contract by its two ways. -/
import Derived.Test.YtfiknbdpjnpkdaaNearD
import Derived.Test.YtfiknbdpjnpkdaaNearC
import Derived.Test.YtfiknbdpjnpkdaaWordL
namespace Go.Proofs.Ytfiknbdpjnpkdaa.Ne
open Go.RowKit Go.IntWalk Go.Proofs.Ytfiknbdpjnpkdaa.Wd Go.Proofs.Ytfiknbdpjnpkdaa.Wo

section
variable {L : Int} {A B : Option Addr} {c d : Nat} {v z : List Int} {w : World}
theorem dist_ok (hL : Small L) (hA : IntsAt w w.heap.size A v) (hB : IntsAt w w.heap.size B z) (h1 : Fine L v) (h2 : Fine L z) :
    Calls Try.prog 9 #[.int .i64 L, .slice A v.length c, .slice B z.length d] w fun e w' => e = .returned (.tuple #[.int .i64 ((lev v z : Nat) : Int), .nilIface]) ∧ Below w.heap.size w w' :=
  (dist_any L A c v B d z w hL hA hB (by have := h1.2.1; omega) (by have := h2.2.1; omega)).mono fun e w' ⟨he, hw⟩ => ⟨by rw [he.out]; unfold distOut; rw [if_pos (chk2_iff.2 ⟨h1, h2⟩)]; rfl, hw⟩
theorem dist_bad (hL : Small L) (hA : IntsAt w w.heap.size A v) (hB : IntsAt w w.heap.size B z) (hv : v.length ≤ 17592186044416) (hz : z.length ≤ 17592186044416) (h : ¬ (Fine L v ∧ Fine L z)) :
    Calls Try.prog 9 #[.int .i64 L, .slice A v.length c, .slice B z.length d] w fun e w' => (∃ k : Int, e = .returned (.tuple #[.int .i64 0, .iface 55 (.int .i64 k)])) ∧ Below w.heap.size w w' :=
  (dist_any L A c v B d z w hL hA hB hv hz).mono fun e w' ⟨he, hw⟩ => ⟨by
    rcases hc : chk2 L v z with _ | k
    · exact absurd (chk2_iff.1 hc) h
    · exact ⟨_, by rw [he.out]; unfold distOut; rw [if_neg (by omega), hc]; rfl⟩, hw⟩
end
end Go.Proofs.Ytfiknbdpjnpkdaa.Ne
