/- Plain mathematics of the whole: supervised gates, and what is learned of an editor's output. -/
import Derived.Test.YtbciefeipiphiaaSuperM
import Derived.Test.YtbciefeipiphiaaVeilM
import Derived.Test.YtbciefeipiphiaaTopM
namespace Go.Proofs.Ytbciefeipiphiaa.Su
open Go.Proofs.Ytbciefeipiphiaa.Df Go.Proofs.Ytbciefeipiphiaa.Wo Go.Proofs.Ytbciefeipiphiaa.Rc Go.Proofs.Ytbciefeipiphiaa.Sm Go.Proofs.Ytbciefeipiphiaa.Sa Go.Proofs.Ytbciefeipiphiaa.Me

theorem preK_pre {d : Aut} (g : Good d) {v : List Int} (hv : Word d.L v) : PreK d.L (accP d) v ↔ accA (preA d) v = true := (pre_acc g hv).symm
/-- Beginnings of what is kept have a gate. -/
theorem gate_pre {d : Aut} (g : Good d) {w : List Int} (hw : Word d.L w) (ha : accA d w = true) : Ga.GGood (preA d) :=
  ⟨judge_good g, (begunB_iff (judge_good g)).1 (begunB_pre g), (pre_acc g fun a h => by simp at h).2 ⟨w, hw, ha⟩⟩
/-- No free letter that the plant can do is stopped. -/
theorem super_gate {P D : Aut} {free : Int} (gP : Good P) (gD : Good D) (hL : D.L = P.L) (hc : Ctl P free (accP D)) {v : List Int} {a : Int} (hva : Word P.L (v ++ [a]))
    (hp : accA (preA D) v = true) (hq : accA (preA P) (v ++ [a]) = true) (hf : has free a = true) : accA (preA D) (v ++ [a]) = true := by
  obtain ⟨hv, h0, h1⟩ := word_snoc.1 hva
  have hvD : Word D.L v := by rw [hL]; exact hv
  have hvaD : Word D.L (v ++ [a]) := by rw [hL]; exact hva
  have h2 := (preK_pre gD hvD).2 hp
  rw [hL] at h2
  have h3 := hc v a hv h0 h1 hf h2 ((preK_pre gP hva).2 hq)
  rw [← hL] at h3
  exact (preK_pre gD hvaD).1 h3
/-- What is seen of an accepted word is seen of one that is no secret, where all is opaque. -/
theorem opq_other {d e q : Aut} {set : Int} (hq : q.L = d.L) (h2 : ∀ w, Word d.L w → accA q w = (accA d w && !accA e w)) (h : Vl.Opq d e set) {w : List Int} (hw : Word d.L w) (ha : accA d w = true) : Vl.Seen q set (only set w) := by
  rcases he : accA e w with _ | _
  · exact ⟨w, by rw [hq]; exact hw, by rw [h2 w hw, ha, he]; rfl, rfl⟩
  · obtain ⟨u, hu, h3, h4, h5⟩ := h w hw ha he
    exact ⟨u, by rw [hq]; exact hu, by rw [h2 u hu, h3, h4]; rfl, h5⟩
theorem seen_self {d : Aut} {set : Int} {w : List Int} (hw : Word d.L w) (ha : accA d w = true) : Vl.Seen d set (only set w) := ⟨w, hw, ha, rfl⟩
end Go.Proofs.Ytbciefeipiphiaa.Su
