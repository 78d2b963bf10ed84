/- For the law TopWays: many formulas of one automaton; a text with Not of Not ahead of it. -/
import Derived.Test.YtloihkoamccacaaGreatDoorBackQ
import Derived.Test.YtloihkoamccacaaGreatDoorMeanL
namespace Go.Proofs.YtloihkoamccacaaGreatDoor.Fm
open Go.Proofs.YtloihkoamccacaaGreatDoor.Df Go.Proofs.YtloihkoamccacaaGreatDoor.Sm

theorem un_not {L : Nat} {s : List UInt8} {t : Tree} (h : G L 0 s t) : G L 0 (33 :: s) (.un 3 t) := .un (.inl ⟨rfl, rfl⟩) h
/-- What is read of a formula's text behind Not of Not. -/
theorem rd_twice {L : Int} {f : List Nd} (g : FGood L f) :
    Rd L (33 :: 33 :: ftxt f) 4 [] ∨ (FGood L (flat (.un 3 (.un 3 (root f))) []) ∧ Rd L (33 :: 33 :: ftxt f) 0 (flat (.un 3 (.un 3 (root f))) []) ∧ ∀ z, fval (flat (.un 3 (.un 3 (root f))) []) z = fval f z) := by
  have ho := root_ok g
  have h1 := g.l1
  have h6 := g.l6
  by_cases h3 : 300 < (33 :: 33 :: ftxt f).length
  · exact .inl (.inr (.inl ⟨h1, h6, h3, rfl, rfl⟩))
  have hG : G L.toNat 3 (strip (33 :: 33 :: ftxt f)) (.un 3 (.un 3 (root f))) := by
    rw [ftxt_wr g, strip_none (fun c hc => by
      rcases List.mem_cons.1 hc with rfl | hc
      · decide
      rcases List.mem_cons.1 hc with rfl | hc
      · decide
      exact wr_noblank ho c hc)]
    exact G.up (un_not (un_not (wr_reads (by omega) (by omega) ho)))
  have ho2 : Ok L.toNat (.un 3 (.un 3 (root f))) := ⟨.inl rfl, .inl rfl, ho⟩
  by_cases hs : 40 < (Tree.un 3 (.un 3 (root f))).size
  · exact .inl (.inr (.inr (.inr ⟨h1, h6, by omega, _, hG, .inl ⟨hs, rfl, rfl⟩⟩)))
  · refine .inr ⟨flat_fgood h1 h6 ho2 (by omega), .inr (.inr (.inr ⟨h1, h6, by omega, _, hG, .inr ⟨by omega, rfl, rfl⟩⟩)), fun z => ?_⟩
    rw [fval_root, fval_root, root_flat ho2]
    show (!!val1 z (root f) 0) = _
    rw [Bool.not_not]
/-- Another formula of the same words has the same automaton, or none. -/
theorem mk_same {L : Int} {f : List Nd} {l : List (List Bool)} {m : List (List Nat)} (g : FGood L f) (hl : found (backS L f) (vec f []) = some l) (hm : found (Nf.T (Nf.mir (Nf.ofA (backA L f l)))) (Nf.beg (Nf.mir (Nf.ofA (backA L f l)))) = some m)
    {p : List Nd} (v : ∀ z, fval p z = fval f z) : mkOut L p = (frontA L f l m, 0) ∨ ∃ k, mkOut L p = (zeroA, k + 1) := by
  rcases mk_cases L p with ⟨l', m', gp, hl', hm', h⟩ | ⟨k, h, _⟩
  · left
    rw [h, ← front_of gp hl' hm' (front_good g hl hm) rfl (fun w hw => by rw [front_acc g hl hm hw]; exact (v w).symm), front_min g hl hm]
  · exact .inr ⟨k, h⟩
end Go.Proofs.YtloihkoamccacaaGreatDoor.Fm
