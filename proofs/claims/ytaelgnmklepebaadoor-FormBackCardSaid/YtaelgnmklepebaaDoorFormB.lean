/- Plain mathematics of formulas, for the laws: blanks, outer brackets, read again. -/
import Derived.Test.YtaelgnmklepebaaDoorFormN
namespace Go.Proofs.YtaelgnmklepebaaDoor.Fm

theorem rd_err {L : Int} {s : List UInt8} {n : Nat} {f : List Nd} (h : Rd L s n f) (hn : n ≠ 0) : f = [] := by
  rcases h with ⟨_, _, h⟩ | ⟨_, _, _, _, h⟩ | ⟨_, _, _, _, _, h⟩ | ⟨_, _, _, t, _, ⟨_, _, h⟩ | ⟨_, h, _⟩⟩
  · exact h
  · exact h
  · exact h
  · exact h
  · exact absurd h hn
theorem rd_len {L : Int} {s : List UInt8} {n : Nat} {f : List Nd} (h : Rd L s n f) : f.length ≤ 40 := by
  rcases h with ⟨_, _, rfl⟩ | ⟨_, _, _, _, rfl⟩ | ⟨_, _, _, _, _, rfl⟩ | ⟨_, _, _, t, _, ⟨_, _, rfl⟩ | ⟨h, _, rfl⟩⟩
  any_goals simp
  rw [flat_length]; simpa using h
theorem rd_strip {L : Int} {s s' : List UInt8} {n : Nat} {f : List Nd} (h : Rd L s n f) (he : strip s' = strip s) (h1 : s.length ≤ 300) (h2 : s'.length ≤ 300) : Rd L s' n f := by
  rcases h with h | ⟨_, _, h, _⟩ | ⟨g1, g2, _, g⟩ | ⟨g1, g2, _, g⟩
  · exact .inl h
  · omega
  · exact .inr (.inr (.inl ⟨g1, g2, h2, by rw [he]; exact g⟩))
  · exact .inr (.inr (.inr ⟨g1, g2, h2, by rw [he]; exact g⟩))
theorem rd_blank {L : Int} {s : List UInt8} {n : Nat} {f : List Nd} (h : Rd L s n f) (h1 : s.length ≤ 298) (i : Nat) : Rd L (s.take i ++ [32] ++ s.drop i) n f := by
  refine rd_strip h ?_ (by omega) ?_
  · rw [strip_append, strip_append, show strip [32] = [] from rfl, List.append_nil, ← strip_append, List.take_append_drop]
  · simp; omega
theorem rd_par {L : Int} {s : List UInt8} {f : List Nd} (h : Rd L s 0 f) (h1 : s.length ≤ 298) : Rd L ([40] ++ s ++ [41]) 0 f := by
  rcases h with ⟨_, h, _⟩ | ⟨_, _, _, h, _⟩ | ⟨_, _, _, _, h, _⟩ | ⟨g1, g2, _, t, g, ⟨_, h, _⟩ | ⟨h3, _, h4⟩⟩
  · cases h
  · cases h
  · cases h
  · cases h
  · refine .inr (.inr (.inr ⟨g1, g2, by simp; omega, t, ?_, .inr ⟨h3, rfl, h4⟩⟩))
    rw [strip_append, strip_append, show strip [40] = [40] from rfl, show strip [41] = [41] from rfl]
    exact G.up (G.par g)
theorem rd_fact : Rd 2 [91, 48, 93] 0 [(2, 1, 0)] := by
  refine .inr (.inr (.inr ⟨by decide, by decide, by decide, .leaf 2 1, ?_, .inr ⟨by decide, rfl, rfl⟩⟩))
  exact G.up (G.set (L := 2) (ds := [0]) (by decide))
theorem rd_fact2 : Rd 2 [91, 32, 48, 93] 0 [(2, 1, 0)] := rd_strip rd_fact rfl (by decide) (by decide)
theorem rd_again {L : Int} {s : List UInt8} {f : List Nd} (h : Rd L s 0 f) : fchk L f = 0 ∧ ((ftxt f).length ≤ 300 → Rd L (ftxt f) 0 f) := by
  rcases h with ⟨_, h, _⟩ | ⟨_, _, _, h, _⟩ | ⟨_, _, _, _, h, _⟩ | ⟨g1, g2, _, t, g, ⟨_, h, _⟩ | ⟨h3, _, rfl⟩⟩
  · cases h
  · cases h
  · cases h
  · cases h
  · have hok := G_ok g
    have hp := t.size_pos
    have hl : (flat t []).length = t.size := by rw [flat_length]; simp
    refine ⟨fchk_iff.2 ⟨g1, g2, by omega, by omega, fun j m hj => ?_⟩, fun h9 => ?_⟩
    · have := flat_good t [] hok (by simp) j m hj
      rwa [show ((L.toNat : Nat) : Int) = L by omega] at this
    · have e : ftxt (flat t []) = wr t := flat_texts t [] hok
      rw [e] at h9 ⊢
      refine .inr (.inr (.inr ⟨g1, g2, h9, t, ?_, .inr ⟨h3, rfl, rfl⟩⟩))
      rw [strip_none (wr_noblank hok)]
      exact G.up (wr_reads (by omega) (by omega) hok)
end Go.Proofs.YtaelgnmklepebaaDoor.Fm
