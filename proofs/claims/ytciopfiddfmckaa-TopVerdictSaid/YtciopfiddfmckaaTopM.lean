/- Plain mathematics of the whole: gates and verdicts, gates and formulas that look back. -/
import Derived.Test.YtciopfiddfmckaaGateM
import Derived.Test.YtciopfiddfmckaaVerM
namespace Go.Proofs.Ytciopfiddfmckaa.Ga
open Go.Proofs.Ytciopfiddfmckaa.Df Go.Proofs.Ytciopfiddfmckaa.Wo Go.Proofs.Ytciopfiddfmckaa.Rc Go.Proofs.Ytciopfiddfmckaa.Sm Go.Proofs.Ytciopfiddfmckaa.Sa Go.Proofs.Ytciopfiddfmckaa.Ve

/-- A gate to which a word was offered is shut just if the word is not accepted. -/
theorem shut_acc {d : Aut} (h : GGood d) {w : List Int} (hw : Word d.L w) (hl : w.length ≤ 80) : (offers d (gate0 d) w).shut = !accA d w := by
  obtain ⟨_, h2⟩ := offers_all d w (g := gate0 d) rfl (by show (gate0 d).out.length + w.length ≤ 80; simp [gate0]; omega)
  rw [lets_self hw] at h2
  rw [h2]
  show decide (pass d d.s.toNat w < w.length) = _
  obtain ⟨p1, p2⟩ := pass_longest h hw
  have hp := pass_le d d.s.toNat w
  by_cases hlt : pass d d.s.toNat w < w.length
  · have := p2 w.length hlt (Nat.le_refl _)
    rw [List.take_length] at this
    rw [this, decide_eq_true hlt]; rfl
  · have := p1 w.length (by omega)
    rw [List.take_length] at this
    rw [this, decide_eq_false hlt]; rfl
theorem out_acc {d : Aut} (h : GGood d) {w : List Int} (hw : Word d.L w) (hl : w.length ≤ 80) (ha : accA d w = true) : (offers d (gate0 d) w).out = w := by
  obtain ⟨h1, _⟩ := offers_all d w (g := gate0 d) rfl (by show (gate0 d).out.length + w.length ≤ 80; simp [gate0]; omega)
  rw [lets_self hw] at h1
  rw [h1]
  show ([] : List Int) ++ w.take (pass d d.s.toNat w) = w
  have e : pass d d.s.toNat w = w.length := pass_is h hw (Nat.le_refl _) (by rw [List.take_length]; exact ha) fun k hk hk2 => by omega
  rw [e, List.take_length, List.nil_append]
/-- One letter more passes just if the word with it is accepted; there is no error. -/
theorem offer_acc {d : Aut} (h : GGood d) {w : List Int} {a : Int} (hw : Word d.L (w ++ [a])) (hl : w.length < 80) :
    (offer d (offers d (gate0 d) w) a).1 = 0 ∧ (offer d (offers d (gate0 d) w) a).2.1 = accA d (w ++ [a]) ∧ (offer d (offers d (gate0 d) w) a).2.2.shut = !accA d (w ++ [a]) := by
  have hv : Word d.L w := fun x hx => hw x (List.mem_append_left _ hx)
  have ha := hw a (by simp)
  have hi : isL d a = true := isL_iff.2 ha
  have hs := shut_acc h hv (by omega)
  have h3 : (offer d (offers d (gate0 d) w) a).2.2.shut = !accA d (w ++ [a]) := by
    rw [← offers_snoc]; exact shut_acc h hw (by simp; omega)
  refine ⟨?_, ?_, h3⟩
  · rcases offer_ways d (offers d (gate0 d) w) a with ⟨h1, _⟩ | ⟨_, _, e⟩ | ⟨_, h2, h8, e⟩ | ⟨_, _, _, _, e⟩ | ⟨_, _, _, _, e⟩
    · rw [hi] at h1; cases h1
    · rw [e]
    · rw [hs] at h2
      have h2 : accA d w = true := by simpa using h2
      rw [out_acc h hv (by omega) h2] at h8; omega
    · rw [e]
    · rw [e]
  · rcases offer_ways d (offers d (gate0 d) w) a with ⟨h1, _⟩ | ⟨_, h2, e⟩ | ⟨_, h2, h8, e⟩ | ⟨_, _, _, _, e⟩ | ⟨_, _, _, _, e⟩
    · rw [hi] at h1; cases h1
    · rw [e] at h3 ⊢
      rw [h2] at h3
      show false = _
      revert h3
      generalize accA d (w ++ [a]) = b
      cases b <;> decide
    · rw [hs] at h2
      have h2 : accA d w = true := by simpa using h2
      rw [out_acc h hv (by omega) h2] at h8; omega
    · rw [e] at h3 ⊢
      have h3 : false = !accA d (w ++ [a]) := h3
      show true = _
      revert h3
      generalize accA d (w ++ [a]) = b
      cases b <;> decide
    · rw [e] at h3 ⊢
      have h3 : true = !accA d (w ++ [a]) := h3
      show false = _
      revert h3
      generalize accA d (w ++ [a]) = b
      cases b <;> decide
theorem offer_wrong {d : Aut} {w : List Int} {a : Int} (ha : ¬ (0 ≤ a ∧ a < d.L)) : offer d (offers d (gate0 d) w) a = (1, false, offers d (gate0 d) w) := by
  refine offer_bad ?_
  rcases h : isL d a with _ | _
  · rfl
  · exact absurd (isL_iff.1 h) ha
/-- A gate of a safe language is shut just if the verdict is Never; and it is never NotNow. -/
theorem verd_shut {d : Aut} (h : GGood d) {w : List Int} (hw : Word d.L w) (hl : w.length ≤ 80) :
    verd d (runA d d.s.toNat w) ≠ 1 ∧ ((offers d (gate0 d) w).shut = true ↔ verd d (runA d d.s.toNat w) = 0) := by
  have hs := h.good.run_lt hw h.good.s_lt
  have h0 := verd_zero h.good hs
  have h2 := verd_two h.good hs
  rw [shut_acc h hw hl]
  rcases ha : accA d w with _ | _
  · have hz : verd d (runA d d.s.toNat w) = 0 := h0.2 fun u hu => by
      rcases hu2 : finA d (runA d (runA d d.s.toNat w) u) with _ | _
      · rfl
      · have : accA d w = true := h.safe w u hw hu (by unfold accA; rw [runA_append]; exact hu2)
        rw [ha] at this; cases this
    rw [hz]; simp
  · have : 2 ≤ verd d (runA d d.s.toNat w) := h2.2 ha
    constructor
    · omega
    · simp; omega
/-- A gate of Always lets pass as long as all beginnings are accepted. -/
theorem gate_always {d : Aut} (g : Good d) (he : accA d [] = true) : GGood (stopA false d) := ⟨stop_good g, begun_always g, he⟩
theorem no_gate {d : Aut} (g : Good d) (he : accA d [] = false) : gchk (stopA false d) = 8 := by
  unfold gchk
  have hg : dchk (stopA false d) = 0 := dchk_iff.2 (stop_good g)
  have hc := (class_odd (stopA false d)).2 ((begunB_iff (stop_good g)).2 (begun_always g))
  rw [if_neg (fun k => k hg), if_neg (by omega), if_pos (by rw [always_empty]; exact he)]
theorem allB_last {d : Aut} (w : List Int) (a : Int) : allB d (w ++ [a]) (w.length + 2) = (allB d w (w.length + 1) && accA d (w ++ [a])) := by
  rw [allB_succ, List.take_of_length_le (by simp)]
  congr 1
  unfold allB
  have : ∀ k ∈ List.range (w.length + 1), accA d ((w ++ [a]).take k) = accA d (w.take k) := fun k hk => by
    rw [List.take_append_of_le_length (by have := List.mem_range.1 hk; omega)]
  rw [Bool.eq_iff_iff, List.all_eq_true, List.all_eq_true]
  exact ⟨fun h k hk => by rw [← this k hk]; exact h k hk, fun h k hk => by rw [this k hk]; exact h k hk⟩
theorem offer_always {d : Aut} (g : Good d) (he : accA d [] = true) {w : List Int} {a : Int} (hw : Word d.L (w ++ [a])) (hl : w.length < 80) :
    (offer (stopA false d) (offers (stopA false d) (gate0 (stopA false d)) w) a).1 = 0 ∧
      (offer (stopA false d) (offers (stopA false d) (gate0 (stopA false d)) w) a).2.1 = (allB d w (w.length + 1) && accA d (w ++ [a])) ∧
      (offer (stopA false d) (offers (stopA false d) (gate0 (stopA false d)) w) a).2.2.shut = !(allB d w (w.length + 1) && accA d (w ++ [a])) := by
  have h1 := offer_acc (gate_always g he) (w := w) (a := a) hw hl
  rw [always_all g hw, List.length_append] at h1
  simp only [List.length_cons, List.length_nil, Nat.zero_add] at h1
  rw [allB_last] at h1
  exact h1
end Go.Proofs.Ytciopfiddfmckaa.Ga
