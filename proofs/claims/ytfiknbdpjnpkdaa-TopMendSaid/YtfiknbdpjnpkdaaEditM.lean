/- Plain mathematics of package edit: letters that are offered, what goes out, what is held. -/
import Derived.Test.YtfiknbdpjnpkdaaTopM
namespace Go.Proofs.Ytfiknbdpjnpkdaa.Ed
open Go.Proofs.Ytfiknbdpjnpkdaa.Df Go.Proofs.Ytfiknbdpjnpkdaa.Wo Go.Proofs.Ytfiknbdpjnpkdaa.Rc Go.Proofs.Ytfiknbdpjnpkdaa.Sm Go.Proofs.Ytfiknbdpjnpkdaa.Sa Go.Proofs.Ytfiknbdpjnpkdaa.Ga

/-- An editor: the state behind all that it took, what went out, what is held. -/
structure Et where
  s : Nat
  out : List Int
  held : List Int
/-- A letter is offered: the error, what goes out, and the editor then. -/
def eoffer (d : Aut) (e : Et) (a : Int) : Nat × List Int × Et :=
  if isL d a = false then (1, [], e) else if 80 ≤ e.out.length + e.held.length then (4, [], e) else
    if finA d (step d e.s a.toNat) = true then (0, e.held ++ [a], ⟨step d e.s a.toNat, e.out ++ (e.held ++ [a]), []⟩) else (0, [], ⟨step d e.s a.toNat, e.out, e.held ++ [a]⟩)
def edit0 (d : Aut) : Et := ⟨d.s.toNat, [], []⟩
/-- What is wrong with an automaton for an editor. -/
def echk (d : Aut) : Nat := if dchk d ≠ 0 then dchk d else if accA d [] = false then 8 else 0
theorem echk_iff {d : Aut} : echk d = 0 ↔ Good d ∧ accA d [] = true := by
  unfold echk
  constructor
  · intro h
    split at h
    · omega
    rename_i h1
    have g := dchk_iff.1 (Decidable.not_not.1 h1)
    split at h
    · omega
    rename_i h3
    exact ⟨g, by simpa using h3⟩
  · rintro ⟨g, he⟩
    rw [if_neg (fun h => h (dchk_iff.2 g)), if_neg (by rw [he]; decide)]
/-- An editor that is as it should be, and what it took. -/
structure Eok (d : Aut) (e : Et) (w : List Int) : Prop where
  all : e.out ++ e.held = w
  word : Word d.L w
  st : e.s = runA d d.s.toNat w
  acc : accA d e.out = true
  no : ∀ k, e.out.length < k → k ≤ w.length → accA d (w.take k) = false
  len : w.length ≤ 80
theorem eok_start {d : Aut} (h : accA d [] = true) : Eok d (edit0 d) [] := ⟨rfl, fun a ha => by simp at ha, rfl, h, fun k h1 h2 => by simp [edit0] at h1 h2; omega, by simp⟩
theorem eoffer_bad {d : Aut} {e : Et} {a : Int} (h : isL d a = false) : eoffer d e a = (1, [], e) := if_pos h
theorem eoffer_full {d : Aut} {e : Et} {a : Int} (h : isL d a = true) (hl : 80 ≤ e.out.length + e.held.length) : eoffer d e a = (4, [], e) := by unfold eoffer; rw [if_neg (by rw [h]; decide), if_pos hl]
theorem eoffer_out {d : Aut} {e : Et} {a : Int} (h : isL d a = true) (hl : e.out.length + e.held.length < 80) (hf : finA d (step d e.s a.toNat) = true) : eoffer d e a = (0, e.held ++ [a], ⟨step d e.s a.toNat, e.out ++ (e.held ++ [a]), []⟩) := by
  unfold eoffer; rw [if_neg (by rw [h]; decide), if_neg (by omega), if_pos hf]
theorem eoffer_hold {d : Aut} {e : Et} {a : Int} (h : isL d a = true) (hl : e.out.length + e.held.length < 80) (hf : finA d (step d e.s a.toNat) = false) : eoffer d e a = (0, [], ⟨step d e.s a.toNat, e.out, e.held ++ [a]⟩) := by
  unfold eoffer; rw [if_neg (by rw [h]; decide), if_neg (by omega), if_neg (by rw [hf]; decide)]
/-- The four ways. -/
theorem eoffer_ways (d : Aut) (e : Et) (a : Int) : (isL d a = false ∧ eoffer d e a = (1, [], e)) ∨ (isL d a = true ∧ 80 ≤ e.out.length + e.held.length ∧ eoffer d e a = (4, [], e)) ∨
    (isL d a = true ∧ e.out.length + e.held.length < 80 ∧ finA d (step d e.s a.toNat) = true ∧ eoffer d e a = (0, e.held ++ [a], ⟨step d e.s a.toNat, e.out ++ (e.held ++ [a]), []⟩)) ∨
    (isL d a = true ∧ e.out.length + e.held.length < 80 ∧ finA d (step d e.s a.toNat) = false ∧ eoffer d e a = (0, [], ⟨step d e.s a.toNat, e.out, e.held ++ [a]⟩)) := by
  rcases h : isL d a with _ | _
  · exact .inl ⟨rfl, eoffer_bad h⟩
  · by_cases hl : 80 ≤ e.out.length + e.held.length
    · exact .inr (.inl ⟨rfl, hl, eoffer_full h hl⟩)
    · rcases hf : finA d (step d e.s a.toNat) with _ | _
      · exact .inr (.inr (.inr ⟨rfl, by omega, rfl, eoffer_hold h (by omega) hf⟩))
      · exact .inr (.inr (.inl ⟨rfl, by omega, rfl, eoffer_out h (by omega) hf⟩))
/-- Taken just if there is no error. -/
def took (d : Aut) (e : Et) (a : Int) (w : List Int) : List Int := if (eoffer d e a).1 = 0 then w ++ [a] else w
theorem eok_offer {d : Aut} {e : Et} {w : List Int} (h : Eok d e w) (a : Int) : Eok d (eoffer d e a).2.2 (took d e a w) := by
  unfold took
  have hlen : e.out.length + e.held.length = w.length := by rw [← h.all, List.length_append]
  rcases eoffer_ways d e a with ⟨_, q⟩ | ⟨_, _, q⟩ | ⟨hl, h80, hf, q⟩ | ⟨hl, h80, hf, q⟩
  · rw [q]; exact h
  · rw [q]; exact h
  · rw [q]
    obtain ⟨h0, h1⟩ := isL_iff.1 hl
    have e1 : e.out ++ (e.held ++ [a]) = w ++ [a] := by rw [← List.append_assoc, h.all]
    refine ⟨?_, word_one h.word h0 h1, ?_, ?_, ?_, ?_⟩
    · show (e.out ++ (e.held ++ [a])) ++ [] = _
      rw [List.append_nil, e1]; rfl
    · show step d e.s a.toNat = runA d d.s.toNat (w ++ [a])
      rw [step_last, ← h.st]
    · show accA d (e.out ++ (e.held ++ [a])) = true
      rw [e1]
      unfold accA
      rw [step_last, ← h.st]; exact hf
    · intro k k1 k2
      have k1 : (e.out ++ (e.held ++ [a])).length < k := k1
      have k2 : k ≤ (w ++ [a]).length := k2
      rw [e1] at k1
      omega
    · show (w ++ [a]).length ≤ 80
      rw [List.length_append]; simp; omega
  · rw [q]
    obtain ⟨h0, h1⟩ := isL_iff.1 hl
    refine ⟨?_, word_one h.word h0 h1, ?_, h.acc, ?_, ?_⟩
    · show e.out ++ (e.held ++ [a]) = w ++ [a]
      rw [← List.append_assoc, h.all]
    · show step d e.s a.toNat = runA d d.s.toNat (w ++ [a])
      rw [step_last, ← h.st]
    · intro k k1 k2
      have k2 : k ≤ (w ++ [a]).length := k2
      rw [List.length_append] at k2
      simp only [List.length_singleton] at k2
      show accA d ((w ++ [a]).take k) = false
      by_cases hk : k ≤ w.length
      · rw [List.take_append_of_le_length hk]; exact h.no k k1 hk
      · rw [List.take_of_length_le (by rw [List.length_append]; simp; omega)]
        unfold accA
        rw [step_last, ← h.st]; exact hf
    · show (w ++ [a]).length ≤ 80
      rw [List.length_append]; simp; omega
/-- The longest beginning that is accepted is out. -/
theorem eok_out {d : Aut} {e : Et} {w : List Int} (h : Eok d e w) : e.out = w.take e.out.length ∧ e.out.length ≤ w.length := by
  rw [← h.all]
  exact ⟨by rw [List.take_left], by rw [List.length_append]; omega⟩
theorem eok_good {d : Aut} {e : Et} {w : List Int} (h : Eok d e w) : accA d w = decide (e.held.length = 0) := by
  have hlen : e.out.length + e.held.length = w.length := by rw [← h.all, List.length_append]
  by_cases h0 : e.held.length = 0
  · rw [decide_eq_true h0]
    have e0 : e.held = [] := List.length_eq_zero_iff.1 h0
    have := h.all
    rw [e0, List.append_nil] at this
    rw [← this]; exact h.acc
  · rw [decide_eq_false h0]
    have := h.no w.length (by omega) (Nat.le_refl _)
    rwa [List.take_length] at this
theorem eok_clear {d : Aut} {e : Et} {w : List Int} (h : Eok d e w) (hg : accA d w = true) : e.out = w := by
  have := eok_good h
  rw [hg] at this
  have e0 : e.held = [] := List.length_eq_zero_iff.1 (of_decide_eq_true this.symm)
  have h2 := h.all
  rwa [e0, List.append_nil] at h2
/-- Of a safe policy it is a gate. -/
theorem eok_gate {d : Aut} {e : Et} {w : List Int} (hd : GGood d) (h : Eok d e w) : e.out = w.take (pass d d.s.toNat w) := by
  obtain ⟨h1, h2⟩ := eok_out h
  have hp := pass_is hd h.word (n := e.out.length) h2 (by rw [← h1]; exact h.acc) (fun k k1 k2 => h.no k k1 k2)
  rw [hp]; exact h1
/-- All of a list is offered: the editor and what it took. -/
def eoffers (d : Aut) (p : Et × List Int) (l : List Int) : Et × List Int := l.foldl (fun p a => ((eoffer d p.1 a).2.2, took d p.1 a p.2)) p
theorem eoffers_snoc (d : Aut) (p : Et × List Int) (l : List Int) (a : Int) : eoffers d p (l ++ [a]) = ((eoffer d (eoffers d p l).1 a).2.2, took d (eoffers d p l).1 a (eoffers d p l).2) := by unfold eoffers; rw [List.foldl_append]; rfl
theorem eoffers_take (d : Aut) (p : Et × List Int) (l : List Int) {k : Nat} (hk : k < l.length) : eoffers d p (l.take (k + 1)) = ((eoffer d (eoffers d p (l.take k)).1 l[k]).2.2, took d (eoffers d p (l.take k)).1 l[k] (eoffers d p (l.take k)).2) := by rw [← eoffers_snoc, List.take_append_getElem]
theorem eok_offers {d : Aut} {p : Et × List Int} (h : Eok d p.1 p.2) (l : List Int) : Eok d (eoffers d p l).1 (eoffers d p l).2 := by
  induction l generalizing p with
  | nil => exact h
  | cons a l ih => exact ih (p := ((eoffer d p.1 a).2.2, took d p.1 a p.2)) (eok_offer h a)
/-- As long as no more than 80 are offered all letters are taken. -/
theorem eoffers_lets (d : Aut) : ∀ (l : List Int) {p : Et × List Int}, Eok d p.1 p.2 → p.2.length + l.length ≤ 80 → (eoffers d p l).2 = p.2 ++ lets d l
  | [], p, _, _ => by simp [eoffers, lets]
  | a :: l, p, h, hl => by
    simp only [List.length_cons] at hl
    have hlen : p.1.out.length + p.1.held.length = p.2.length := by rw [← h.all, List.length_append]
    have e0 : eoffers d p (a :: l) = eoffers d ((eoffer d p.1 a).2.2, took d p.1 a p.2) l := rfl
    have h2 := eok_offer h a
    rw [e0]
    rcases eoffer_ways d p.1 a with ⟨hi, q⟩ | ⟨_, h8, q⟩ | ⟨hi, _, _, q⟩ | ⟨hi, _, _, q⟩
    · have et : took d p.1 a p.2 = p.2 := by unfold took; rw [q]; rfl
      have el : lets d (a :: l) = lets d l := by unfold lets; rw [List.filter_cons_of_neg (by rw [hi]; decide)]
      rw [eoffers_lets d l (p := ((eoffer d p.1 a).2.2, took d p.1 a p.2)) h2 (by show (took d p.1 a p.2).length + _ ≤ 80; rw [et]; omega), el]
      show took d p.1 a p.2 ++ _ = _
      rw [et]
    · omega
    all_goals
      have et : took d p.1 a p.2 = p.2 ++ [a] := by unfold took; rw [q]; rfl
      have el : lets d (a :: l) = a :: lets d l := by unfold lets; rw [List.filter_cons_of_pos hi]
      rw [eoffers_lets d l (p := ((eoffer d p.1 a).2.2, took d p.1 a p.2)) h2 (by show (took d p.1 a p.2).length + _ ≤ 80; rw [et, List.length_append]; simp; omega), el]
      show took d p.1 a p.2 ++ _ = _
      rw [et]; simp
end Go.Proofs.Ytfiknbdpjnpkdaa.Ed
