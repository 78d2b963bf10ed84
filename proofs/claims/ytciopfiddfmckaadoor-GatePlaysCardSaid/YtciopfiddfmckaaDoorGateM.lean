/- Plain mathematics of package gate: letters that are offered, what passes. -/
import Derived.Test.YtciopfiddfmckaaDoorSafeM
namespace Go.Proofs.YtciopfiddfmckaaDoor.Ga
open Go.Proofs.YtciopfiddfmckaaDoor.Df Go.Proofs.YtciopfiddfmckaaDoor.Wo Go.Proofs.YtciopfiddfmckaaDoor.Rc Go.Proofs.YtciopfiddfmckaaDoor.Sm Go.Proofs.YtciopfiddfmckaaDoor.Sa

/-- A gate: the state behind what has passed, what has passed, is it shut? -/
structure Gt where
  s : Nat
  out : List Int
  shut : Bool
def isL (d : Aut) (a : Int) : Bool := decide (0 ≤ a) && decide (a < d.L)
/-- A letter is offered: the error, does it pass, and the gate then. -/
def offer (d : Aut) (g : Gt) (a : Int) : Nat × Bool × Gt :=
  if isL d a = false then (1, false, g) else if g.shut = true then (0, false, g) else if 80 ≤ g.out.length then (4, false, g) else
    if finA d (step d g.s a.toNat) = true then (0, true, ⟨step d g.s a.toNat, g.out ++ [a], false⟩) else (0, false, ⟨g.s, g.out, true⟩)
def offers (d : Aut) (g : Gt) (l : List Int) : Gt := l.foldl (fun g a => (offer d g a).2.2) g
def gate0 (d : Aut) : Gt := ⟨d.s.toNat, [], false⟩
/-- What is wrong with an automaton for a gate. -/
def gchk (d : Aut) : Nat := if dchk d ≠ 0 then dchk d else if classA d % 2 = 0 then 3 else if accA d [] = false then 8 else 0
structure GGood (d : Aut) : Prop where
  good : Good d
  safe : Begun d
  empty : accA d [] = true
theorem gchk_iff {d : Aut} : gchk d = 0 ↔ GGood d := by
  unfold gchk
  constructor
  · intro h
    split at h
    · omega
    rename_i h1
    have g := dchk_iff.1 (Decidable.not_not.1 h1)
    split at h
    · omega
    rename_i h2
    split at h
    · omega
    rename_i h3
    exact ⟨g, (begunB_iff g).1 ((class_odd d).1 (by omega)), by simpa using h3⟩
  · rintro ⟨g, hb, he⟩
    rw [if_neg (fun h => h (dchk_iff.2 g)), if_neg (by have := (class_odd d).2 ((begunB_iff g).2 hb); omega), if_neg (by rw [he]; decide)]
/-- The gate is as it should be. -/
structure Gok (d : Aut) (g : Gt) : Prop where
  word : Word d.L g.out
  st : g.s = runA d d.s.toNat g.out
  acc : accA d g.out = true
  len : g.out.length ≤ 80
theorem gok_start {d : Aut} (h : GGood d) : Gok d (gate0 d) := ⟨fun a ha => by simp [gate0] at ha, rfl, h.empty, by simp [gate0]⟩
theorem isL_iff {d : Aut} {a : Int} : isL d a = true ↔ 0 ≤ a ∧ a < d.L := by unfold isL; simp
theorem word_one {L a : Int} {w : List Int} (hw : Word L w) (h0 : 0 ≤ a) (h1 : a < L) : Word L (w ++ [a]) := fun x hx => by
  rcases List.mem_append.1 hx with hx | hx
  · exact hw x hx
  · simp at hx; subst hx; exact ⟨h0, h1⟩
theorem offer_bad {d : Aut} {g : Gt} {a : Int} (h : isL d a = false) : offer d g a = (1, false, g) := if_pos h
theorem offer_shut {d : Aut} {g : Gt} {a : Int} (h : isL d a = true) (hs : g.shut = true) : offer d g a = (0, false, g) := by unfold offer; rw [if_neg (by rw [h]; decide), if_pos hs]
theorem offer_full {d : Aut} {g : Gt} {a : Int} (h : isL d a = true) (hs : g.shut = false) (hl : 80 ≤ g.out.length) : offer d g a = (4, false, g) := by unfold offer; rw [if_neg (by rw [h]; decide), if_neg (by rw [hs]; decide), if_pos hl]
theorem offer_pass {d : Aut} {g : Gt} {a : Int} (h : isL d a = true) (hs : g.shut = false) (hl : g.out.length < 80) (hf : finA d (step d g.s a.toNat) = true) : offer d g a = (0, true, ⟨step d g.s a.toNat, g.out ++ [a], false⟩) := by
  unfold offer; rw [if_neg (by rw [h]; decide), if_neg (by rw [hs]; decide), if_neg (by omega), if_pos hf]
theorem offer_stop {d : Aut} {g : Gt} {a : Int} (h : isL d a = true) (hs : g.shut = false) (hl : g.out.length < 80) (hf : finA d (step d g.s a.toNat) = false) : offer d g a = (0, false, ⟨g.s, g.out, true⟩) := by
  unfold offer; rw [if_neg (by rw [h]; decide), if_neg (by rw [hs]; decide), if_neg (by omega), if_neg (by rw [hf]; decide)]
/-- The five ways. -/
theorem offer_ways (d : Aut) (g : Gt) (a : Int) : (isL d a = false ∧ offer d g a = (1, false, g)) ∨ (isL d a = true ∧ g.shut = true ∧ offer d g a = (0, false, g)) ∨ (isL d a = true ∧ g.shut = false ∧ 80 ≤ g.out.length ∧ offer d g a = (4, false, g)) ∨
    (isL d a = true ∧ g.shut = false ∧ g.out.length < 80 ∧ finA d (step d g.s a.toNat) = true ∧ offer d g a = (0, true, ⟨step d g.s a.toNat, g.out ++ [a], false⟩)) ∨
    (isL d a = true ∧ g.shut = false ∧ g.out.length < 80 ∧ finA d (step d g.s a.toNat) = false ∧ offer d g a = (0, false, ⟨g.s, g.out, true⟩)) := by
  rcases h : isL d a with _ | _
  · exact .inl ⟨rfl, offer_bad h⟩
  · rcases hs : g.shut with _ | _
    · by_cases hl : 80 ≤ g.out.length
      · exact .inr (.inr (.inl ⟨rfl, rfl, hl, offer_full h hs hl⟩))
      · rcases hf : finA d (step d g.s a.toNat) with _ | _
        · exact .inr (.inr (.inr (.inr ⟨rfl, rfl, by omega, rfl, offer_stop h hs (by omega) hf⟩)))
        · exact .inr (.inr (.inr (.inl ⟨rfl, rfl, by omega, rfl, offer_pass h hs (by omega) hf⟩)))
    · exact .inr (.inl ⟨rfl, rfl, offer_shut h hs⟩)
theorem step_last (d : Aut) (q : Nat) (w : List Int) (a : Int) : runA d q (w ++ [a]) = step d (runA d q w) a.toNat := by rw [runA_append]; rfl
theorem gok_offer {d : Aut} {g : Gt} (h : Gok d g) (a : Int) : Gok d (offer d g a).2.2 := by
  rcases offer_ways d g a with ⟨_, e⟩ | ⟨_, _, e⟩ | ⟨_, _, _, e⟩ | ⟨hl, _, h80, hf, e⟩ | ⟨_, _, _, _, e⟩
  · rw [e]; exact h
  · rw [e]; exact h
  · rw [e]; exact h
  · rw [e]
    obtain ⟨h0, h1⟩ := isL_iff.1 hl
    refine ⟨word_one h.word h0 h1, ?_, ?_, by show (g.out ++ [a]).length ≤ 80; rw [List.length_append]; simp; omega⟩
    · show step d g.s a.toNat = _
      rw [step_last, ← h.st]
    · show accA d (g.out ++ [a]) = true
      unfold accA
      rw [step_last, ← h.st]; exact hf
  · rw [e]; exact ⟨h.word, h.st, h.acc, h.len⟩
theorem offers_snoc (d : Aut) (g : Gt) (l : List Int) (a : Int) : offers d g (l ++ [a]) = (offer d (offers d g l) a).2.2 := by unfold offers; rw [List.foldl_append]; rfl
theorem offers_take (d : Aut) (g : Gt) (l : List Int) {k : Nat} (hk : k < l.length) : offers d g (l.take (k + 1)) = (offer d (offers d g (l.take k)) l[k]).2.2 := by rw [← offers_snoc, List.take_append_getElem]
theorem gok_offers {d : Aut} {g : Gt} (h : Gok d g) (l : List Int) : Gok d (offers d g l) := by
  induction l generalizing g with
  | nil => exact h
  | cons a l ih => exact ih (gok_offer h a)
/-- The letters among what is offered. -/
def lets (d : Aut) (l : List Int) : List Int := l.filter (isL d)
theorem lets_word (d : Aut) (l : List Int) : Word d.L (lets d l) := fun _ ha => isL_iff.1 (List.mem_filter.1 ha).2
theorem lets_len (d : Aut) (l : List Int) : (lets d l).length ≤ l.length := List.length_filter_le _ _
theorem lets_snoc (d : Aut) (l : List Int) (a : Int) : lets d (l ++ [a]) = lets d l ++ (if isL d a then [a] else []) := by
  unfold lets; rw [List.filter_append]
  congr 1
  rcases h : isL d a with _ | _ <;> simp [h]
theorem lets_self {d : Aut} {w : List Int} (hw : Word d.L w) : lets d w = w := List.filter_eq_self.2 fun _ ha => isL_iff.2 (hw _ ha)
/-- How many letters of a word pass from a state on. -/
def pass (d : Aut) : Nat → List Int → Nat
  | _, [] => 0
  | q, a :: w => if finA d (step d q a.toNat) = true then pass d (step d q a.toNat) w + 1 else 0
theorem pass_le (d : Aut) : ∀ (q : Nat) (w : List Int), pass d q w ≤ w.length
  | _, [] => Nat.le_refl _
  | q, a :: w => by unfold pass; split; have := pass_le d (step d q a.toNat) w; simp; omega; simp
theorem offers_shut (d : Aut) (l : List Int) {g : Gt} (h : g.shut = true) : offers d g l = g := by
  induction l with
  | nil => rfl
  | cons a l ih =>
    show offers d (offer d g a).2.2 l = g
    rcases offer_ways d g a with ⟨_, e⟩ | ⟨_, _, e⟩ | ⟨_, hs, _, e⟩ | ⟨_, hs, _⟩ | ⟨_, hs, _⟩
    · rw [e]; exact ih
    · rw [e]; exact ih
    · rw [h] at hs; cases hs
    · rw [h] at hs; cases hs
    · rw [h] at hs; cases hs
/-- All that is offered at once. -/
theorem offers_all (d : Aut) : ∀ (l : List Int) {g : Gt}, g.shut = false → g.out.length + l.length ≤ 80 →
    (offers d g l).out = g.out ++ (lets d l).take (pass d g.s (lets d l)) ∧ (offers d g l).shut = decide (pass d g.s (lets d l) < (lets d l).length)
  | [], g, h, _ => by simp [offers, lets, h]
  | a :: l, g, h, hl => by
    have e0 : offers d g (a :: l) = offers d (offer d g a).2.2 l := rfl
    simp only [List.length_cons] at hl
    rw [e0]
    rcases offer_ways d g a with ⟨hi, e⟩ | ⟨_, hs, e⟩ | ⟨_, _, h8, e⟩ | ⟨hi, _, _, hf, e⟩ | ⟨hi, _, _, hf, e⟩
    · rw [e]
      have el : lets d (a :: l) = lets d l := by unfold lets; rw [List.filter_cons_of_neg (by rw [hi]; decide)]
      rw [el]; exact offers_all d l h (by show g.out.length + l.length ≤ 80; omega)
    · rw [h] at hs; cases hs
    · omega
    · rw [e]
      have el : lets d (a :: l) = a :: lets d l := by unfold lets; rw [List.filter_cons_of_pos hi]
      have ep : pass d g.s (a :: lets d l) = pass d (step d g.s a.toNat) (lets d l) + 1 := by rw [pass, if_pos hf]
      obtain ⟨h1, h2⟩ := offers_all d l (g := ⟨step d g.s a.toNat, g.out ++ [a], false⟩) rfl (by rw [List.length_append]; simp; omega)
      rw [el, ep]
      refine ⟨by rw [h1]; simp, by rw [h2]; simp⟩
    · rw [e]
      have el : lets d (a :: l) = a :: lets d l := by unfold lets; rw [List.filter_cons_of_pos hi]
      have ep : pass d g.s (a :: lets d l) = 0 := by rw [pass, if_neg (by rw [hf]; decide)]
      rw [el, ep, offers_shut d l (g := ⟨g.s, g.out, true⟩) rfl]
      simp
/-- What passes is accepted at each step; the next letter is not. -/
theorem pass_acc {d : Aut} : ∀ (w : List Int) (q k : Nat), k < pass d q w → finA d (runA d q (w.take (k + 1))) = true
  | [], _, _, h => by simp [pass] at h
  | a :: w, q, k, h => by
    rw [pass] at h
    split at h
    · rename_i hf
      rcases k with _ | k
      · exact hf
      · exact pass_acc w (step d q a.toNat) k (by omega)
    · omega
theorem pass_stop {d : Aut} : ∀ (w : List Int) (q : Nat), pass d q w < w.length → finA d (runA d q (w.take (pass d q w + 1))) = false
  | [], _, h => by simp [pass] at h
  | a :: w, q, h => by
    by_cases hf : finA d (step d q a.toNat) = true
    · rw [pass, if_pos hf] at h ⊢
      exact pass_stop w (step d q a.toNat) (by simpa using h)
    · rw [pass, if_neg hf]
      show finA d (step d q a.toNat) = false
      simpa using hf
/-- The longest beginning that is accepted. -/
theorem pass_longest {d : Aut} (h : GGood d) {w : List Int} (hw : Word d.L w) : (∀ k, k ≤ pass d d.s.toNat w → accA d (w.take k) = true) ∧ ∀ k, pass d d.s.toNat w < k → k ≤ w.length → accA d (w.take k) = false := by
  constructor
  · intro k hk
    rcases k with _ | k
    · exact h.empty
    · exact pass_acc w _ k hk
  · intro k hk hl
    have hs := pass_stop (d := d) w d.s.toNat (by omega)
    rcases h2 : accA d (w.take k) with _ | _
    · rfl
    · have h3 := h.safe (w.take (pass d d.s.toNat w + 1)) ((w.take k).drop (pass d d.s.toNat w + 1)) (word_take hw _) (word_drop (word_take hw _) _) (by
        have e : w.take (pass d d.s.toNat w + 1) = (w.take k).take (pass d d.s.toNat w + 1) := by rw [List.take_take, Nat.min_eq_left (by omega)]
        rw [e, List.take_append_drop]; exact h2)
      rw [show accA d (w.take (pass d d.s.toNat w + 1)) = false from hs] at h3
      cases h3
/-- It is just that number. -/
theorem pass_is {d : Aut} (h : GGood d) {w : List Int} (hw : Word d.L w) {n : Nat} (hn : n ≤ w.length) (h1 : accA d (w.take n) = true) (h2 : ∀ k, n < k → k ≤ w.length → accA d (w.take k) = false) : pass d d.s.toNat w = n := by
  obtain ⟨p1, p2⟩ := pass_longest h hw
  rcases Nat.lt_trichotomy (pass d d.s.toNat w) n with hl | hl | hl
  · have := p2 n hl hn; rw [h1] at this; cases this
  · exact hl
  · have := h2 _ hl (pass_le _ _ _); rw [p1 _ (Nat.le_refl _)] at this; cases this
/-- What passes two is what passes both. -/
theorem pass_two {a b c : Aut} (ha : GGood a) (hb : GGood b) (hc : GGood c) (h1 : a.L = c.L) (h2 : b.L = c.L) (h : ∀ w, Word c.L w → accA c w = (accA a w && accA b w)) {w : List Int} (hw : Word c.L w) :
    pass c c.s.toNat w = min (pass a a.s.toNat w) (pass b b.s.toNat w) := by
  have hwa : Word a.L w := by rw [h1]; exact hw
  have hwb : Word b.L w := by rw [h2]; exact hw
  obtain ⟨a1, a2⟩ := pass_longest ha hwa
  obtain ⟨b1, b2⟩ := pass_longest hb hwb
  have la := pass_le a a.s.toNat w
  have lb := pass_le b b.s.toNat w
  refine pass_is hc hw (by omega) ?_ ?_
  · rw [h _ (word_take hw _), a1 _ (by omega), b1 _ (by omega)]; rfl
  · intro k hk hl
    rw [h _ (word_take hw _)]
    by_cases hka : pass a a.s.toNat w < k
    · rw [a2 k hka hl]; rfl
    · rw [b2 k (by omega) hl, Bool.and_false]
theorem pass_cut {b : Aut} (hb : GGood b) {w : List Int} (hw : Word b.L w) (n : Nat) (hn : n ≤ w.length) : pass b b.s.toNat (w.take n) = min n (pass b b.s.toNat w) := by
  obtain ⟨b1, b2⟩ := pass_longest hb hw
  have lb := pass_le b b.s.toNat w
  have hl : (w.take n).length = n := by rw [List.length_take]; omega
  refine pass_is hb (word_take hw n) (by omega) ?_ ?_
  · rw [List.take_take]; exact b1 _ (by omega)
  · intro k hk hkl
    rw [List.take_take, Nat.min_eq_left (by omega)]
    exact b2 k (by omega) (by omega)
/-- Both of two safe ones is a safe one. -/
theorem both_gate {a b c : Aut} (ha : GGood a) (hb : GGood b) (hc : Good c) (h1 : a.L = c.L) (h2 : b.L = c.L) (h : ∀ w, Word c.L w → accA c w = (accA a w && accA b w)) : GGood c := by
  refine ⟨hc, fun v u hv hu hq => ?_, ?_⟩
  · rw [h _ (word_append hv hu), Bool.and_eq_true] at hq
    rw [h _ hv, ha.safe v u (by rw [h1]; exact hv) (by rw [h1]; exact hu) hq.1, hb.safe v u (by rw [h2]; exact hv) (by rw [h2]; exact hu) hq.2]; rfl
  · rw [h _ (fun a ha => by simp at ha), ha.empty, hb.empty]; rfl
/-- Always is safe. -/
theorem begun_always {d : Aut} (g : Good d) : Begun (stopA false d) := fun v u hv hu h => by
  have hv : Word d.L v := hv
  have hu : Word d.L u := hu
  rw [always_acc g (word_append hv hu)] at h
  rw [always_acc g hv]
  intro k hk
  have := h k (by rw [List.length_append]; omega)
  rwa [List.take_append_of_le_length hk] at this
theorem always_empty {d : Aut} : accA (stopA false d) [] = accA d [] := rfl
end Go.Proofs.YtciopfiddfmckaaDoor.Ga
