/- Plain mathematics of package gate: letters that are offered, what passes. Plain mathematics of package verdict: the verdict of a state, what is settled, the first word that settles it; what can be watched. Plain mathematics of the whole: gates and verdicts, gates and formulas that look back. -/
import Derived.Test.YtbciefeipiphiaaSafeM

namespace Go.Proofs.Ytbciefeipiphiaa.Ga
open Go.Proofs.Ytbciefeipiphiaa.Df Go.Proofs.Ytbciefeipiphiaa.Wo Go.Proofs.Ytbciefeipiphiaa.Rc Go.Proofs.Ytbciefeipiphiaa.Sm Go.Proofs.Ytbciefeipiphiaa.Sa

/-- A gate: the state behind what has passed, what has passed, is it shut? -/
structure Gt where
  s : Nat
  out : List Int
  shut : Bool
def isL (d : Aut) (a : Int) : Bool := decide (0 ≤ a) && decide (a < d.L)
/-- A letter is offered: the error, does it pass, and the gate then. -/
def offer (d : Aut) (g : Gt) (a : Int) : Nat × Bool × Gt :=
  if isL d a = false then (1, false, g) else if g.shut = true then (0, false, g) else if 80 ≤ g.out.length then (4, false, g) else
    if finA d (step d g.s a.toNat) = true then (0, true, ⟨step d g.s a.toNat, g.out ++ [a], false⟩) else (0, false, ⟨g.s, g.out, true⟩)
def offers (d : Aut) (g : Gt) (l : List Int) : Gt := l.foldl (fun g a => (offer d g a).2.2) g
def gate0 (d : Aut) : Gt := ⟨d.s.toNat, [], false⟩
/-- What is wrong with an automaton for a gate. -/
def gchk (d : Aut) : Nat := if dchk d ≠ 0 then dchk d else if classA d % 2 = 0 then 3 else if accA d [] = false then 8 else 0
structure GGood (d : Aut) : Prop where
  good : Good d
  safe : Begun d
  empty : accA d [] = true
theorem gchk_iff {d : Aut} : gchk d = 0 ↔ GGood d := by
  unfold gchk
  constructor
  · intro h
    split at h
    · omega
    rename_i h1
    have g := dchk_iff.1 (Decidable.not_not.1 h1)
    split at h
    · omega
    rename_i h2
    split at h
    · omega
    rename_i h3
    exact ⟨g, (begunB_iff g).1 ((class_odd d).1 (by omega)), by simpa using h3⟩
  · rintro ⟨g, hb, he⟩
    rw [if_neg (fun h => h (dchk_iff.2 g)), if_neg (by have := (class_odd d).2 ((begunB_iff g).2 hb); omega), if_neg (by rw [he]; decide)]
/-- The gate is as it should be. -/
structure Gok (d : Aut) (g : Gt) : Prop where
  word : Word d.L g.out
  st : g.s = runA d d.s.toNat g.out
  acc : accA d g.out = true
  len : g.out.length ≤ 80
theorem gok_start {d : Aut} (h : GGood d) : Gok d (gate0 d) := ⟨fun a ha => by simp [gate0] at ha, rfl, h.empty, by simp [gate0]⟩
theorem isL_iff {d : Aut} {a : Int} : isL d a = true ↔ 0 ≤ a ∧ a < d.L := by unfold isL; simp
theorem word_one {L a : Int} {w : List Int} (hw : Word L w) (h0 : 0 ≤ a) (h1 : a < L) : Word L (w ++ [a]) := fun x hx => by
  rcases List.mem_append.1 hx with hx | hx
  · exact hw x hx
  · simp at hx; subst hx; exact ⟨h0, h1⟩
theorem offer_bad {d : Aut} {g : Gt} {a : Int} (h : isL d a = false) : offer d g a = (1, false, g) := if_pos h
theorem offer_shut {d : Aut} {g : Gt} {a : Int} (h : isL d a = true) (hs : g.shut = true) : offer d g a = (0, false, g) := by unfold offer; rw [if_neg (by rw [h]; decide), if_pos hs]
theorem offer_full {d : Aut} {g : Gt} {a : Int} (h : isL d a = true) (hs : g.shut = false) (hl : 80 ≤ g.out.length) : offer d g a = (4, false, g) := by unfold offer; rw [if_neg (by rw [h]; decide), if_neg (by rw [hs]; decide), if_pos hl]
theorem offer_pass {d : Aut} {g : Gt} {a : Int} (h : isL d a = true) (hs : g.shut = false) (hl : g.out.length < 80) (hf : finA d (step d g.s a.toNat) = true) : offer d g a = (0, true, ⟨step d g.s a.toNat, g.out ++ [a], false⟩) := by
  unfold offer; rw [if_neg (by rw [h]; decide), if_neg (by rw [hs]; decide), if_neg (by omega), if_pos hf]
theorem offer_stop {d : Aut} {g : Gt} {a : Int} (h : isL d a = true) (hs : g.shut = false) (hl : g.out.length < 80) (hf : finA d (step d g.s a.toNat) = false) : offer d g a = (0, false, ⟨g.s, g.out, true⟩) := by
  unfold offer; rw [if_neg (by rw [h]; decide), if_neg (by rw [hs]; decide), if_neg (by omega), if_neg (by rw [hf]; decide)]
/-- The five ways. -/
theorem offer_ways (d : Aut) (g : Gt) (a : Int) : (isL d a = false ∧ offer d g a = (1, false, g)) ∨ (isL d a = true ∧ g.shut = true ∧ offer d g a = (0, false, g)) ∨ (isL d a = true ∧ g.shut = false ∧ 80 ≤ g.out.length ∧ offer d g a = (4, false, g)) ∨
    (isL d a = true ∧ g.shut = false ∧ g.out.length < 80 ∧ finA d (step d g.s a.toNat) = true ∧ offer d g a = (0, true, ⟨step d g.s a.toNat, g.out ++ [a], false⟩)) ∨
    (isL d a = true ∧ g.shut = false ∧ g.out.length < 80 ∧ finA d (step d g.s a.toNat) = false ∧ offer d g a = (0, false, ⟨g.s, g.out, true⟩)) := by
  rcases h : isL d a with _ | _
  · exact .inl ⟨rfl, offer_bad h⟩
  · rcases hs : g.shut with _ | _
    · by_cases hl : 80 ≤ g.out.length
      · exact .inr (.inr (.inl ⟨rfl, rfl, hl, offer_full h hs hl⟩))
      · rcases hf : finA d (step d g.s a.toNat) with _ | _
        · exact .inr (.inr (.inr (.inr ⟨rfl, rfl, by omega, rfl, offer_stop h hs (by omega) hf⟩)))
        · exact .inr (.inr (.inr (.inl ⟨rfl, rfl, by omega, rfl, offer_pass h hs (by omega) hf⟩)))
    · exact .inr (.inl ⟨rfl, rfl, offer_shut h hs⟩)
theorem step_last (d : Aut) (q : Nat) (w : List Int) (a : Int) : runA d q (w ++ [a]) = step d (runA d q w) a.toNat := by rw [runA_append]; rfl
theorem gok_offer {d : Aut} {g : Gt} (h : Gok d g) (a : Int) : Gok d (offer d g a).2.2 := by
  rcases offer_ways d g a with ⟨_, e⟩ | ⟨_, _, e⟩ | ⟨_, _, _, e⟩ | ⟨hl, _, h80, hf, e⟩ | ⟨_, _, _, _, e⟩
  · rw [e]; exact h
  · rw [e]; exact h
  · rw [e]; exact h
  · rw [e]
    obtain ⟨h0, h1⟩ := isL_iff.1 hl
    refine ⟨word_one h.word h0 h1, ?_, ?_, by show (g.out ++ [a]).length ≤ 80; rw [List.length_append]; simp; omega⟩
    · show step d g.s a.toNat = _
      rw [step_last, ← h.st]
    · show accA d (g.out ++ [a]) = true
      unfold accA
      rw [step_last, ← h.st]; exact hf
  · rw [e]; exact ⟨h.word, h.st, h.acc, h.len⟩
theorem offers_snoc (d : Aut) (g : Gt) (l : List Int) (a : Int) : offers d g (l ++ [a]) = (offer d (offers d g l) a).2.2 := by unfold offers; rw [List.foldl_append]; rfl
theorem offers_take (d : Aut) (g : Gt) (l : List Int) {k : Nat} (hk : k < l.length) : offers d g (l.take (k + 1)) = (offer d (offers d g (l.take k)) l[k]).2.2 := by rw [← offers_snoc, List.take_append_getElem]
theorem gok_offers {d : Aut} {g : Gt} (h : Gok d g) (l : List Int) : Gok d (offers d g l) := by
  induction l generalizing g with
  | nil => exact h
  | cons a l ih => exact ih (gok_offer h a)
/-- The letters among what is offered. -/
def lets (d : Aut) (l : List Int) : List Int := l.filter (isL d)
theorem lets_word (d : Aut) (l : List Int) : Word d.L (lets d l) := fun _ ha => isL_iff.1 (List.mem_filter.1 ha).2
theorem lets_len (d : Aut) (l : List Int) : (lets d l).length ≤ l.length := List.length_filter_le _ _
theorem lets_snoc (d : Aut) (l : List Int) (a : Int) : lets d (l ++ [a]) = lets d l ++ (if isL d a then [a] else []) := by
  unfold lets; rw [List.filter_append]
  congr 1
  rcases h : isL d a with _ | _ <;> simp [h]
theorem lets_self {d : Aut} {w : List Int} (hw : Word d.L w) : lets d w = w := List.filter_eq_self.2 fun _ ha => isL_iff.2 (hw _ ha)
/-- How many letters of a word pass from a state on. -/
def pass (d : Aut) : Nat → List Int → Nat
  | _, [] => 0
  | q, a :: w => if finA d (step d q a.toNat) = true then pass d (step d q a.toNat) w + 1 else 0
theorem pass_le (d : Aut) : ∀ (q : Nat) (w : List Int), pass d q w ≤ w.length
  | _, [] => Nat.le_refl _
  | q, a :: w => by unfold pass; split; have := pass_le d (step d q a.toNat) w; simp; omega; simp
theorem offers_shut (d : Aut) (l : List Int) {g : Gt} (h : g.shut = true) : offers d g l = g := by
  induction l with
  | nil => rfl
  | cons a l ih =>
    show offers d (offer d g a).2.2 l = g
    rcases offer_ways d g a with ⟨_, e⟩ | ⟨_, _, e⟩ | ⟨_, hs, _, e⟩ | ⟨_, hs, _⟩ | ⟨_, hs, _⟩
    · rw [e]; exact ih
    · rw [e]; exact ih
    · rw [h] at hs; cases hs
    · rw [h] at hs; cases hs
    · rw [h] at hs; cases hs
/-- All that is offered at once. -/
theorem offers_all (d : Aut) : ∀ (l : List Int) {g : Gt}, g.shut = false → g.out.length + l.length ≤ 80 →
    (offers d g l).out = g.out ++ (lets d l).take (pass d g.s (lets d l)) ∧ (offers d g l).shut = decide (pass d g.s (lets d l) < (lets d l).length)
  | [], g, h, _ => by simp [offers, lets, h]
  | a :: l, g, h, hl => by
    have e0 : offers d g (a :: l) = offers d (offer d g a).2.2 l := rfl
    simp only [List.length_cons] at hl
    rw [e0]
    rcases offer_ways d g a with ⟨hi, e⟩ | ⟨_, hs, e⟩ | ⟨_, _, h8, e⟩ | ⟨hi, _, _, hf, e⟩ | ⟨hi, _, _, hf, e⟩
    · rw [e]
      have el : lets d (a :: l) = lets d l := by unfold lets; rw [List.filter_cons_of_neg (by rw [hi]; decide)]
      rw [el]; exact offers_all d l h (by show g.out.length + l.length ≤ 80; omega)
    · rw [h] at hs; cases hs
    · omega
    · rw [e]
      have el : lets d (a :: l) = a :: lets d l := by unfold lets; rw [List.filter_cons_of_pos hi]
      have ep : pass d g.s (a :: lets d l) = pass d (step d g.s a.toNat) (lets d l) + 1 := by rw [pass, if_pos hf]
      obtain ⟨h1, h2⟩ := offers_all d l (g := ⟨step d g.s a.toNat, g.out ++ [a], false⟩) rfl (by rw [List.length_append]; simp; omega)
      rw [el, ep]
      refine ⟨by rw [h1]; simp, by rw [h2]; simp⟩
    · rw [e]
      have el : lets d (a :: l) = a :: lets d l := by unfold lets; rw [List.filter_cons_of_pos hi]
      have ep : pass d g.s (a :: lets d l) = 0 := by rw [pass, if_neg (by rw [hf]; decide)]
      rw [el, ep, offers_shut d l (g := ⟨g.s, g.out, true⟩) rfl]
      simp
/-- What passes is accepted at each step; the next letter is not. -/
theorem pass_acc {d : Aut} : ∀ (w : List Int) (q k : Nat), k < pass d q w → finA d (runA d q (w.take (k + 1))) = true
  | [], _, _, h => by simp [pass] at h
  | a :: w, q, k, h => by
    rw [pass] at h
    split at h
    · rename_i hf
      rcases k with _ | k
      · exact hf
      · exact pass_acc w (step d q a.toNat) k (by omega)
    · omega
theorem pass_stop {d : Aut} : ∀ (w : List Int) (q : Nat), pass d q w < w.length → finA d (runA d q (w.take (pass d q w + 1))) = false
  | [], _, h => by simp [pass] at h
  | a :: w, q, h => by
    by_cases hf : finA d (step d q a.toNat) = true
    · rw [pass, if_pos hf] at h ⊢
      exact pass_stop w (step d q a.toNat) (by simpa using h)
    · rw [pass, if_neg hf]
      show finA d (step d q a.toNat) = false
      simpa using hf
/-- The longest beginning that is accepted. -/
theorem pass_longest {d : Aut} (h : GGood d) {w : List Int} (hw : Word d.L w) : (∀ k, k ≤ pass d d.s.toNat w → accA d (w.take k) = true) ∧ ∀ k, pass d d.s.toNat w < k → k ≤ w.length → accA d (w.take k) = false := by
  constructor
  · intro k hk
    rcases k with _ | k
    · exact h.empty
    · exact pass_acc w _ k hk
  · intro k hk hl
    have hs := pass_stop (d := d) w d.s.toNat (by omega)
    rcases h2 : accA d (w.take k) with _ | _
    · rfl
    · have h3 := h.safe (w.take (pass d d.s.toNat w + 1)) ((w.take k).drop (pass d d.s.toNat w + 1)) (word_take hw _) (word_drop (word_take hw _) _) (by
        have e : w.take (pass d d.s.toNat w + 1) = (w.take k).take (pass d d.s.toNat w + 1) := by rw [List.take_take, Nat.min_eq_left (by omega)]
        rw [e, List.take_append_drop]; exact h2)
      rw [show accA d (w.take (pass d d.s.toNat w + 1)) = false from hs] at h3
      cases h3
/-- It is just that number. -/
theorem pass_is {d : Aut} (h : GGood d) {w : List Int} (hw : Word d.L w) {n : Nat} (hn : n ≤ w.length) (h1 : accA d (w.take n) = true) (h2 : ∀ k, n < k → k ≤ w.length → accA d (w.take k) = false) : pass d d.s.toNat w = n := by
  obtain ⟨p1, p2⟩ := pass_longest h hw
  rcases Nat.lt_trichotomy (pass d d.s.toNat w) n with hl | hl | hl
  · have := p2 n hl hn; rw [h1] at this; cases this
  · exact hl
  · have := h2 _ hl (pass_le _ _ _); rw [p1 _ (Nat.le_refl _)] at this; cases this
/-- What passes two is what passes both. -/
theorem pass_two {a b c : Aut} (ha : GGood a) (hb : GGood b) (hc : GGood c) (h1 : a.L = c.L) (h2 : b.L = c.L) (h : ∀ w, Word c.L w → accA c w = (accA a w && accA b w)) {w : List Int} (hw : Word c.L w) :
    pass c c.s.toNat w = min (pass a a.s.toNat w) (pass b b.s.toNat w) := by
  have hwa : Word a.L w := by rw [h1]; exact hw
  have hwb : Word b.L w := by rw [h2]; exact hw
  obtain ⟨a1, a2⟩ := pass_longest ha hwa
  obtain ⟨b1, b2⟩ := pass_longest hb hwb
  have la := pass_le a a.s.toNat w
  have lb := pass_le b b.s.toNat w
  refine pass_is hc hw (by omega) ?_ ?_
  · rw [h _ (word_take hw _), a1 _ (by omega), b1 _ (by omega)]; rfl
  · intro k hk hl
    rw [h _ (word_take hw _)]
    by_cases hka : pass a a.s.toNat w < k
    · rw [a2 k hka hl]; rfl
    · rw [b2 k (by omega) hl, Bool.and_false]
theorem pass_cut {b : Aut} (hb : GGood b) {w : List Int} (hw : Word b.L w) (n : Nat) (hn : n ≤ w.length) : pass b b.s.toNat (w.take n) = min n (pass b b.s.toNat w) := by
  obtain ⟨b1, b2⟩ := pass_longest hb hw
  have lb := pass_le b b.s.toNat w
  have hl : (w.take n).length = n := by rw [List.length_take]; omega
  refine pass_is hb (word_take hw n) (by omega) ?_ ?_
  · rw [List.take_take]; exact b1 _ (by omega)
  · intro k hk hkl
    rw [List.take_take, Nat.min_eq_left (by omega)]
    exact b2 k (by omega) (by omega)
/-- Both of two safe ones is a safe one. -/
theorem both_gate {a b c : Aut} (ha : GGood a) (hb : GGood b) (hc : Good c) (h1 : a.L = c.L) (h2 : b.L = c.L) (h : ∀ w, Word c.L w → accA c w = (accA a w && accA b w)) : GGood c := by
  refine ⟨hc, fun v u hv hu hq => ?_, ?_⟩
  · rw [h _ (word_append hv hu), Bool.and_eq_true] at hq
    rw [h _ hv, ha.safe v u (by rw [h1]; exact hv) (by rw [h1]; exact hu) hq.1, hb.safe v u (by rw [h2]; exact hv) (by rw [h2]; exact hu) hq.2]; rfl
  · rw [h _ (fun a ha => by simp at ha), ha.empty, hb.empty]; rfl
/-- Always is safe. -/
theorem begun_always {d : Aut} (g : Good d) : Begun (stopA false d) := fun v u hv hu h => by
  have hv : Word d.L v := hv
  have hu : Word d.L u := hu
  rw [always_acc g (word_append hv hu)] at h
  rw [always_acc g hv]
  intro k hk
  have := h k (by rw [List.length_append]; omega)
  rwa [List.take_append_of_le_length hk] at this
theorem always_empty {d : Aut} : accA (stopA false d) [] = accA d [] := rfl
end Go.Proofs.Ytbciefeipiphiaa.Ga

namespace Go.Proofs.Ytbciefeipiphiaa.Ve
open Go.Proofs.Ytbciefeipiphiaa.Df Go.Proofs.Ytbciefeipiphiaa.Wo Go.Proofs.Ytbciefeipiphiaa.Rc Go.Proofs.Ytbciefeipiphiaa.Sm Go.Proofs.Ytbciefeipiphiaa.Sa

/-- The verdict by two bools and the state's own: is something accepted behind it, is something not? -/
def verN (yes no fin : Bool) : Nat := if yes then (if no then (if fin then 2 else 1) else 3) else 0
def verd (d : Aut) (s : Nat) : Nat := verN (isAlive d s) (isAlive (notA d) s) (finA d s)
def isSet (n : Nat) : Bool := n == 0 || n == 3
def settled (d : Aut) (s : Nat) : Bool := isSet (verd d s)
/-- The settled states are final. -/
def settA (d : Aut) : Aut := ⟨d.L, d.s, d.next, (List.range d.next.length).map (settled d)⟩
theorem verN_le (a b c : Bool) : verN a b c ≤ 3 := by rcases a with _ | _ <;> rcases b with _ | _ <;> rcases c with _ | _ <;> decide
theorem verd_le (d : Aut) (s : Nat) : verd d s ≤ 3 := verN_le _ _ _
theorem alive_not {d : Aut} (g : Good d) {s : Nat} (hs : s < d.next.length) : isAlive (notA d) s = true ↔ ∃ w, Word d.L w ∧ finA d (runA d s w) = false := by
  rw [isAlive_iff (notA_good g) (by exact hs)]
  constructor
  · rintro ⟨w, hw, h⟩
    refine ⟨w, hw, ?_⟩
    rw [notA_run, notA_fin g (g.run_lt hw hs)] at h
    simpa using h
  · rintro ⟨w, hw, h⟩
    exact ⟨w, hw, by rw [notA_run, notA_fin g (g.run_lt hw hs), h]; rfl⟩
theorem alive_no {d : Aut} (g : Good d) {s : Nat} (hs : s < d.next.length) : isAlive d s = false ↔ ∀ w, Word d.L w → finA d (runA d s w) = false := by
  constructor
  · intro h w hw
    rcases h2 : finA d (runA d s w) with _ | _
    · rfl
    · rw [(isAlive_iff g hs).2 ⟨w, hw, h2⟩] at h; cases h
  · intro h
    rcases h2 : isAlive d s with _ | _
    · rfl
    · obtain ⟨w, hw, h3⟩ := (isAlive_iff g hs).1 h2
      rw [h w hw] at h3; cases h3
theorem alive_not_no {d : Aut} (g : Good d) {s : Nat} (hs : s < d.next.length) : isAlive (notA d) s = false ↔ ∀ w, Word d.L w → finA d (runA d s w) = true := by
  constructor
  · intro h w hw
    rcases h2 : finA d (runA d s w) with _ | _
    · rw [(alive_not g hs).2 ⟨w, hw, h2⟩] at h; cases h
    · rfl
  · intro h
    rcases h2 : isAlive (notA d) s with _ | _
    · rfl
    · obtain ⟨w, hw, h3⟩ := (alive_not g hs).1 h2
      rw [h w hw] at h3; cases h3
theorem word_nil (L : Int) : Word L [] := fun a ha => by simp at ha
/-- Never, Forever, and what the word is. -/
theorem verd_zero {d : Aut} (g : Good d) {s : Nat} (hs : s < d.next.length) : verd d s = 0 ↔ ∀ w, Word d.L w → finA d (runA d s w) = false := by
  rw [← alive_no g hs]
  unfold verd verN
  rcases isAlive d s with _ | _ <;> rcases isAlive (notA d) s with _ | _ <;> rcases finA d s with _ | _ <;> simp
theorem verd_three {d : Aut} (g : Good d) {s : Nat} (hs : s < d.next.length) : verd d s = 3 ↔ ∀ w, Word d.L w → finA d (runA d s w) = true := by
  rw [← alive_not_no g hs]
  have h : isAlive (notA d) s = false → isAlive d s = true := fun h => (isAlive_iff g hs).2 ⟨[], word_nil _, (alive_not_no g hs).1 h [] (word_nil _)⟩
  unfold verd verN
  generalize isAlive d s = a at *
  generalize isAlive (notA d) s = b at *
  rcases a with _ | _ <;> rcases b with _ | _ <;> rcases finA d s with _ | _ <;> simp_all
theorem verd_two {d : Aut} (g : Good d) {s : Nat} (hs : s < d.next.length) : 2 ≤ verd d s ↔ finA d s = true := by
  have h0 := verd_zero g hs
  have h3 := verd_three g hs
  constructor
  · intro h
    by_cases e : verd d s = 3
    · exact h3.1 e [] (word_nil _)
    · unfold verd verN at h e
      rcases hf : finA d s with _ | _
      · rw [hf] at h e; repeat' split at h
        all_goals first | omega | simp_all
      · rfl
  · intro h
    have : verd d s ≠ 0 := fun e => by have := h0.1 e [] (word_nil _); rw [show finA d (runA d s []) = finA d s from rfl, h] at this; cases this
    unfold verd verN at this ⊢
    rw [h] at this ⊢
    repeat' split
    all_goals first | omega | simp_all
/-- What is settled stays so. -/
theorem verd_stays {d : Aut} (g : Good d) {s : Nat} (hs : s < d.next.length) {u : List Int} (hu : Word d.L u) (h : verd d s = 0 ∨ verd d s = 3) : verd d (runA d s u) = verd d s := by
  have hl := g.run_lt hu hs
  rcases h with h | h
  · rw [h, verd_zero g hl]
    intro w hw
    rw [← runA_append]
    exact (verd_zero g hs).1 h _ (word_append hu hw)
  · rw [h, verd_three g hl]
    intro w hw
    rw [← runA_append]
    exact (verd_three g hs).1 h _ (word_append hu hw)
theorem verd_not {d : Aut} (g : Good d) {s : Nat} (hs : s < d.next.length) : verd (notA d) s = 3 - verd d s := by
  have h : isAlive d s = false → isAlive (notA d) s = true := fun h => (alive_not g hs).2 ⟨[], word_nil _, (alive_no g hs).1 h [] (word_nil _)⟩
  unfold verd
  rw [notA_notA, notA_fin g hs]
  unfold verN
  generalize isAlive d s = a at *
  generalize isAlive (notA d) s = b at *
  rcases a with _ | _ <;> rcases b with _ | _ <;> rcases finA d s with _ | _ <;> simp_all
/-- By words. -/
theorem zero_word {d : Aut} (g : Good d) {w : List Int} (hw : Word d.L w) : verd d (runA d d.s.toNat w) = 0 ↔ ∀ u, Word d.L u → accA d (w ++ u) = false := by
  rw [verd_zero g (g.run_lt hw g.s_lt)]
  unfold accA
  simp only [runA_append]
theorem three_word {d : Aut} (g : Good d) {w : List Int} (hw : Word d.L w) : verd d (runA d d.s.toNat w) = 3 ↔ ∀ u, Word d.L u → accA d (w ++ u) = true := by
  rw [verd_three g (g.run_lt hw g.s_lt)]
  unfold accA
  simp only [runA_append]
theorem two_word {d : Aut} (g : Good d) {w : List Int} (hw : Word d.L w) : 2 ≤ verd d (runA d d.s.toNat w) ↔ accA d w = true := verd_two g (g.run_lt hw g.s_lt)
/-- Of what both accept it is never more than of the one. -/
theorem both_le {a b c : Aut} (ga : Good a) (gb : Good b) (gc : Good c) (h1 : a.L = c.L) (h2 : b.L = c.L) (h : ∀ w, Word c.L w → accA c w = (accA a w && accA b w)) {w : List Int} (hw : Word c.L w) :
    verd c (runA c c.s.toNat w) ≤ verd a (runA a a.s.toNat w) ∧ verd c (runA c c.s.toNat w) ≤ verd b (runA b b.s.toNat w) ∧
      (verd c (runA c c.s.toNat w) = 3 ↔ verd a (runA a a.s.toNat w) = 3 ∧ verd b (runA b b.s.toNat w) = 3) := by
  have hwa : Word a.L w := by rw [h1]; exact hw
  have hwb : Word b.L w := by rw [h2]; exact hw
  have a0 := zero_word ga hwa
  have a3 := three_word ga hwa
  have a2 := two_word ga hwa
  have b0 := zero_word gb hwb
  have b3 := three_word gb hwb
  have b2 := two_word gb hwb
  have c0 := zero_word gc hw
  have c3 := three_word gc hw
  have c2 := two_word gc hw
  rw [h1] at a0 a3
  rw [h2] at b0 b3
  have k3 : (∀ u, Word c.L u → accA c (w ++ u) = true) ↔ (∀ u, Word c.L u → accA a (w ++ u) = true) ∧ (∀ u, Word c.L u → accA b (w ++ u) = true) := by
    constructor
    · intro k
      refine ⟨fun u hu => ?_, fun u hu => ?_⟩
      · have := k u hu; rw [h _ (word_append hw hu), Bool.and_eq_true] at this; exact this.1
      · have := k u hu; rw [h _ (word_append hw hu), Bool.and_eq_true] at this; exact this.2
    · rintro ⟨k1, k2⟩ u hu
      rw [h _ (word_append hw hu), k1 u hu, k2 u hu]; rfl
  have ka : (∀ u, Word c.L u → accA a (w ++ u) = false) → (∀ u, Word c.L u → accA c (w ++ u) = false) := fun k u hu => by rw [h _ (word_append hw hu), k u hu]; rfl
  have kb : (∀ u, Word c.L u → accA b (w ++ u) = false) → (∀ u, Word c.L u → accA c (w ++ u) = false) := fun k u hu => by rw [h _ (word_append hw hu), k u hu, Bool.and_false]
  rw [← a3, ← b3, ← c3] at k3
  rw [← a0, ← c0] at ka
  rw [← b0, ← c0] at kb
  have kf : accA c w = true ↔ accA a w = true ∧ accA b w = true := by rw [h w hw, Bool.and_eq_true]
  rw [← a2, ← b2, ← c2] at kf
  have la := verd_le a (runA a a.s.toNat w)
  have lb := verd_le b (runA b b.s.toNat w)
  have lc := verd_le c (runA c c.s.toNat w)
  generalize verd a (runA a a.s.toNat w) = x at *
  generalize verd b (runA b b.s.toNat w) = y at *
  generalize verd c (runA c c.s.toNat w) = z at *
  refine ⟨?_, ?_, k3⟩
  · by_cases e : z = 3
    · have := (k3.1 e).1; omega
    · by_cases e2 : 2 ≤ z
      · have := (kf.1 e2).1; omega
      · have : x ≠ 0 ∨ z = 0 := by
          by_cases e3 : x = 0
          · exact .inr (ka e3)
          · exact .inl e3
        omega
  · by_cases e : z = 3
    · have := (k3.1 e).2; omega
    · by_cases e2 : 2 ≤ z
      · have := (kf.1 e2).2; omega
      · have : y ≠ 0 ∨ z = 0 := by
          by_cases e3 : y = 0
          · exact .inr (kb e3)
          · exact .inl e3
        omega

/-! ### the first word that settles it -/
theorem sett_good {d : Aut} (g : Good d) : Good (settA d) := ⟨g.l1, g.l6, g.n1, g.n40, by simp [settA], g.row, g.st, g.go⟩
theorem sett_run (d : Aut) (q : Nat) (w : List Int) : runA (settA d) q w = runA d q w := rfl
theorem sett_fin {d : Aut} {q : Nat} (hq : q < d.next.length) : finA (settA d) q = settled d q := by
  unfold finA settA; simp only; rw [List.getElem?_map, List.getElem?_range hq]; rfl
theorem isSet_iff (n : Nat) : isSet n = true ↔ n = 0 ∨ n = 3 := by unfold isSet; simp
/-- The first word behind w that settles it. -/
def soon (d : Aut) (s : Nat) : Option (List Int) := firstW (settA d) s
theorem soon_some {d : Aut} (g : Good d) {s : Nat} (hs : s < d.next.length) {u : List Int} (h : soon d s = some u) :
    Word d.L u ∧ settled d (runA d s u) = true ∧ u.length < d.next.length ∧ ∀ v, Word d.L v → settled d (runA d s v) = true → lss v u = false := by
  obtain ⟨h1, h2, h3, h4⟩ := firstW_some (sett_good g) (s := s) (by exact hs) h
  have h1 : Word d.L u := h1
  refine ⟨h1, ?_, h2, fun v hv hf => h4 v hv ?_⟩
  · rw [sett_run, sett_fin (g.run_lt h1 hs)] at h3; exact h3
  · rw [sett_run, sett_fin (g.run_lt hv hs)]; exact hf
theorem soon_none {d : Aut} (g : Good d) {s : Nat} (hs : s < d.next.length) (h : soon d s = none) {v : List Int} (hv : Word d.L v) : settled d (runA d s v) = false := by
  have := firstW_none (sett_good g) (s := s) (by exact hs) h (v := v) hv
  rw [sett_run, sett_fin (g.run_lt hv hs)] at this
  exact this
theorem soon_alive {d : Aut} (g : Good d) {s : Nat} (hs : s < d.next.length) : isAlive (settA d) s = (soon d s).isSome := by
  rcases h : soon d s with _ | u
  · show isAlive (settA d) s = false
    rw [alive_no (sett_good g) (by exact hs)]
    intro w hw
    rw [sett_run, sett_fin (g.run_lt hw hs)]
    exact soon_none g hs h hw
  · obtain ⟨h1, h2, _⟩ := soon_some g hs h
    exact (isAlive_iff (sett_good g) (by exact hs)).2 ⟨u, h1, by rw [sett_run, sett_fin (g.run_lt h1 hs)]; exact h2⟩
/-- All that is reached can be settled. -/
def watchB (d : Aut) : Bool := (List.range d.next.length).all fun s => !(isReached d d.s.toNat s && !isAlive (settA d) s)
theorem watch_iff {d : Aut} (g : Good d) : watchB d = true ↔ ∀ w, Word d.L w → (soon d (runA d d.s.toNat w)).isSome = true := by
  unfold watchB
  rw [List.all_eq_true]
  constructor
  · intro h w hw
    have hl := g.run_lt hw g.s_lt
    have := h _ (List.mem_range.2 hl)
    rw [(reached_iff g g.s_lt).2 ⟨w, hw, rfl⟩, soon_alive g hl] at this
    simpa using this
  · intro h s hs
    have hs := List.mem_range.1 hs
    rcases hr : isReached d d.s.toNat s with _ | _
    · rfl
    · obtain ⟨w, hw, rfl⟩ := (reached_iff g g.s_lt).1 hr
      rw [soon_alive g hs, h w hw]; rfl
/-- By the places so far (the reference's loop). -/
def watchTo (d : Aut) (k : Nat) : Bool := (List.range k).all fun s => !(isReached d d.s.toNat s && !isAlive (settA d) s)
theorem watchTo_succ (d : Aut) (k : Nat) : watchTo d (k + 1) = (watchTo d k && !(isReached d d.s.toNat k && !isAlive (settA d) k)) := by unfold watchTo; rw [List.range_succ, List.all_append]; simp
theorem watchTo_all (d : Aut) : watchTo d d.next.length = watchB d := rfl
/-- Another start. -/
def startA (d : Aut) (s : Nat) : Aut := ⟨d.L, (s : Int), d.next, d.fin⟩
theorem start_good {d : Aut} (g : Good d) {s : Nat} (hs : s < d.next.length) : Good (startA d s) := ⟨g.l1, g.l6, g.n1, g.n40, g.fin, g.row, ⟨by show (0 : Int) ≤ s; omega, by show (s : Int) < d.next.length; omega⟩, g.go⟩
theorem inK_start (d : Aut) (s : Nat) : ∀ (k q : Nat), inK (startA d s) k q = inK d k q
  | 0, _ => rfl
  | k + 1, q => by
    show (List.range d.L.toNat).any (fun a => inK (startA d s) k (step d q a)) = (List.range d.L.toNat).any (fun a => inK d k (step d q a))
    congr 1
    funext a
    exact inK_start d s k _
/-- Nothing accepted is ahead just if no word is. -/
theorem first_none_iff {d : Aut} (g : Good d) {s : Nat} (hs : s < d.next.length) : firstW d s = none ↔ isAlive d s = false := by
  constructor
  · intro h
    rw [alive_no g hs]
    intro w hw
    exact firstW_none g hs h hw
  · intro h
    exact firstW_is_none g hs fun v hv => (alive_no g hs).1 h v hv
theorem start_alive {d : Aut} (g : Good d) {s : Nat} (hs : s < d.next.length) (q : Nat) (hq : q < d.next.length) : isAlive (startA d s) q = isAlive d q := by
  refine Bool.eq_iff_iff.2 ?_
  rw [isAlive_iff (start_good g hs) (by exact hq), isAlive_iff g hq]
  rfl
theorem early_zero {d : Aut} (g : Good d) {s : Nat} (hs : s < d.next.length) : (verd d s == 0) = (firstW (startA d s) s).isNone := by
  have h := (first_none_iff (start_good g hs) (s := s) (by exact hs))
  rw [start_alive g hs s hs] at h
  rcases hf : firstW (startA d s) s with _ | u
  · have := h.1 hf
    unfold verd verN; rw [this]; rfl
  · have : isAlive d s = true := by
      rcases h2 : isAlive d s with _ | _
      · rw [h.2 h2] at hf; cases hf
      · rfl
    unfold verd verN; rw [this]
    rcases isAlive (notA d) s with _ | _ <;> rcases finA d s with _ | _ <;> rfl
theorem early_three {d : Aut} (g : Good d) {s : Nat} (hs : s < d.next.length) : (verd d s == 3) = (firstW (startA (notA d) s) s).isNone := by
  rw [← early_zero (notA_good g) (by exact hs), verd_not g hs]
  have := verd_le d s
  generalize verd d s = x at *
  have hx : x = 0 ∨ x = 1 ∨ x = 2 ∨ x = 3 := by omega
  rcases hx with rfl | rfl | rfl | rfl <;> rfl
end Go.Proofs.Ytbciefeipiphiaa.Ve

namespace Go.Proofs.Ytbciefeipiphiaa.Ga
open Go.Proofs.Ytbciefeipiphiaa.Df Go.Proofs.Ytbciefeipiphiaa.Wo Go.Proofs.Ytbciefeipiphiaa.Rc Go.Proofs.Ytbciefeipiphiaa.Sm Go.Proofs.Ytbciefeipiphiaa.Sa Go.Proofs.Ytbciefeipiphiaa.Ve

/-- A gate to which a word was offered is shut just if the word is not accepted. -/
theorem shut_acc {d : Aut} (h : GGood d) {w : List Int} (hw : Word d.L w) (hl : w.length ≤ 80) : (offers d (gate0 d) w).shut = !accA d w := by
  obtain ⟨_, h2⟩ := offers_all d w (g := gate0 d) rfl (by show (gate0 d).out.length + w.length ≤ 80; simp [gate0]; omega)
  rw [lets_self hw] at h2
  rw [h2]
  show decide (pass d d.s.toNat w < w.length) = _
  obtain ⟨p1, p2⟩ := pass_longest h hw
  have hp := pass_le d d.s.toNat w
  by_cases hlt : pass d d.s.toNat w < w.length
  · have := p2 w.length hlt (Nat.le_refl _)
    rw [List.take_length] at this
    rw [this, decide_eq_true hlt]; rfl
  · have := p1 w.length (by omega)
    rw [List.take_length] at this
    rw [this, decide_eq_false hlt]; rfl
theorem out_acc {d : Aut} (h : GGood d) {w : List Int} (hw : Word d.L w) (hl : w.length ≤ 80) (ha : accA d w = true) : (offers d (gate0 d) w).out = w := by
  obtain ⟨h1, _⟩ := offers_all d w (g := gate0 d) rfl (by show (gate0 d).out.length + w.length ≤ 80; simp [gate0]; omega)
  rw [lets_self hw] at h1
  rw [h1]
  show ([] : List Int) ++ w.take (pass d d.s.toNat w) = w
  have e : pass d d.s.toNat w = w.length := pass_is h hw (Nat.le_refl _) (by rw [List.take_length]; exact ha) fun k hk hk2 => by omega
  rw [e, List.take_length, List.nil_append]
/-- One letter more passes just if the word with it is accepted; there is no error. -/
theorem offer_acc {d : Aut} (h : GGood d) {w : List Int} {a : Int} (hw : Word d.L (w ++ [a])) (hl : w.length < 80) :
    (offer d (offers d (gate0 d) w) a).1 = 0 ∧ (offer d (offers d (gate0 d) w) a).2.1 = accA d (w ++ [a]) ∧ (offer d (offers d (gate0 d) w) a).2.2.shut = !accA d (w ++ [a]) := by
  have hv : Word d.L w := fun x hx => hw x (List.mem_append_left _ hx)
  have ha := hw a (by simp)
  have hi : isL d a = true := isL_iff.2 ha
  have hs := shut_acc h hv (by omega)
  have h3 : (offer d (offers d (gate0 d) w) a).2.2.shut = !accA d (w ++ [a]) := by
    rw [← offers_snoc]; exact shut_acc h hw (by simp; omega)
  refine ⟨?_, ?_, h3⟩
  · rcases offer_ways d (offers d (gate0 d) w) a with ⟨h1, _⟩ | ⟨_, _, e⟩ | ⟨_, h2, h8, e⟩ | ⟨_, _, _, _, e⟩ | ⟨_, _, _, _, e⟩
    · rw [hi] at h1; cases h1
    · rw [e]
    · rw [hs] at h2
      have h2 : accA d w = true := by simpa using h2
      rw [out_acc h hv (by omega) h2] at h8; omega
    · rw [e]
    · rw [e]
  · rcases offer_ways d (offers d (gate0 d) w) a with ⟨h1, _⟩ | ⟨_, h2, e⟩ | ⟨_, h2, h8, e⟩ | ⟨_, _, _, _, e⟩ | ⟨_, _, _, _, e⟩
    · rw [hi] at h1; cases h1
    · rw [e] at h3 ⊢
      rw [h2] at h3
      show false = _
      revert h3
      generalize accA d (w ++ [a]) = b
      cases b <;> decide
    · rw [hs] at h2
      have h2 : accA d w = true := by simpa using h2
      rw [out_acc h hv (by omega) h2] at h8; omega
    · rw [e] at h3 ⊢
      have h3 : false = !accA d (w ++ [a]) := h3
      show true = _
      revert h3
      generalize accA d (w ++ [a]) = b
      cases b <;> decide
    · rw [e] at h3 ⊢
      have h3 : true = !accA d (w ++ [a]) := h3
      show false = _
      revert h3
      generalize accA d (w ++ [a]) = b
      cases b <;> decide
theorem offer_wrong {d : Aut} {w : List Int} {a : Int} (ha : ¬ (0 ≤ a ∧ a < d.L)) : offer d (offers d (gate0 d) w) a = (1, false, offers d (gate0 d) w) := by
  refine offer_bad ?_
  rcases h : isL d a with _ | _
  · rfl
  · exact absurd (isL_iff.1 h) ha
/-- A gate of a safe language is shut just if the verdict is Never; and it is never NotNow. -/
theorem verd_shut {d : Aut} (h : GGood d) {w : List Int} (hw : Word d.L w) (hl : w.length ≤ 80) :
    verd d (runA d d.s.toNat w) ≠ 1 ∧ ((offers d (gate0 d) w).shut = true ↔ verd d (runA d d.s.toNat w) = 0) := by
  have hs := h.good.run_lt hw h.good.s_lt
  have h0 := verd_zero h.good hs
  have h2 := verd_two h.good hs
  rw [shut_acc h hw hl]
  rcases ha : accA d w with _ | _
  · have hz : verd d (runA d d.s.toNat w) = 0 := h0.2 fun u hu => by
      rcases hu2 : finA d (runA d (runA d d.s.toNat w) u) with _ | _
      · rfl
      · have : accA d w = true := h.safe w u hw hu (by unfold accA; rw [runA_append]; exact hu2)
        rw [ha] at this; cases this
    rw [hz]; simp
  · have : 2 ≤ verd d (runA d d.s.toNat w) := h2.2 ha
    constructor
    · omega
    · simp; omega
/-- A gate of Always lets pass as long as all beginnings are accepted. -/
theorem gate_always {d : Aut} (g : Good d) (he : accA d [] = true) : GGood (stopA false d) := ⟨stop_good g, begun_always g, he⟩
theorem no_gate {d : Aut} (g : Good d) (he : accA d [] = false) : gchk (stopA false d) = 8 := by
  unfold gchk
  have hg : dchk (stopA false d) = 0 := dchk_iff.2 (stop_good g)
  have hc := (class_odd (stopA false d)).2 ((begunB_iff (stop_good g)).2 (begun_always g))
  rw [if_neg (fun k => k hg), if_neg (by omega), if_pos (by rw [always_empty]; exact he)]
theorem allB_last {d : Aut} (w : List Int) (a : Int) : allB d (w ++ [a]) (w.length + 2) = (allB d w (w.length + 1) && accA d (w ++ [a])) := by
  rw [allB_succ, List.take_of_length_le (by simp)]
  congr 1
  unfold allB
  have : ∀ k ∈ List.range (w.length + 1), accA d ((w ++ [a]).take k) = accA d (w.take k) := fun k hk => by
    rw [List.take_append_of_le_length (by have := List.mem_range.1 hk; omega)]
  rw [Bool.eq_iff_iff, List.all_eq_true, List.all_eq_true]
  exact ⟨fun h k hk => by rw [← this k hk]; exact h k hk, fun h k hk => by rw [this k hk]; exact h k hk⟩
theorem offer_always {d : Aut} (g : Good d) (he : accA d [] = true) {w : List Int} {a : Int} (hw : Word d.L (w ++ [a])) (hl : w.length < 80) :
    (offer (stopA false d) (offers (stopA false d) (gate0 (stopA false d)) w) a).1 = 0 ∧
      (offer (stopA false d) (offers (stopA false d) (gate0 (stopA false d)) w) a).2.1 = (allB d w (w.length + 1) && accA d (w ++ [a])) ∧
      (offer (stopA false d) (offers (stopA false d) (gate0 (stopA false d)) w) a).2.2.shut = !(allB d w (w.length + 1) && accA d (w ++ [a])) := by
  have h1 := offer_acc (gate_always g he) (w := w) (a := a) hw hl
  rw [always_all g hw, List.length_append] at h1
  simp only [List.length_cons, List.length_nil, Nat.zero_add] at h1
  rw [allB_last] at h1
  exact h1
end Go.Proofs.Ytbciefeipiphiaa.Ga
