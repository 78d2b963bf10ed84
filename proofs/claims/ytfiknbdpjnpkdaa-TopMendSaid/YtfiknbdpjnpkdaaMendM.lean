/- Plain mathematics of package mend: the nearest of some words, the first of those; a row of labels, one for each state, letter by letter. -/
import Derived.Test.YtfiknbdpjnpkdaaNearM
import Derived.Test.YtfiknbdpjnpkdaaReachB
import Derived.Test.YtfiknbdpjnpkdaaLexM
namespace Go.Proofs.Ytfiknbdpjnpkdaa.Me
open Go.Proofs.Ytfiknbdpjnpkdaa.Df Go.Proofs.Ytfiknbdpjnpkdaa.Wo Go.Proofs.Ytfiknbdpjnpkdaa.Rc Go.Proofs.Ytfiknbdpjnpkdaa.Ne

/-! ### labels in order -/
/-- What it costs, and the word. -/
abbrev Lb := Nat × List Int
def plt (x y : Lb) : Bool := if x.1 = y.1 then lss x.2 y.2 else decide (x.1 < y.1)
theorem plt_irr (x : Lb) : plt x x = false := by unfold plt; rw [if_pos rfl]; exact lss_irr _
theorem plt_asym {x y : Lb} (h : plt x y = true) : plt y x = false := by
  unfold plt at *
  by_cases e : x.1 = y.1
  · rw [if_pos e] at h; rw [if_pos e.symm]; exact lss_asym h
  · rw [if_neg e] at h; rw [if_neg (fun q => e q.symm)]; simp at h ⊢; omega
theorem plt_total {x y : Lb} (h1 : plt x y = false) (h2 : plt y x = false) : x = y := by
  unfold plt at *
  by_cases e : x.1 = y.1
  · rw [if_pos e] at h1; rw [if_pos e.symm] at h2; exact Prod.ext e (lss_total h1 h2)
  · rw [if_neg e] at h1; rw [if_neg (fun q => e q.symm)] at h2; simp at h1 h2; omega
theorem plt_trans {x y z : Lb} (h1 : plt x y = true) (h2 : plt y z = true) : plt x z = true := by
  unfold plt at *
  by_cases e1 : x.1 = y.1
  · rw [if_pos e1] at h1
    by_cases e2 : y.1 = z.1
    · rw [if_pos e2] at h2; rw [if_pos (e1.trans e2)]; exact lss_trans h1 h2
    · rw [if_neg e2] at h2; rw [if_neg (by omega)]; simp at h2 ⊢; omega
  · rw [if_neg e1] at h1
    by_cases e2 : y.1 = z.1
    · rw [if_neg (by omega)]; simp at h1 ⊢; omega
    · rw [if_neg e2] at h2; simp at h1 h2; rw [if_neg (by omega)]; simp; omega
/-- Not behind. -/
def ple (x y : Lb) : Prop := plt y x = false
theorem ple_refl (x : Lb) : ple x x := plt_irr x
theorem ple_of {x y : Lb} (h : plt x y = true) : ple x y := plt_asym h
theorem ple_or {x y : Lb} (h : ple x y) : x = y ∨ plt x y = true := by
  rcases e : plt x y with _ | _
  · exact .inl (plt_total e h)
  · exact .inr rfl
theorem ple_trans {x y z : Lb} (h1 : ple x y) (h2 : ple y z) : ple x z := by
  rcases ple_or h1 with rfl | h1
  · exact h2
  · rcases ple_or h2 with rfl | h2
    · exact ple_of h1
    · exact ple_of (plt_trans h1 h2)
theorem ple_anti {x y : Lb} (h1 : ple x y) (h2 : ple y x) : x = y := plt_total h2 h1
theorem ple_not {x y : Lb} (h : ¬ ple x y) : plt y x = true := by
  unfold ple at h; simpa using h
theorem ple_cost {x y : Lb} (h : ple x y) : x.1 ≤ y.1 := by
  unfold ple plt at h
  by_cases e : y.1 = x.1
  · omega
  · rw [if_neg e] at h; simp at h; omega
theorem ple_same {c k : Nat} {v : List Int} (h : c ≤ k) : ple (c, v) (k, v) := by
  unfold ple plt
  by_cases e : k = c
  · rw [if_pos e]; exact lss_irr v
  · rw [if_neg e]; simp; omega
theorem plt_cost {x y : Lb} (h : x.1 < y.1) : plt x y = true := by unfold plt; rw [if_neg (by omega)]; simpa using h
/-- One letter more. -/
def ext (k : Nat) (a : Int) (x : Lb) : Lb := (x.1 + k, x.2 ++ [a])
theorem plt_ext {x y : Lb} (h : plt x y = true) (k : Nat) (a : Int) : plt (ext k a x) (ext k a y) = true := by
  unfold plt ext at *
  by_cases e : x.1 = y.1
  · rw [if_pos e] at h; rw [if_pos (by simp [e])]; exact lss_snoc h a a
  · rw [if_neg e] at h; rw [if_neg (by simp; exact e)]; simpa using h
theorem ple_ext {x y : Lb} (h : ple x y) (k : Nat) (a : Int) : ple (ext k a x) (ext k a y) := by
  rcases ple_or h with rfl | h
  · exact ple_refl _
  · exact ple_of (plt_ext h k a)
theorem ext_more {k : Nat} (h : 0 < k) (a : Int) (x : Lb) : plt x (ext k a x) = true := plt_cost (by unfold ext; simp; omega)

/-! ### the nearest of some words, and the first of those -/
/-- The best label of the words that P holds of. -/
structure IsB (L : Int) (P : List Int → Prop) (w : List Int) (x : Lb) : Prop where
  word : Word L x.2
  p : P x.2
  cost : x.1 = lev w x.2
  least : ∀ u, Word L u → P u → ple x (lev w u, u)
theorem isB_unique {L : Int} {P : List Int → Prop} {w : List Int} {x y : Lb} (h : IsB L P w x) (k : IsB L P w y) : x = y := by
  have h1 := h.least _ k.word k.p
  have h2 := k.least _ h.word h.p
  rw [← k.cost] at h1
  rw [← h.cost] at h2
  exact ple_anti h1 h2
theorem isB_exists {L : Int} {P : List Int → Prop} (w : List Int) (h : ∃ v, Word L v ∧ P v) : ∃ x, IsB L P w x := by
  obtain ⟨v, hw, hp⟩ := h
  obtain ⟨c, ⟨v2, hc, hw2, hp2⟩, hmin⟩ := nat_min (P := fun c => ∃ v, lev w v = c ∧ Word L v ∧ P v) ⟨_, v, rfl, hw, hp⟩
  obtain ⟨u, h1, ⟨h2, h3⟩, h4⟩ := least_word (L := L) (P := fun v => P v ∧ lev w v = c) ⟨v2, hw2, hp2, hc⟩
  refine ⟨(c, u), h1, h2, h3.symm, fun x hx hpx => ?_⟩
  have hle : ¬ lev w x < c := fun h => hmin _ h ⟨x, rfl, hx, hpx⟩
  unfold ple plt
  by_cases e : lev w x = c
  · rw [if_pos e]; exact h4 x hx ⟨hpx, e⟩
  · rw [if_neg e]; simp; omega
noncomputable def bestOf (L : Int) (P : List Int → Prop) (w : List Int) : Option Lb := @dite _ (∃ x, IsB L P w x) (Classical.propDecidable _) (fun h => some h.choose) (fun _ => none)
theorem bestOf_iff {L : Int} {P : List Int → Prop} {w : List Int} {x : Lb} : bestOf L P w = some x ↔ IsB L P w x := by
  unfold bestOf
  by_cases h : ∃ x, IsB L P w x
  · rw [dif_pos h]
    constructor
    · intro e
      obtain rfl := Option.some.inj e
      exact h.choose_spec
    · intro k
      rw [isB_unique h.choose_spec k]
  · rw [dif_neg h]
    exact ⟨fun e => (by cases e), fun k => absurd ⟨x, k⟩ h⟩
theorem bestOf_none {L : Int} {P : List Int → Prop} {w : List Int} : bestOf L P w = none ↔ ∀ v, Word L v → ¬ P v := by
  constructor
  · intro h v hv hp
    obtain ⟨x, hx⟩ := isB_exists w ⟨v, hv, hp⟩
    rw [bestOf_iff.2 hx] at h; cases h
  · intro h
    rcases e : bestOf L P w with _ | x
    · rfl
    · have := bestOf_iff.1 e
      exact absurd this.p (h _ this.word)
theorem bestOf_congr {L : Int} {P Q : List Int → Prop} {w : List Int} (h : ∀ v, Word L v → (P v ↔ Q v)) : bestOf L P w = bestOf L Q w := by
  rcases e : bestOf L Q w with _ | x
  · rw [bestOf_none] at e ⊢
    exact fun v hv hp => e v hv ((h v hv).1 hp)
  · have k := bestOf_iff.1 e
    exact bestOf_iff.2 ⟨k.word, (h _ k.word).2 k.p, k.cost, fun u hu hp => k.least u hu ((h u hu).1 hp)⟩
/-- The reference's better: what is there is better than nothing. -/
def btr : Option Lb → Option Lb → Bool
  | none, _ => false
  | some _, none => true
  | some x, some y => plt x y
theorem bestOf_or {L : Int} {P Q : List Int → Prop} {w : List Int} : bestOf L (fun v => P v ∨ Q v) w = if btr (bestOf L Q w) (bestOf L P w) = true then bestOf L Q w else bestOf L P w := by
  rcases eq : bestOf L Q w with _ | y
  · show _ = bestOf L P w
    refine bestOf_congr fun v hv => ⟨fun h => h.resolve_right (bestOf_none.1 eq v hv), .inl⟩
  · have hy := bestOf_iff.1 eq
    rcases ep : bestOf L P w with _ | x
    · show _ = some y
      refine bestOf_iff.2 ⟨hy.word, .inr hy.p, hy.cost, fun u hu hp => hp.elim (fun h => absurd h (bestOf_none.1 ep u hu)) (hy.least u hu)⟩
    · have hx := bestOf_iff.1 ep
      show _ = if plt y x = true then some y else some x
      rcases h : plt y x with _ | _
      · rw [if_neg (by decide)]
        refine bestOf_iff.2 ⟨hx.word, .inl hx.p, hx.cost, fun u hu hp => hp.elim (hx.least u hu) (fun q => ple_trans h (hy.least u hu q))⟩
      · rw [if_pos rfl]
        refine bestOf_iff.2 ⟨hy.word, .inr hy.p, hy.cost, fun u hu hp => hp.elim (fun q => ple_trans (ple_of h) (hx.least u hu q)) (hy.least u hu)⟩

/-! ### a label for each state -/
abbrev Row := Nat → Option Lb
/-- The best word that leads to a state. -/
noncomputable def at_ (d : Aut) (p : List Int) (s : Nat) : Option Lb := bestOf d.L (fun v => runA d d.s.toNat v = s) p
def leO (x : Option Lb) (y : Lb) : Prop := ∃ z, x = some z ∧ ple z y
theorem leO_trans {x : Option Lb} {y z : Lb} (h : leO x y) (k : ple y z) : leO x z := by
  obtain ⟨u, h1, h2⟩ := h
  exact ⟨u, h1, ple_trans h2 k⟩
theorem leO_self (x : Lb) : leO (some x) x := ⟨x, rfl, ple_refl x⟩
def lower (R R0 : Row) : Prop := ∀ s y, leO (R0 s) y → leO (R s) y
theorem lower_refl (R : Row) : lower R R := fun _ _ h => h
theorem lower_trans {R S T : Row} (h : lower R S) (k : lower S T) : lower R T := fun s y q => h s y (k s y q)
/-- Labels of real words, no cheaper than they are. -/
def Sound (d : Aut) (p : List Int) (R : Row) : Prop := ∀ s x, R s = some x → Word d.L x.2 ∧ runA d d.s.toNat x.2 = s ∧ lev p x.2 ≤ x.1
/-- Each word is there, or is a letter put in behind one. -/
def Full (d : Aut) (p : List Int) (R : Row) : Prop := ∀ v, Word d.L v → leO (R (runA d d.s.toNat v)) (lev p v, v) ∨ ∃ v' a, v = v' ++ [a] ∧ lev p v = lev p v' + 1
/-- Nothing gets better by a letter that is put in. -/
def Shut (d : Aut) (R : Row) : Prop := ∀ s x a, R s = some x → 0 ≤ a → a < d.L → leO (R (step d s a.toNat)) (ext 1 a x)
theorem run_snoc (d : Aut) (v : List Int) (a : Int) : runA d d.s.toNat (v ++ [a]) = step d (runA d d.s.toNat v) a.toNat := by rw [runA_append]; rfl
theorem word_snoc {L a : Int} {v : List Int} : Word L (v ++ [a]) ↔ Word L v ∧ 0 ≤ a ∧ a < L := by
  constructor
  · intro h
    exact ⟨fun x hx => h x (List.mem_append_left _ hx), h a (by simp)⟩
  · rintro ⟨h, ha⟩ x hx
    rcases List.mem_append.1 hx with hx | hx
    · exact h x hx
    · simp at hx; subst hx; exact ha
/-- What is sound is no better than the best one. -/
theorem sound_ge {d : Aut} {p : List Int} {R : Row} (h : Sound d p R) {s : Nat} {x : Lb} (hx : R s = some x) : ∃ b, at_ d p s = some b ∧ ple b x := by
  obtain ⟨h1, h2, h3⟩ := h s x hx
  rcases e : at_ d p s with _ | b
  · exact absurd h2 (bestOf_none.1 e _ h1)
  · exact ⟨b, rfl, ple_trans ((bestOf_iff.1 e).least _ h1 h2) (ple_same h3)⟩
theorem sound_is {d : Aut} {p : List Int} {R : Row} (h : Sound d p R) {s : Nat} {b : Lb} (hb : at_ d p s = some b) (hl : leO (R s) b) : R s = at_ d p s := by
  obtain ⟨z, hz, hzb⟩ := hl
  obtain ⟨b', hb', h2⟩ := sound_ge h hz
  rw [hb] at hb'
  obtain rfl := Option.some.inj hb'
  rw [hz, hb, ple_anti hzb h2]
theorem sound_none {d : Aut} {p : List Int} {R : Row} (h : Sound d p R) {s : Nat} (hb : at_ d p s = none) : R s = none := by
  rcases e : R s with _ | x
  · rfl
  · obtain ⟨b, hb', _⟩ := sound_ge h e
    rw [hb] at hb'; cases hb'
theorem best_stays {d : Aut} {p : List Int} {R R0 : Row} (h : Sound d p R) (hl : lower R R0) {s : Nat} (hb : R0 s = at_ d p s) : R s = at_ d p s := by
  rcases e : at_ d p s with _ | b
  · exact sound_none h e
  · rw [← e]
    exact sound_is h e (hl s b (by rw [hb, e]; exact leO_self b))
theorem closed_best {d : Aut} {p : List Int} {R R0 : Row} (h : Sound d p R) (hf : Full d p R0) (hl : lower R R0) (hs : Shut d R) (s : Nat) : R s = at_ d p s := by
  have key : ∀ (n : Nat) (v : List Int), v.length = n → Word d.L v → leO (R (runA d d.s.toNat v)) (lev p v, v) := by
    intro n
    induction n with
    | zero =>
      intro v hv hw
      rcases hf v hw with q | ⟨v', a, e, _⟩
      · exact hl _ _ q
      · rw [e] at hv; simp at hv
    | succ n ih =>
      intro v hv hw
      rcases hf v hw with q | ⟨v', a, rfl, hc⟩
      · exact hl _ _ q
      · obtain ⟨hw', ha0, ha1⟩ := word_snoc.1 hw
        obtain ⟨z, hz, hzl⟩ := ih v' (by simpa using hv) hw'
        rw [run_snoc]
        have := leO_trans (hs _ z a hz ha0 ha1) (ple_ext hzl 1 a)
        rw [hc]; exact this
  rcases e : at_ d p s with _ | b
  · exact sound_none h e
  · have hb := bestOf_iff.1 e
    have h1 := key _ b.2 rfl hb.word
    rw [hb.p, ← hb.cost] at h1
    rw [← e]
    exact sound_is h e h1
/-- Nothing is read yet. -/
def row0 (d : Aut) : Row := fun s => if s = d.s.toNat then some (0, []) else none
theorem row0_sound (d : Aut) : Sound d [] (row0 d) := fun s x hx => by
  unfold row0 at hx
  split at hx
  · rename_i h
    obtain rfl := Option.some.inj hx
    exact ⟨fun a ha => by simp at ha, h.symm, by rw [lev_nil]; simp⟩
  · cases hx
theorem row0_full (d : Aut) : Full d [] (row0 d) := fun v hv => by
  rcases List.eq_nil_or_concat v with rfl | ⟨v', a, rfl⟩
  · left
    refine ⟨(0, []), ?_, by rw [lev_nil]; exact ple_refl _⟩
    show row0 d d.s.toNat = _
    unfold row0; rw [if_pos rfl]
  · right
    rw [List.concat_eq_append]
    exact ⟨v', a, rfl, by rw [lev_nil, lev_nil]; simp⟩
/-- One letter more is read: what the new row must have. -/
theorem full_next {d : Aut} {p : List Int} {x : Int} {R T : Row} (hR : ∀ s, R s = at_ d p s) (h1 : ∀ s y, R s = some y → leO (T s) (y.1 + 1, y.2)) (h2 : ∀ s y a, R s = some y → 0 ≤ a → a < d.L → leO (T (step d s a.toNat)) (ext (neq x a) a y)) : Full d (p ++ [x]) T := fun v hv => by
  have best : ∀ v, Word d.L v → ∃ y, R (runA d d.s.toNat v) = some y ∧ ple y (lev p v, v) := fun v hv => by
    rw [hR]
    rcases e : at_ d p (runA d d.s.toNat v) with _ | y
    · exact absurd rfl (bestOf_none.1 e v hv)
    · exact ⟨y, rfl, (bestOf_iff.1 e).least v hv rfl⟩
  have del : lev p v + 1 ≤ lev (p ++ [x]) v → leO (T (runA d d.s.toNat v)) (lev (p ++ [x]) v, v) := fun hc => by
    obtain ⟨y, hy, hyl⟩ := best v hv
    refine leO_trans (h1 _ y hy) ?_
    have hd : ple (y.1 + 1, y.2) (lev p v + 1, v) := by
      rcases ple_or hyl with e | h
      · rw [e]; exact ple_refl _
      · refine ple_of ?_
        unfold plt at h ⊢
        by_cases e : y.1 = lev p v
        · rw [if_pos e] at h; rw [if_pos (by simp [e])]; exact h
        · rw [if_neg e] at h; rw [if_neg (by simp; exact e)]; simpa using h
    exact ple_trans hd (ple_same hc)
  rcases List.eq_nil_or_concat v with rfl | ⟨v', a, rfl⟩
  · left
    exact del (by rw [lev_nil2, lev_nil2]; simp)
  · rw [List.concat_eq_append] at *
    obtain ⟨hw', ha0, ha1⟩ := word_snoc.1 hv
    have hs := lev_snoc p x v' a
    by_cases c1 : lev (p ++ [x]) (v' ++ [a]) = lev (p ++ [x]) v' + 1
    · exact .inr ⟨v', a, rfl, c1⟩
    · left
      by_cases c2 : lev p (v' ++ [a]) + 1 ≤ lev (p ++ [x]) (v' ++ [a])
      · exact del c2
      · obtain ⟨y, hy, hyl⟩ := best v' hw'
        rw [run_snoc]
        refine leO_trans (leO_trans (h2 _ y a hy ha0 ha1) (ple_ext hyl _ a)) ?_
        exact ple_same (by show lev p v' + neq x a ≤ _; omega)
theorem lev_del (p v : List Int) (x : Int) : lev (p ++ [x]) v ≤ lev p v + 1 := by
  have := lev_tri (p ++ [x]) p v
  have h2 : lev (p ++ [x]) p ≤ 1 := by
    have := lev_le (lev_sub (c := p) (v := p ++ [x]) (List.sublist_append_left p [x]))
    simpa using this
  omega
theorem lev_put (p v : List Int) (x a : Int) : lev (p ++ [x]) (v ++ [a]) ≤ lev p v + neq x a := by rw [lev_snoc]; omega
theorem lev_ins (p v : List Int) (a : Int) : lev p (v ++ [a]) ≤ lev p v + 1 := by rw [lev_symm p (v ++ [a]), lev_symm p v]; exact lev_del v p a

/-! ### a label is laid where it is better -/
def lay (R : Row) (t : Nat) (x : Lb) : Row := if btr (some x) (R t) = true then (fun s => if s = t then some x else R s) else R
theorem lay_hit {R : Row} {t : Nat} {x : Lb} (h : btr (some x) (R t) = true) : lay R t x = fun s => if s = t then some x else R s := if_pos h
theorem lay_miss {R : Row} {t : Nat} {x : Lb} (h : btr (some x) (R t) = false) : lay R t x = R := if_neg (by rw [h]; decide)
theorem lay_le (R : Row) (t : Nat) (x : Lb) : leO (lay R t x t) x := by
  rcases h : btr (some x) (R t) with _ | _
  · rw [lay_miss h]
    rcases e : R t with _ | y
    · rw [e] at h; cases h
    · rw [e] at h
      exact ⟨y, rfl, h⟩
  · rw [lay_hit h]
    show leO (if t = t then some x else R t) x
    rw [if_pos rfl]; exact leO_self x
theorem lay_lower (R : Row) (t : Nat) (x : Lb) : lower (lay R t x) R := fun s y hy => by
  rcases h : btr (some x) (R t) with _ | _
  · rw [lay_miss h]; exact hy
  · rw [lay_hit h]
    show leO (if s = t then some x else R s) y
    by_cases e : s = t
    · subst e
      rw [if_pos rfl]
      obtain ⟨z, hz, hzy⟩ := hy
      rw [hz] at h
      exact ⟨x, rfl, ple_trans (ple_of h) hzy⟩
    · rw [if_neg e]; exact hy
theorem lay_sound {d : Aut} {p : List Int} {R : Row} (h : Sound d p R) {t : Nat} {x : Lb} (h1 : Word d.L x.2) (h2 : runA d d.s.toNat x.2 = t) (h3 : lev p x.2 ≤ x.1) : Sound d p (lay R t x) := fun s y hy => by
  rcases hb : btr (some x) (R t) with _ | _
  · rw [lay_miss hb] at hy; exact h s y hy
  · rw [lay_hit hb] at hy
    by_cases e : s = t
    · simp only [if_pos e] at hy
      obtain rfl := Option.some.inj hy
      exact ⟨h1, h2.trans e.symm, h3⟩
    · simp only [if_neg e] at hy
      exact h s y hy
/-- A letter put in behind what is sound. -/
theorem ext_sound {d : Aut} {p : List Int} {R : Row} (h : Sound d p R) {s : Nat} {x : Lb} (hx : R s = some x) {a : Int} (h0 : 0 ≤ a) (h1 : a < d.L) : Word d.L (ext 1 a x).2 ∧ runA d d.s.toNat (ext 1 a x).2 = step d s a.toNat ∧ lev p (ext 1 a x).2 ≤ (ext 1 a x).1 := by
  obtain ⟨k1, k2, k3⟩ := h s x hx
  refine ⟨word_snoc.2 ⟨k1, h0, h1⟩, by show runA d d.s.toNat (x.2 ++ [a]) = _; rw [run_snoc, k2], ?_⟩
  have := lev_ins p x.2 a
  show lev p (x.2 ++ [a]) ≤ x.1 + 1
  omega
/-- A letter read, or put in the place of the one that is read. -/
theorem put_sound {d : Aut} {p : List Int} {R : Row} (h : Sound d p R) {s : Nat} {y : Lb} (hy : R s = some y) {x a : Int} (h0 : 0 ≤ a) (h1 : a < d.L) : Word d.L (ext (neq x a) a y).2 ∧ runA d d.s.toNat (ext (neq x a) a y).2 = step d s a.toNat ∧ lev (p ++ [x]) (ext (neq x a) a y).2 ≤ (ext (neq x a) a y).1 := by
  obtain ⟨k1, k2, k3⟩ := h s y hy
  refine ⟨word_snoc.2 ⟨k1, h0, h1⟩, by show runA d d.s.toNat (y.2 ++ [a]) = _; rw [run_snoc, k2], ?_⟩
  have := lev_put p y.2 x a
  show lev (p ++ [x]) (y.2 ++ [a]) ≤ y.1 + neq x a
  omega
theorem del_sound {d : Aut} {p : List Int} {R : Row} (h : Sound d p R) {s : Nat} {y : Lb} (hy : R s = some y) (x : Int) : Word d.L y.2 ∧ runA d d.s.toNat y.2 = s ∧ lev (p ++ [x]) y.2 ≤ y.1 + 1 := by
  obtain ⟨k1, k2, k3⟩ := h s y hy
  have := lev_del p y.2 x
  exact ⟨k1, k2, by omega⟩
/-- As long as not all are best, some state's label is best and leads to one that is not. -/
theorem progress {d : Aut} {p : List Int} {R R0 : Row} (h : Sound d p R) (hf : Full d p R0) (hl : lower R R0) (hb : ∃ s, R s ≠ at_ d p s) :
    ∃ s x a, R s = some x ∧ R s = at_ d p s ∧ 0 ≤ a ∧ a < d.L ∧ R (step d s a.toNat) ≠ at_ d p (step d s a.toNat) ∧ at_ d p (step d s a.toNat) = some (ext 1 a x) := by
  obtain ⟨s0, hs0⟩ := hb
  have hex : ∃ v, Word d.L v ∧ R (runA d d.s.toNat v) ≠ at_ d p (runA d d.s.toNat v) := by
    rcases e : at_ d p s0 with _ | b
    · exact absurd ((sound_none h e).trans e.symm) hs0
    · have hb := bestOf_iff.1 e
      exact ⟨b.2, hb.word, by rw [hb.p]; exact hs0⟩
  obtain ⟨b, hB⟩ := isB_exists p hex
  -- b is the best label of its state
  have hat : at_ d p (runA d d.s.toNat b.2) = some b := by
    rcases e : at_ d p (runA d d.s.toNat b.2) with _ | b'
    · exact absurd rfl (bestOf_none.1 e b.2 hB.word)
    · have hb' := bestOf_iff.1 e
      have h1 := hb'.least b.2 hB.word rfl
      rw [← hB.cost] at h1
      have h2 := hB.least b'.2 hb'.word (by rw [hb'.p]; exact hB.p)
      rw [← hb'.cost] at h2
      rw [ple_anti h1 h2]
  rcases hf b.2 hB.word with q | ⟨v', a, e, hc⟩
  · have q2 := hl _ _ q
    rw [← hB.cost] at q2
    exact absurd (sound_is h hat q2) hB.p
  · have hw := hB.word
    rw [e] at hw
    obtain ⟨hw', ha0, ha1⟩ := word_snoc.1 hw
    rcases ey : at_ d p (runA d d.s.toNat v') with _ | y
    · exact absurd rfl (bestOf_none.1 ey v' hw')
    · have hy := bestOf_iff.1 ey
      have hyl := hy.least v' hw' rfl
      have hst : runA d d.s.toNat b.2 = step d (runA d d.s.toNat v') a.toNat := by rw [e, run_snoc]
      have hbe : b = ext 1 a (lev p v', v') := by
        refine Prod.ext ?_ e
        rw [hB.cost, hc]; rfl
      have h1 : ple (ext 1 a y) b := by rw [hbe]; exact ple_ext hyl 1 a
      have h2 : ple b (ext 1 a y) := by
        have hwy : Word d.L (y.2 ++ [a]) := word_snoc.2 ⟨hy.word, ha0, ha1⟩
        have hry : runA d d.s.toNat (y.2 ++ [a]) = runA d d.s.toNat b.2 := by rw [run_snoc, hy.p, hst]
        refine ple_trans ((bestOf_iff.1 hat).least _ hwy hry) (ple_same ?_)
        have := lev_ins p y.2 a
        have := hy.cost
        show lev p (y.2 ++ [a]) ≤ y.1 + 1
        omega
      have heq := ple_anti h1 h2
      have hRs : R (runA d d.s.toNat v') = at_ d p (runA d d.s.toNat v') := by
        rcases Classical.em (R (runA d d.s.toNat v') = at_ d p (runA d d.s.toNat v')) with q | q
        · exact q
        · have h3 := hB.least y.2 hy.word (by rw [hy.p]; exact q)
          rw [← hy.cost] at h3
          have h4 := ext_more (k := 1) (by omega) a y
          rw [heq] at h4
          unfold ple at h3
          rw [h3] at h4; cases h4
      refine ⟨_, y, a, by rw [hRs]; exact ey, hRs, ha0, ha1, ?_, ?_⟩
      · rw [← hst]; exact hB.p
      · rw [← hst, hat, heq]
/-- How many of the first states are not best yet. -/
noncomputable def isBad (d : Aut) (p : List Int) (R : Row) (s : Nat) : Bool := @decide (R s ≠ at_ d p s) (Classical.propDecidable _)
theorem isBad_iff {d : Aut} {p : List Int} {R : Row} {s : Nat} : isBad d p R s = true ↔ R s ≠ at_ d p s := @decide_eq_true_iff _ (Classical.propDecidable _)
noncomputable def bad (d : Aut) (p : List Int) (R : Row) : Nat := ((List.range d.next.length).filter (isBad d p R)).length
theorem filter_less {l : List Nat} {P Q : Nat → Bool} (h : ∀ s ∈ l, Q s = true → P s = true) : (l.filter Q).length ≤ (l.filter P).length ∧ ((∃ s, s ∈ l ∧ P s = true ∧ Q s = false) → (l.filter Q).length < (l.filter P).length) := by
  induction l with
  | nil => exact ⟨by simp, fun ⟨s, hs, _⟩ => by simp at hs⟩
  | cons a l ih =>
    obtain ⟨i1, i2⟩ := ih fun s hs => h s (List.mem_cons_of_mem _ hs)
    have ha := h a List.mem_cons_self
    rcases hp : P a with _ | _ <;> rcases hq : Q a with _ | _
    · rw [List.filter_cons_of_neg (by rw [hq]; decide), List.filter_cons_of_neg (by rw [hp]; decide)]
      refine ⟨i1, fun ⟨s, hs, h1, h2⟩ => i2 ?_⟩
      rcases List.mem_cons.1 hs with rfl | hs
      · rw [hp] at h1; cases h1
      · exact ⟨s, hs, h1, h2⟩
    · rw [ha hq] at hp; cases hp
    · rw [List.filter_cons_of_pos hp, List.filter_cons_of_neg (by rw [hq]; decide)]
      simp only [List.length_cons]
      exact ⟨by omega, fun _ => by omega⟩
    · rw [List.filter_cons_of_pos hp, List.filter_cons_of_pos hq]
      simp only [List.length_cons]
      refine ⟨by omega, fun ⟨s, hs, h1, h2⟩ => ?_⟩
      have := i2 (by
        rcases List.mem_cons.1 hs with rfl | hs
        · rw [hq] at h2; cases h2
        · exact ⟨s, hs, h1, h2⟩)
      omega
/-- A pass over all states and letters: R is the row ahead of it, Rc the one behind it. -/
theorem pass_less {d : Aut} (g : Good d) {p : List Int} {R R0 Rc : Row} (h : Sound d p R) (hf : Full d p R0) (hl : lower R R0) (hc : Sound d p Rc) (hcl : lower Rc R)
    (hp : ∀ s x a, R s = some x → R s = at_ d p s → 0 ≤ a → a < d.L → leO (Rc (step d s a.toNat)) (ext 1 a x)) (hb : ∃ s, R s ≠ at_ d p s) : bad d p Rc < bad d p R := by
  obtain ⟨s, x, a, h1, h2, h3, h4, h5, h6⟩ := progress h hf hl hb
  have hs : s < d.next.length := by
    obtain ⟨hw, hr, _⟩ := h s x h1
    rw [← hr]; exact g.run_lt hw g.s_lt
  refine (filter_less fun t _ ht => ?_).2 ⟨step d s a.toNat, List.mem_range.2 (g.step_lt hs (by omega)), isBad_iff.2 h5, ?_⟩
  · rw [isBad_iff] at ht ⊢
    exact fun e => ht (best_stays hc hcl e)
  · rcases e : isBad d p Rc (step d s a.toNat) with _ | _
    · rfl
    · exact absurd (sound_is hc h6 (hp s x a h1 h2 h3 h4)) (isBad_iff.1 e)
/-- Where all are best nothing gets better. -/
theorem no_better {d : Aut} {p : List Int} {R : Row} (hb : ∀ s, R s = at_ d p s) {t : Nat} {x : Lb} (h1 : Word d.L x.2) (h2 : runA d d.s.toNat x.2 = t) (h3 : lev p x.2 ≤ x.1) : btr (some x) (R t) = false := by
  rw [hb]
  rcases e : at_ d p t with _ | b
  · exact absurd h2 (bestOf_none.1 e _ h1)
  · exact ple_trans ((bestOf_iff.1 e).least _ h1 h2) (ple_same h3)

/-! ### what is mended -/
noncomputable def mendW (d : Aut) (w : List Int) : Option Lb := bestOf d.L (fun v => accA d v = true) w
/-- Of the first k states, those that are final. -/
noncomputable def selTo (d : Aut) (w : List Int) (k : Nat) : Option Lb := bestOf d.L (fun v => runA d d.s.toNat v < k ∧ accA d v = true) w
theorem selTo_zero (d : Aut) (w : List Int) : selTo d w 0 = none := bestOf_none.2 fun _ _ h => by omega
theorem selTo_succ (d : Aut) (w : List Int) (k : Nat) : selTo d w (k + 1) = if (finA d k && btr (at_ d w k) (selTo d w k)) = true then at_ d w k else selTo d w k := by
  rcases hf : finA d k with _ | _
  · rw [Bool.false_and, if_neg (by decide)]
    refine bestOf_congr fun v _ => ⟨fun ⟨h1, h2⟩ => ⟨?_, h2⟩, fun ⟨h1, h2⟩ => ⟨by omega, h2⟩⟩
    by_cases e : runA d d.s.toNat v = k
    · unfold accA at h2; rw [e, hf] at h2; cases h2
    · omega
  · rw [Bool.true_and]
    have := bestOf_or (L := d.L) (P := fun v => runA d d.s.toNat v < k ∧ accA d v = true) (Q := fun v => runA d d.s.toNat v = k) (w := w)
    unfold selTo at_
    rw [← this]
    refine bestOf_congr fun v _ => ⟨fun ⟨h1, h2⟩ => ?_, fun h => ?_⟩
    · by_cases e : runA d d.s.toNat v = k
      · exact .inr e
      · exact .inl ⟨by omega, h2⟩
    · rcases h with ⟨h1, h2⟩ | h
      · exact ⟨by omega, h2⟩
      · exact ⟨by omega, by unfold accA; rw [h]; exact hf⟩
theorem selTo_all {d : Aut} (g : Good d) (w : List Int) : selTo d w d.next.length = mendW d w := bestOf_congr fun _ hv => ⟨fun h => h.2, fun h => ⟨g.run_lt hv g.s_lt, h⟩⟩
theorem mend_some {d : Aut} {w : List Int} {x : Lb} (h : mendW d w = some x) : Word d.L x.2 ∧ accA d x.2 = true ∧ lev w x.2 = x.1 ∧ ∀ u, Word d.L u → accA d u = true → x.1 ≤ lev w u ∧ (lev w u = x.1 → lss u x.2 = false) := by
  have hb := bestOf_iff.1 h
  refine ⟨hb.word, hb.p, hb.cost.symm, fun u hu ha => ?_⟩
  have hl := hb.least u hu ha
  refine ⟨ple_cost hl, fun e => ?_⟩
  unfold ple plt at hl
  rwa [if_pos e] at hl
theorem mend_none {d : Aut} {w : List Int} : mendW d w = none ↔ ∀ u, Word d.L u → accA d u = false := by
  unfold mendW
  rw [bestOf_none]
  exact ⟨fun h u hu => by simpa using h u hu, fun h u hu => by simpa using h u hu⟩
theorem mend_good {d : Aut} {w : List Int} (hw : Word d.L w) (h : accA d w = true) : mendW d w = some (0, w) := by
  have h0 : lev w w = 0 := lev_zero.2 rfl
  refine bestOf_iff.2 ⟨hw, h, h0.symm, fun u hu ha => ?_⟩
  unfold ple plt
  by_cases e : lev w u = 0
  · rw [if_pos e]
    rw [← lev_zero.1 e]; exact lss_irr w
  · rw [if_neg e]; simp
theorem mend_zero {d : Aut} {w : List Int} {x : Lb} (h : mendW d w = some x) : x.1 = 0 ↔ accA d w = true ∧ x.2 = w := by
  obtain ⟨h1, h2, h3, _⟩ := mend_some h
  constructor
  · intro e
    rw [e] at h3
    have := lev_zero.1 h3
    rw [this]
    exact ⟨h2, rfl⟩
  · rintro ⟨_, e⟩
    rw [← h3, e]; exact lev_zero.2 rfl
/-- Near words cost nearly the same. -/
theorem mend_smooth {d : Aut} {v w : List Int} {x y : Lb} (h : mendW d v = some x) (k : mendW d w = some y) : x.1 ≤ y.1 + lev v w := by
  obtain ⟨_, _, _, h4⟩ := mend_some h
  obtain ⟨k1, k2, k3, _⟩ := mend_some k
  have := (h4 y.2 k1 k2).1
  have := lev_tri v w y.2
  omega
/-- Of either it is the lesser one of both; of both it is not less than the greater one. -/
theorem mend_either {a b c : Aut} (h1 : a.L = c.L) (h2 : b.L = c.L) (h : ∀ u, Word c.L u → accA c u = (accA a u || accA b u)) {w : List Int} {x y : Lb} (hx : mendW a w = some x) (hy : mendW b w = some y) : ∃ z, mendW c w = some z ∧ z.1 = min x.1 y.1 := by
  obtain ⟨x1, x2, x3, x4⟩ := mend_some hx
  obtain ⟨y1, y2, y3, y4⟩ := mend_some hy
  rcases e : mendW c w with _ | z
  · have := mend_none.1 e x.2 (by rw [← h1]; exact x1)
    rw [h _ (by rw [← h1]; exact x1), x2] at this; cases this
  · obtain ⟨z1, z2, z3, z4⟩ := mend_some e
    refine ⟨z, rfl, ?_⟩
    have l1 := (z4 x.2 (by rw [← h1]; exact x1) (by rw [h _ (by rw [← h1]; exact x1), x2]; rfl)).1
    have l2 := (z4 y.2 (by rw [← h2]; exact y1) (by rw [h _ (by rw [← h2]; exact y1), y2, Bool.or_true])).1
    rw [h _ z1, Bool.or_eq_true] at z2
    rcases z2 with q | q
    · have := (x4 z.2 (by rw [h1]; exact z1) q).1
      omega
    · have := (y4 z.2 (by rw [h2]; exact z1) q).1
      omega
theorem mend_both {a b c : Aut} (h1 : a.L = c.L) (h2 : b.L = c.L) (h : ∀ u, Word c.L u → accA c u = (accA a u && accA b u)) {w : List Int} {x y z : Lb} (hx : mendW a w = some x) (hy : mendW b w = some y) (hz : mendW c w = some z) : max x.1 y.1 ≤ z.1 := by
  obtain ⟨_, _, _, x4⟩ := mend_some hx
  obtain ⟨_, _, _, y4⟩ := mend_some hy
  obtain ⟨z1, z2, z3, _⟩ := mend_some hz
  rw [h _ z1, Bool.and_eq_true] at z2
  have := (x4 z.2 (by rw [h1]; exact z1) z2.1).1
  have := (y4 z.2 (by rw [h2]; exact z1) z2.2).1
  omega
end Go.Proofs.Ytfiknbdpjnpkdaa.Me
