/- Plain mathematics of automata for the laws: what is found by the two orders, with itself, with a product; de Morgan. -/
import Derived.Test.YtlhhhdgkdbplmaaDoorDfaM
namespace Go.Proofs.YtlhhhdgkdbplmaaDoor.Df

theorem nodup_map {α β : Type} {l : List α} (hn : l.Nodup) (f : α → β) (hf : ∀ x ∈ l, ∀ y ∈ l, f x = f y → x = y) : (l.map f).Nodup := by
  rw [List.nodup_iff_pairwise_ne] at hn ⊢
  rw [List.pairwise_map]
  exact List.Pairwise.imp_of_mem (fun {a b} ha hb h e => h (hf a ha b hb e)) hn
theorem nodup_sub {α : Type} [DecidableEq α] {l m : List α} (hn : l.Nodup) (hs : ∀ x ∈ l, x ∈ m) : l.length ≤ m.length :=
  nodup_le_of hn (num m) (fun x hx y hy e => by
    have h1 := idx_get (hs x hx)
    have h2 := idx_get (hs y hy)
    rw [e] at h1
    exact Option.some.inj (h1.symm.trans h2)) (fun x hx => idx_lt (hs x hx))
theorem rch_swap {a b : Aut} (hL : a.L = b.L) {p : Nat × Nat} (h : Rch (S2 a b) (start2 a b) p) : Rch (S2 b a) (start2 b a) (p.2, p.1) := by
  induction h with
  | base => exact .base
  | next _ ht ih =>
    unfold S2 at ht
    obtain ⟨c, hc, rfl⟩ := List.mem_map.1 ht
    refine .next ih ?_
    unfold S2
    exact List.mem_map.2 ⟨c, by rw [← hL]; exact hc, rfl⟩
theorem swap_le {a b : Aut} (hL : a.L = b.L) {l l' : List (Nat × Nat)} (hn : l.Nodup) (hr : ∀ x ∈ l, Rch (S2 a b) (start2 a b) x) (hw : Whole (S2 b a) (start2 b a) l') : l.length ≤ l'.length := by
  have h := nodup_sub (l := l.map fun p => (p.2, p.1)) (m := l') (nodup_map hn _ (fun x _ y _ e => Prod.ext (Prod.mk.inj e).2 (Prod.mk.inj e).1)) (fun x hx => by
    obtain ⟨p, hp, rfl⟩ := List.mem_map.1 hx
    exact hw.mem_iff.2 (rch_swap hL (hr p hp)))
  simpa using h
theorem found_swap {a b : Aut} (hL : a.L = b.L) (h : found (S2 a b) (start2 a b) = none) : found (S2 b a) (start2 b a) = none := by
  rcases found_cases (S2 b a) (start2 b a) with ⟨m, _, hw⟩ | ⟨h1, _⟩
  · rcases found_cases (S2 a b) (start2 a b) with ⟨m2, h2, _⟩ | ⟨_, m2, hn, hl, hr⟩
    · rw [h] at h2; cases h2
    · have := swap_le hL hn hr hw
      have := hw.n40
      omega
  · exact h1
theorem found_swap_len {a b : Aut} (hL : a.L = b.L) {l l' : List (Nat × Nat)} (h : found (S2 a b) (start2 a b) = some l) (h' : found (S2 b a) (start2 b a) = some l') : l.length = l'.length :=
  Nat.le_antisymm (swap_le hL (found_whole h).nd (found_whole h).rch (found_whole h')) (swap_le hL.symm (found_whole h').nd (found_whole h').rch (found_whole h))
/-- With itself. -/
theorem rch_diag {a : Aut} {p : Nat × Nat} (h : Rch (S2 a a) (start2 a a) p) : p.1 = p.2 := by
  induction h with
  | base => rfl
  | next _ ht ih =>
    unfold S2 at ht
    obtain ⟨c, hc, rfl⟩ := List.mem_map.1 ht
    simp only [ih]
theorem good2_self {a : Aut} (g : Good a) : Good2 a a := ⟨g, g, rfl⟩
theorem found_of_le {a b : Aut} (f : Nat × Nat → Nat) {n : Nat} (hf : ∀ p q, Rch (S2 a b) (start2 a b) p → Rch (S2 a b) (start2 a b) q → f p = f q → p = q) (hlt : ∀ p, Rch (S2 a b) (start2 a b) p → f p < n) (hn : n ≤ 40) :
    ∃ l, found (S2 a b) (start2 a b) = some l := by
  rcases found_cases (S2 a b) (start2 a b) with ⟨m, h, _⟩ | ⟨_, m, h1, h2, h3⟩
  · exact ⟨m, h⟩
  · have := nodup_le_of h1 f (fun x hx y hy e => hf x y (h3 x hx) (h3 y hy) e) (fun x hx => hlt x (h3 x hx))
    omega
theorem found_self {a : Aut} (g : Good a) : ∃ l, found (S2 a a) (start2 a a) = some l :=
  found_of_le (fun p => p.1) (fun p q hp hq e => Prod.ext e (by rw [← rch_diag hp, ← rch_diag hq]; exact e)) (fun p hp => (rch_lt (good2_self g) hp).1) g.n40
/-- With a product that it is in. -/
theorem rch_with {a b : Aut} (g : Good2 a b) {l : List (Nat × Nat)} (hf : found (S2 a b) (start2 a b) = some l) (f : Nat × Nat → Bool) {p : Nat × Nat}
    (h : Rch (S2 a (autOf a.L (S2 a b) l f)) (start2 a (autOf a.L (S2 a b) l f)) p) : ∃ q, l[p.2]? = some (p.1, q) := by
  have hw := found_whole hf
  induction h with
  | base => exact ⟨b.s.toNat, hw.hd⟩
  | next _ ht ih =>
    rename_i x t _
    obtain ⟨q, hq⟩ := ih
    obtain ⟨c, hc, rfl⟩ := List.mem_map.1 (show t ∈ (List.range a.L.toNat).map fun c => (step a x.1 c, step (autOf a.L (S2 a b) l f) x.2 c) from ht)
    rw [List.mem_range] at hc
    have hm : (x.1, q) ∈ l := List.mem_of_getElem? hq
    have hk : num l (x.1, q) = x.2 := idx_of hw.nd hq
    obtain ⟨h1, h2⟩ := autOf_step (f := f) hw (fun y _ => S2_len g y) hm (c := c) (by omega)
    rw [hk] at h2
    have hv := via2 a b (x.1, q) (c := c) (by omega)
    rw [hv] at h1 h2
    refine ⟨step b q c, ?_⟩
    show l[step (autOf a.L (S2 a b) l f) x.2 c]? = _
    rw [h2]
    exact idx_get h1
theorem found_with {a b : Aut} (g : Good2 a b) {l : List (Nat × Nat)} (hf : found (S2 a b) (start2 a b) = some l) (f : Nat × Nat → Bool) :
    ∃ m, found (S2 a (autOf a.L (S2 a b) l f)) (start2 a (autOf a.L (S2 a b) l f)) = some m := by
  refine found_of_le (fun p => p.2) (n := l.length) (fun p q hp hq e => ?_) (fun p hp => ?_) (found_whole hf).n40
  · obtain ⟨x, hx⟩ := rch_with g hf f hp
    obtain ⟨y, hy⟩ := rch_with g hf f hq
    rw [show p.2 = q.2 from e, hy] at hx
    simp only [Option.some.injEq, Prod.mk.injEq] at hx
    exact Prod.ext hx.1.symm e
  · obtain ⟨x, hx⟩ := rch_with g hf f hp
    exact (List.getElem?_eq_some_iff.1 hx).1
theorem good2_with {a b : Aut} (g : Good2 a b) {l : List (Nat × Nat)} (hf : found (S2 a b) (start2 a b) = some l) (f : Nat × Nat → Bool) : Good2 a (autOf a.L (S2 a b) l f) := ⟨g.ga, prod_good g hf f, rfl⟩
/-- More than 40 pairs are more than 40 pairs of states. -/
theorem found_none_mul {a b : Aut} (g : Good2 a b) (h : found (S2 a b) (start2 a b) = none) : 40 < a.next.length * b.next.length := by
  rcases found_cases (S2 a b) (start2 a b) with ⟨m, h1, _⟩ | ⟨_, m, h1, h2, h3⟩
  · rw [h] at h1; cases h1
  · have := nodup_le_of h1 (fun p => p.1 * b.next.length + p.2) (n := a.next.length * b.next.length) (fun p hp q hq e => by
      have k1 := (rch_lt g (h3 p hp)).2
      have k2 := (rch_lt g (h3 q hq)).2
      have e : p.1 * b.next.length + p.2 = q.1 * b.next.length + q.2 := e
      have e1 : p.1 = q.1 := by
        rcases Nat.lt_trichotomy p.1 q.1 with hlt | he | hlt
        · have := Nat.mul_le_mul_right b.next.length (show p.1 + 1 ≤ q.1 from hlt)
          rw [Nat.succ_mul] at this; omega
        · exact he
        · have := Nat.mul_le_mul_right b.next.length (show q.1 + 1 ≤ p.1 from hlt)
          rw [Nat.succ_mul] at this; omega
      rw [e1] at e
      exact Prod.ext e1 (by omega)) (fun p hp => by
      obtain ⟨k1, k2⟩ := rch_lt g (h3 p hp)
      have := Nat.mul_le_mul_right b.next.length (show p.1 + 1 ≤ a.next.length from k1)
      rw [Nat.succ_mul] at this
      show p.1 * b.next.length + p.2 < _
      omega)
    omega
/-- A product, by its two ends. -/
theorem prod_two (a b : Aut) : (∃ k, ∀ h, prodOut h a b = (zeroA, k + 1)) ∨ (Good2 a b ∧ ∃ l, found (S2 a b) (start2 a b) = some l) := by
  rcases h : chkD2 a b with _ | k
  · rcases hf : found (S2 a b) (start2 a b) with _ | l
    · exact .inl ⟨3, fun g => prodOut_full h hf⟩
    · exact .inr ⟨chkD2_iff.1 h, l, rfl⟩
  · exact .inl ⟨k, fun g => by rw [prodOut_bad (by omega), h]⟩
theorem prod_ok {a b : Aut} (g : Good2 a b) {l : List (Nat × Nat)} (hf : found (S2 a b) (start2 a b) = some l) (h : Bool → Bool → Bool) : prodOut h a b = (autOf a.L (S2 a b) l (fun p => h (finA a p.1) (finA b p.2)), 0) :=
  prodOut_some (chkD2_iff.2 g) hf
theorem chkD2_bad_b {a b : Aut} (h : dchk b ≠ 0) : chkD2 a b ≠ 0 := by
  unfold chkD2; repeat' split
  all_goals omega
theorem chkD2_bad_a {a b : Aut} (h : dchk a ≠ 0) : chkD2 a b ≠ 0 := by unfold chkD2; rw [if_pos h]; exact h
theorem chkD2_bad_L {a b : Aut} (h : a.L ≠ b.L) : chkD2 a b ≠ 0 := by
  unfold chkD2; repeat' split
  all_goals omega
theorem prod_err {a b : Aut} (h : chkD2 a b ≠ 0) : ∃ k, ∀ g, prodOut g a b = (zeroA, k + 1) := ⟨chkD2 a b - 1, fun g => by rw [prodOut_bad h]; congr 1; omega⟩
/-- The errors of a product do not depend on the order. -/
theorem prod_swap {a b : Aut} {k : Nat} (h : ∀ g, prodOut g a b = (zeroA, k + 1)) : ∃ j, ∀ g, prodOut g b a = (zeroA, j + 1) := by
  rcases prod_two b a with h1 | ⟨g, l, hf⟩
  · exact h1
  · exfalso
    have g' : Good2 a b := ⟨g.gb, g.ga, g.eL.symm⟩
    rcases hf' : found (S2 a b) (start2 a b) with _ | l'
    · have := found_swap g'.eL hf'
      rw [hf] at this; cases this
    · have := prod_ok g' hf' (fun x y => x && y)
      rw [h] at this
      have := congrArg Prod.snd this
      simp at this
/-! ### de Morgan -/
theorem not_prod {a b : Aut} (g : Good2 a b) {k : Nat} (h : ∀ f, prodOut f a b = (zeroA, k + 1)) : (∃ j, ∀ f, prodOut f (notA a) (notA b) = (zeroA, j + 1)) ∧ (∃ j, ∀ f, prodOut f a (notA b) = (zeroA, j + 1)) := by
  have hn : found (S2 a b) (start2 a b) = none := by
    rcases hf : found (S2 a b) (start2 a b) with _ | l
    · rfl
    · have := prod_ok g hf (fun x y => x && y)
      rw [h] at this
      have := congrArg Prod.snd this
      simp at this
  have g1 : Good2 (notA a) (notA b) := ⟨notA_good g.ga, notA_good g.gb, g.eL⟩
  have g2 : Good2 a (notA b) := ⟨g.ga, notA_good g.gb, g.eL⟩
  exact ⟨⟨3, fun f => prodOut_full (chkD2_iff.2 g1) hn⟩, ⟨3, fun f => prodOut_full (chkD2_iff.2 g2) hn⟩⟩
theorem autOf_congr {L : Int} {S : Nat × Nat → List (Nat × Nat)} {l : List (Nat × Nat)} {f g : Nat × Nat → Bool} (h : ∀ x ∈ l, f x = g x) : autOf L S l f = autOf L S l g := by
  unfold autOf; rw [List.map_congr_left h]
theorem notA_autOf (L : Int) (S : Nat × Nat → List (Nat × Nat)) (l : List (Nat × Nat)) (f : Nat × Nat → Bool) : notA (autOf L S l f) = autOf L S l (fun x => !f x) := by
  unfold notA autOf; simp
theorem morgan_either {a b : Aut} (g : Good2 a b) {l : List (Nat × Nat)} (hf : found (S2 a b) (start2 a b) = some l) :
    prodOut (fun x y => x || y) (notA a) (notA b) = (notA (autOf a.L (S2 a b) l (fun p => finA a p.1 && finA b p.2)), 0) := by
  have g1 : Good2 (notA a) (notA b) := ⟨notA_good g.ga, notA_good g.gb, g.eL⟩
  have hf1 : found (S2 (notA a) (notA b)) (start2 (notA a) (notA b)) = some l := hf
  rw [prod_ok g1 hf1, notA_autOf]
  congr 1
  refine autOf_congr fun p hp => ?_
  obtain ⟨h1, h2⟩ := rch_lt g ((found_whole hf).rch p hp)
  rw [notA_fin g.ga h1, notA_fin g.gb h2]
  cases finA a p.1 <;> cases finA b p.2 <;> rfl
theorem morgan_with {a b : Aut} (g : Good2 a b) {l : List (Nat × Nat)} (hf : found (S2 a b) (start2 a b) = some l) :
    prodOut (fun x y => x && y) a (notA b) = (autOf a.L (S2 a b) l (fun p => finA a p.1 && !finA b p.2), 0) := by
  have g1 : Good2 a (notA b) := ⟨g.ga, notA_good g.gb, g.eL⟩
  have hf1 : found (S2 a (notA b)) (start2 a (notA b)) = some l := hf
  rw [prod_ok g1 hf1]
  congr 1
  refine autOf_congr fun p hp => ?_
  obtain ⟨h1, h2⟩ := rch_lt g ((found_whole hf).rch p hp)
  rw [notA_fin g.gb h2]
theorem notOut_ok {d : Aut} (g : Good d) : notOut d = (notA d, 0) := by unfold notOut; rw [if_pos (dchk_iff.2 g)]
theorem notOut_bad {d : Aut} (h : dchk d ≠ 0) : notOut d = (zeroA, dchk d) := by unfold notOut; rw [if_neg h]
end Go.Proofs.YtlhhhdgkdbplmaaDoor.Df
