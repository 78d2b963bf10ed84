/- Sets of states as the bits of one number, and as rows of bools; what is found is found alike under another name, or not at all; what the subset construction gives. -/
import Derived.Test.YtinehjfanabegaaDoorNfaP
namespace Go.Proofs.YtinehjfanabegaaDoor.Nf
open Go.Proofs.YtinehjfanabegaaDoor.Df Go.Proofs.YtinehjfanabegaaDoor.Wo Go.Proofs.YtinehjfanabegaaDoor.Rc Go.Proofs.YtinehjfanabegaaDoor.Sm

/-! ### found under another name -/
section
variable {α β : Type} {S : α → List α} {T : β → List β} {a : α} {φ : α → β}
theorem rch_as (hT : ∀ x, Rch S a x → T (φ x) = (S x).map φ) {x : α} (h : Rch S a x) : Rch T (φ a) (φ x) := by
  induction h with
  | base => exact .base
  | next hz ht ih => exact .next ih (by rw [hT _ hz]; exact List.mem_map_of_mem ht)
variable [DecidableEq α] [DecidableEq β]
theorem found_as (hi : ∀ x y, Rch S a x → Rch S a y → φ x = φ y → x = y) (hT : ∀ x, Rch S a x → T (φ x) = (S x).map φ) : found T (φ a) = (found S a).map (List.map φ) := by
  rcases found_cases S a with ⟨l, h, hw⟩ | ⟨h, m, h1, h2, h3⟩
  · rw [h]
    have hm := fun x (hx : x ∈ l) => hw.mem_iff.1 hx
    exact expl_as hw.closed (fun x hx y hy => hi x y (hm x hx) (hm y hy)) (fun x hx => hT x (hm x hx)) 41 0 [a] h (fun x hx => by simp at hx; subst hx; exact List.mem_of_getElem? hw.hd)
  · rw [h]
    rcases hf : found T (φ a) with _ | l'
    · rfl
    · exfalso
      have hw := found_whole hf
      have hm : ∀ x ∈ m, φ x ∈ l' := fun x hx => hw.mem_iff.2 (rch_as hT (h3 x hx))
      have := nodup_le_of (l := m) (n := l'.length) h1 (fun x => num l' (φ x)) (fun x hx y hy e => by
        have e1 := idx_get (hm x hx)
        have e2 := idx_get (hm y hy)
        rw [e, e2] at e1
        exact hi x y (h3 x hx) (h3 y hy) (Option.some.inj e1).symm) (fun x hx => idx_lt (hm x hx))
      have := hw.n40
      omega
theorem autOf_as {l : List α} (hw : Whole S a l) (hi : ∀ x y, Rch S a x → Rch S a y → φ x = φ y → x = y) (hT : ∀ x, Rch S a x → T (φ x) = (S x).map φ) {L : Int} {f : α → Bool} {f' : β → Bool} (hf : ∀ x, Rch S a x → f' (φ x) = f x) : autOf L T (l.map φ) f' = autOf L S l f := by
  have hm := fun x (hx : x ∈ l) => hw.mem_iff.1 hx
  unfold autOf
  rw [List.map_map, List.map_map]
  congr 1
  · refine List.map_congr_left fun x hx => ?_
    show srow T (l.map φ) (φ x) = srow S l x
    unfold srow
    rw [hT x (hm x hx), List.map_map]
    refine List.map_congr_left fun t ht => ?_
    show ((num (l.map φ) (φ t) : Nat) : Int) = _
    rw [num_map (fun x hx y hy => hi x y (hm x hx) (hm y hy)) (hw.closed x hx t ht)]
  · exact List.map_congr_left fun x hx => hf x (hm x hx)
end
theorem explOut_as {α β : Type} [DecidableEq α] [DecidableEq β] {S : α → List α} {T : β → List β} {a : α} {φ : α → β} (hi : ∀ x y, Rch S a x → Rch S a y → φ x = φ y → x = y) (hT : ∀ x, Rch S a x → T (φ x) = (S x).map φ) {L : Int} {f : α → Bool} {f' : β → Bool}
    (hf : ∀ x, Rch S a x → f' (φ x) = f x) : explOut L T (φ a) f' = explOut L S a f := by
  have h := found_as hi hT
  rcases hl : found S a with _ | l
  · rw [hl] at h
    rw [explOut_none hl, explOut_none h]
  · rw [hl] at h
    rw [explOut_some hl, explOut_some h, autOf_as (found_whole hl) hi hT hf]
/-- What Make gives. -/
def makeOut (a : Nfa) : Aut × Nat := if nchk a = 0 then explOut a.L (T a) (beg a) (finN a) else (zeroA, nchk a)

/-! ### the bits of a number -/
def enc (X : List Nat) : Nat := X.foldl (fun x s => x ||| 2 ^ s) 0
theorem enc_fold : ∀ (X : List Nat) (x t : Nat), (X.foldl (fun x s => x ||| 2 ^ s) x).testBit t = (x.testBit t || decide (t ∈ X))
  | [], x, t => by simp
  | s :: X, x, t => by
    rw [List.foldl_cons, enc_fold X, Nat.testBit_or, Nat.testBit_two_pow, Bool.or_assoc]
    congr 1
    by_cases h : s = t
    · subst h; simp
    · have h' : ¬ t = s := fun e => h e.symm
      simp [h, h']
theorem enc_bit (X : List Nat) (t : Nat) : (enc X).testBit t = decide (t ∈ X) := by unfold enc; rw [enc_fold]; simp
theorem enc_ext {X Y : List Nat} (h : ∀ t, t ∈ X ↔ t ∈ Y) : enc X = enc Y := Nat.eq_of_testBit_eq fun t => by rw [enc_bit, enc_bit]; exact decide_eq_decide.2 (h t)
theorem enc_mem {X Y : List Nat} (h : enc X = enc Y) (t : Nat) : t ∈ X ↔ t ∈ Y := by
  have := enc_bit X t
  rw [h, enc_bit] at this
  exact (decide_eq_decide.1 this).symm
theorem enc_nil : enc [] = 0 := rfl
theorem enc_snoc (X : List Nat) (s : Nat) : enc (X ++ [s]) = enc X ||| 2 ^ s := by unfold enc; rw [List.foldl_append]; rfl
theorem enc_append (X Y : List Nat) : enc (X ++ Y) = enc X ||| enc Y := Nat.eq_of_testBit_eq fun t => by
  rw [Nat.testBit_or, enc_bit, enc_bit, enc_bit]
  by_cases h1 : t ∈ X <;> by_cases h2 : t ∈ Y <;> simp [h1, h2]
theorem enc_lt {X : List Nat} (h : ∀ s ∈ X, s < 40) : enc X < 1099511627776 := by
  have : enc X < 2 ^ 40 := Nat.lt_pow_two_of_testBit _ fun t ht => by
    rw [enc_bit]
    exact decide_eq_false fun k => by have := h t k; omega
  simpa using this
theorem pow_lt {s : Nat} (h : s < 40) : 2 ^ s < 1099511627776 := by
  have : (2 : Nat) ^ s < 2 ^ 40 := Nat.pow_lt_pow_right (by omega) h
  simpa using this
theorem enc_shift (X : List Nat) (s : Nat) : (enc X / 2 ^ s) % 2 = if s ∈ X then 1 else 0 := by
  have h := enc_bit X s
  rw [Nat.testBit_eq_decide_div_mod_eq] at h
  have h2 := decide_eq_decide.1 h
  by_cases e : s ∈ X
  · rw [if_pos e]; exact h2.2 e
  · rw [if_neg e]
    have : ¬ enc X / 2 ^ s % 2 = 1 := fun k => e (h2.1 k)
    omega
theorem enc_and (X Y : List Nat) : (enc X &&& enc Y = 0) ↔ ∀ t ∈ X, t ∉ Y := by
  constructor
  · intro h t h1 h2
    have := congrArg (fun n => Nat.testBit n t) h
    simp only [Nat.testBit_and, enc_bit, Nat.zero_testBit] at this
    simp [h1, h2] at this
  · intro h
    refine Nat.eq_of_testBit_eq fun t => ?_
    rw [Nat.testBit_and, enc_bit, enc_bit, Nat.zero_testBit]
    by_cases h1 : t ∈ X
    · simp [h1, h t h1]
    · simp [h1]
theorem fin_and {a : Nfa} (g : Good a) (X : List Nat) : decide (enc X &&& enc (a.fin.map Int.toNat) ≠ 0) = finN a X := by
  unfold finN
  refine Bool.eq_iff_iff.2 ?_
  rw [decide_eq_true_iff, List.any_eq_true]
  constructor
  · intro h
    by_cases hx : ∃ t ∈ X, t ∈ a.fin.map Int.toNat
    · obtain ⟨t, h1, h2⟩ := hx
      obtain ⟨x, h3, rfl⟩ := List.mem_map.1 h2
      have := (g.fin x h3).1
      exact ⟨_, h1, decide_eq_true (by rw [Int.toNat_of_nonneg this]; exact h3)⟩
    · exact absurd ((enc_and X _).2 fun t h1 h2 => hx ⟨t, h1, h2⟩) h
  · rintro ⟨t, h1, h2⟩ h
    exact (enc_and X _).1 h t h1 (List.mem_map.2 ⟨_, of_decide_eq_true h2, by simp⟩)

/-! ### closing a set -/
theorem clo_fix {a : Nfa} (g : Good a) {X K : List Nat} (hX : ∀ s ∈ X, s < a.n.toNat) (h1 : ∀ t ∈ K, t ∈ clo a X) (h2 : ∀ t ∈ X, t ∈ K) (h3 : ∀ t ∈ to a K (-1), t ∈ K) : enc K = enc (clo a X) := by
  refine enc_ext fun t => ⟨h1 t, fun h => ?_⟩
  obtain ⟨s, hs, hw⟩ := (mem_clo g hX).1 h
  have hr := (way_eps g).1 hw
  clear h hw
  induction hr with
  | base => exact h2 s hs
  | next _ ht ih => exact h3 _ ((mem_to g).2 ⟨_, ih, (mem_epsS g).1 ht⟩)
theorem clo_more {a : Nfa} (g : Good a) {X K : List Nat} (hX : ∀ s ∈ X, s < a.n.toNat) (h1 : ∀ t ∈ K, t ∈ clo a X) : ∀ t ∈ to a K (-1), t ∈ clo a X := by
  intro t ht
  obtain ⟨s, hs, hm⟩ := (mem_to g).1 ht
  obtain ⟨z, hz, hw⟩ := (mem_clo g hX).1 (h1 s hs)
  exact (mem_clo g hX).2 ⟨z, hz, .eps hw hm⟩
theorem clo_self {a : Nfa} (g : Good a) {X : List Nat} (hX : ∀ s ∈ X, s < a.n.toNat) : ∀ t ∈ X, t ∈ clo a X := fun t ht => (mem_clo g hX).2 ⟨t, ht, .nil⟩
theorem clo_lt {a : Nfa} {X : List Nat} {t : Nat} (h : t ∈ clo a X) : t < a.n.toNat := (mem_setQ.1 h).1
theorem lt40 {a : Nfa} (g : Good a) {X : List Nat} (h : ∀ t ∈ X, t < a.n.toNat) : ∀ t ∈ X, t < 40 := fun t ht => by
  have := h t ht; have := g.n40; omega
theorem fins_lt {a : Nfa} (g : Good a) : ∀ t ∈ a.fin.map Int.toNat, t < a.n.toNat := fun t ht => by
  obtain ⟨x, hx, rfl⟩ := List.mem_map.1 ht
  have := g.fin x hx
  have h1 := this.1; have h2 := this.2
  omega

/-! ### the subset construction, of numbers and of rows of bools -/
theorem rch_canon {a : Nfa} (g : Good a) {X : List Nat} (h : Rch (T a) (beg a) X) : X = setQ a (fun t => decide (t ∈ X)) := by
  obtain ⟨_, _, _, Z, rfl⟩ := rch_run g h
  exact clo_set a Z
theorem rch_lt40 {a : Nfa} (g : Good a) {X : List Nat} (h : Rch (T a) (beg a) X) : ∀ t ∈ X, t < a.n.toNat := fun t ht => by
  rw [rch_canon g h] at ht; exact (mem_setQ.1 ht).1
def dec (a : Nfa) (x : Nat) : List Nat := setQ a fun t => x.testBit t
theorem dec_enc {a : Nfa} {X : List Nat} (h : X = setQ a (fun t => decide (t ∈ X))) : dec a (enc X) = X := by
  unfold dec
  rw [show (fun t => (enc X).testBit t) = fun t => decide (t ∈ X) from funext fun t => enc_bit X t]
  exact h.symm
def T64 (a : Nfa) (x : Nat) : List Nat := (T a (dec a x)).map enc
theorem make64 {a : Nfa} (g : Good a) : explOut a.L (T64 a) (enc (beg a)) (fun x => decide (x &&& enc (a.fin.map Int.toNat) ≠ 0)) = explOut a.L (T a) (beg a) (finN a) :=
  explOut_as (fun x y hx hy e => by
    have h1 := dec_enc (rch_canon g hx)
    have h2 := dec_enc (rch_canon g hy)
    rw [← h1, ← h2, e]) (fun x hx => by unfold T64; rw [dec_enc (rch_canon g hx)]) (fun x _ => fin_and g x)
def rowQ (a : Nfa) (X : List Nat) : List Bool := (List.range a.n.toNat).map fun t => decide (t ∈ X)
theorem rowQ_len (a : Nfa) (X : List Nat) : (rowQ a X).length = a.n.toNat := by simp [rowQ]
theorem rowQ_get {a : Nfa} (X : List Nat) {t : Nat} (h : t < a.n.toNat) : (rowQ a X)[t]? = some (decide (t ∈ X)) := by
  unfold rowQ; rw [List.getElem?_map, List.getElem?_range h]; rfl
def decB (a : Nfa) (r : List Bool) : List Nat := setQ a fun t => r[t]?.getD false
theorem decB_row {a : Nfa} {X : List Nat} (h : X = setQ a (fun t => decide (t ∈ X))) : decB a (rowQ a X) = X := by
  have e : decB a (rowQ a X) = setQ a (fun t => decide (t ∈ X)) := setQ_ext fun t ht => by rw [rowQ_get X ht]; rfl
  rw [e]; exact h.symm
def TB (a : Nfa) (r : List Bool) : List (List Bool) := (T a (decB a r)).map (rowQ a)
theorem makeB {a : Nfa} (g : Good a) (f : List Bool → Bool) (hf : ∀ X, Rch (T a) (beg a) X → f (rowQ a X) = finN a X) : explOut a.L (TB a) (rowQ a (beg a)) f = explOut a.L (T a) (beg a) (finN a) :=
  explOut_as (fun x y hx hy e => by
    have h1 := decB_row (rch_canon g hx)
    have h2 := decB_row (rch_canon g hy)
    rw [← h1, ← h2, e]) (fun x hx => by unfold TB; rw [decB_row (rch_canon g hx)]) hf
end Go.Proofs.YtinehjfanabegaaDoor.Nf
