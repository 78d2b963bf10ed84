/- Plain mathematics of formulas: trees, their nodes, the grammar of their texts; two ways to read a text, and that they come to the same. -/
import Derived.Test.YtaelgnmklepebaaDoorWords
namespace Go.Proofs.YtaelgnmklepebaaDoor.Fm

inductive Tree where
  | leaf (k a : Nat)
  | un (k : Nat) (t : Tree)
  | bin (k : Nat) (t u : Tree)
/-- A node: its kind, its operands. -/
abbrev Nd := Int × Int × Int
def Tree.size : Tree → Nat
  | .leaf _ _ => 1
  | .un _ t => t.size + 1
  | .bin _ t u => t.size + u.size + 1
theorem Tree.size_pos (t : Tree) : 0 < t.size := by cases t <;> simp [Tree.size]
/-- The nodes of a tree behind those that are there. -/
def flat : Tree → List Nd → List Nd
  | .leaf k a, f => f ++ [((k : Int), (a : Int), 0)]
  | .un k t, f => flat t f ++ [((k : Int), (((flat t f).length - 1 : Nat) : Int), 0)]
  | .bin k t u, f => flat u (flat t f) ++ [((k : Int), (((flat t f).length - 1 : Nat) : Int), (((flat u (flat t f)).length - 1 : Nat) : Int))]
theorem flat_length : ∀ (t : Tree) (f : List Nd), (flat t f).length = f.length + t.size
  | .leaf _ _, f => by simp [flat, Tree.size]
  | .un _ t, f => by simp [flat, Tree.size, flat_length t f]; omega
  | .bin _ t u, f => by simp [flat, Tree.size, flat_length t f, flat_length u (flat t f)]; omega

/-! ### the grammar -/
def dg (d : Nat) : UInt8 := UInt8.ofNat (48 + d)
def val : List Nat → Nat
  | [] => 0
  | d :: l => 2 ^ d + val l
def Un (k : Nat) (c : UInt8) : Prop := (k = 3 ∧ c = 33) ∨ (k = 6 ∧ c = 88) ∨ (k = 7 ∧ c = 87)
def Ur (k : Nat) (c : UInt8) : Prop := (k = 8 ∧ c = 85) ∨ (k = 9 ∧ c = 82)
def setText (ds : List Nat) : List UInt8 := 91 :: (ds.map dg ++ [93])
inductive G (L : Nat) : Nat → List UInt8 → Tree → Prop where
  | tt : G L 0 [116] (.leaf 0 0)
  | ff : G L 0 [102] (.leaf 1 0)
  | set {ds : List Nat} : ds.Sublist (List.range L) → G L 0 (setText ds) (.leaf 2 (val ds))
  | un {k : Nat} {c : UInt8} {s : List UInt8} {t : Tree} : Un k c → G L 0 s t → G L 0 (c :: s) (.un k t)
  | par {s : List UInt8} {t : Tree} : G L 3 s t → G L 0 (40 :: (s ++ [41])) t
  | la1 {s : List UInt8} {t : Tree} : G L 0 s t → G L 1 s t
  | la2 {k : Nat} {c : UInt8} {s s2 : List UInt8} {t t2 : Tree} : Ur k c → G L 0 s t → G L 1 s2 t2 → G L 1 (s ++ c :: s2) (.bin k t t2)
  | bo1 {s : List UInt8} {t : Tree} : G L 1 s t → G L 2 s t
  | bo2 {s s2 : List UInt8} {t t2 : Tree} : G L 2 s t → G L 1 s2 t2 → G L 2 (s ++ 38 :: s2) (.bin 4 t t2)
  | ei1 {s : List UInt8} {t : Tree} : G L 2 s t → G L 3 s t
  | ei2 {s s2 : List UInt8} {t t2 : Tree} : G L 3 s t → G L 2 s2 t2 → G L 3 (s ++ 124 :: s2) (.bin 5 t t2)
theorem G.up {L : Nat} {s : List UInt8} {t : Tree} (h : G L 0 s t) : G L 3 s t := .ei1 (.bo1 (.la1 h))

/-! ### how deep in brackets -/
def run : Nat → List UInt8 → Option Nat
  | d, [] => some d
  | d, c :: s => if c = 40 then run (d + 1) s else if c = 41 then (if d = 0 then none else run (d - 1) s) else run d s
theorem run_append : ∀ (s t : List UInt8) (d : Nat), run d (s ++ t) = (run d s).bind fun e => run e t
  | [], t, d => rfl
  | c :: s, t, d => by
    simp only [List.cons_append, run]
    split
    · exact run_append s t _
    · split
      · split
        · rfl
        · exact run_append s t _
      · exact run_append s t _
theorem run_up : ∀ (s : List UInt8) (d e : Nat), run d s = some e → run (d + 1) s = some (e + 1)
  | [], d, e, h => by simp only [run, Option.some.injEq] at h ⊢; omega
  | c :: s, d, e, h => by
    simp only [run] at h ⊢
    split
    · rename_i hc; rw [if_pos hc] at h; exact run_up s _ _ h
    · rename_i hc; rw [if_neg hc] at h
      split
      · rename_i h2; rw [if_pos h2] at h
        split at h
        · cases h
        · rename_i h3
          rw [if_neg (by omega)]
          have := run_up s _ _ h
          rwa [show d - 1 + 1 = d + 1 - 1 by omega] at this
      · rename_i h2; rw [if_neg h2] at h; exact run_up s _ _ h
theorem run_cons {c : UInt8} (h1 : c ≠ 40) (h2 : c ≠ 41) (d : Nat) (s : List UInt8) : run d (c :: s) = run d s := by simp [run, h1, h2]
theorem run_split {p q : List UInt8} {d e : Nat} (h : run d (p ++ q) = some e) : ∃ m, run d p = some m ∧ run m q = some e := by
  rw [run_append] at h
  rcases h2 : run d p with _ | m
  · rw [h2] at h; cases h
  · rw [h2] at h; exact ⟨m, rfl, h⟩
/-- How loosely a sign binds. -/
def loose (c : UInt8) : Nat := if c = 124 then 3 else if c = 38 then 2 else if c = 85 then 1 else if c = 82 then 1 else 0
theorem loose_par {c : UInt8} (h : loose c ≠ 0) : c ≠ 40 ∧ c ≠ 41 := by
  constructor <;> (rintro rfl; exact h rfl)
theorem split3 {p q s1 s2 : List UInt8} {c b : UInt8} (h : p ++ c :: q = s1 ++ b :: s2) :
    (∃ r, s1 = p ++ c :: r ∧ q = r ++ b :: s2) ∨ (p = s1 ∧ c = b ∧ q = s2) ∨ (∃ r, p = s1 ++ b :: r ∧ s2 = r ++ c :: q) := by
  rcases List.append_eq_append_iff.1 h with ⟨a, h1, h2⟩ | ⟨a, h1, h2⟩
  · rcases a with _ | ⟨x, a⟩
    · simp only [List.nil_append, List.cons.injEq] at h2
      refine .inr (.inl ⟨by simpa using h1.symm, h2.1, h2.2⟩)
    · simp only [List.cons_append, List.cons.injEq] at h2
      obtain ⟨rfl, rfl⟩ := h2
      exact .inl ⟨a, h1, rfl⟩
  · rcases a with _ | ⟨x, a⟩
    · simp only [List.nil_append, List.cons.injEq] at h2
      refine .inr (.inl ⟨by simpa using h1, h2.1.symm, h2.2.symm⟩)
    · simp only [List.cons_append, List.cons.injEq] at h2
      obtain ⟨rfl, rfl⟩ := h2
      exact .inr (.inr ⟨a, h1, rfl⟩)
theorem Un.plain {k : Nat} {c : UInt8} (h : Un k c) : c ≠ 40 ∧ c ≠ 41 ∧ loose c = 0 := by
  rcases h with ⟨_, rfl⟩ | ⟨_, rfl⟩ | ⟨_, rfl⟩ <;> decide
theorem Ur.plain {k : Nat} {c : UInt8} (h : Ur k c) : c ≠ 40 ∧ c ≠ 41 ∧ loose c = 1 := by
  rcases h with ⟨_, rfl⟩ | ⟨_, rfl⟩ <;> decide
theorem dg_plain {d : Nat} (h : d < 6) : dg d ≠ 40 ∧ dg d ≠ 41 ∧ loose (dg d) = 0 ∧ dg d ≠ 93 := by
  have : d = 0 ∨ d = 1 ∨ d = 2 ∨ d = 3 ∨ d = 4 ∨ d = 5 := by omega
  rcases this with rfl | rfl | rfl | rfl | rfl | rfl <;> decide
theorem dg_inj {d e : Nat} (hd : d < 6) (he : e < 6) (h : dg d = dg e) : d = e := by
  have h1 : d = 0 ∨ d = 1 ∨ d = 2 ∨ d = 3 ∨ d = 4 ∨ d = 5 := by omega
  have h2 : e = 0 ∨ e = 1 ∨ e = 2 ∨ e = 3 ∨ e = 4 ∨ e = 5 := by omega
  rcases h1 with rfl | rfl | rfl | rfl | rfl | rfl <;> rcases h2 with rfl | rfl | rfl | rfl | rfl | rfl <;> first | rfl | exact absurd h (by decide)
theorem sub_lt {L : Nat} {ds : List Nat} (h : ds.Sublist (List.range L)) {d : Nat} (hd : d ∈ ds) : d < L := List.mem_range.1 (h.subset hd)
theorem setText_plain {L : Nat} (hL : L ≤ 6) {ds : List Nat} (h : ds.Sublist (List.range L)) : ∀ c ∈ setText ds, c ≠ 40 ∧ c ≠ 41 ∧ loose c = 0 := by
  intro c hc
  simp only [setText, List.mem_cons, List.mem_append, List.mem_map, List.not_mem_nil, or_false] at hc
  rcases hc with rfl | ⟨d, hd, rfl⟩ | rfl
  · decide
  · have := dg_plain (d := d) (by have := sub_lt h hd; omega); exact ⟨this.1, this.2.1, this.2.2.1⟩
  · decide
theorem run_plain : ∀ (s : List UInt8) (d : Nat), (∀ c ∈ s, c ≠ 40 ∧ c ≠ 41) → run d s = some d
  | [], d, _ => rfl
  | c :: s, d, h => by
    rw [run_cons (h c (by simp)).1 (h c (by simp)).2]
    exact run_plain s d fun x hx => h x (by simp [hx])
/-- Where it is outside of brackets, no sign that is looser. -/
def Fits (n : Nat) (s : List UInt8) : Prop := ∀ p c q, s = p ++ c :: q → run 0 p = some 0 → loose c ≤ n
theorem fits_two {n : Nat} {s1 s2 : List UInt8} {b : UInt8} (hb : loose b ≤ n) (hb0 : b ≠ 40 ∧ b ≠ 41) (r1 : run 0 s1 = some 0) (h1 : Fits n s1) (h2 : Fits n s2) : Fits n (s1 ++ b :: s2) := by
  intro p c q e hp
  rcases split3 e.symm with ⟨r, e1, _⟩ | ⟨_, e1, _⟩ | ⟨r, e1, e2⟩
  · exact h1 p c r e1 hp
  · rw [e1]; exact hb
  · refine h2 r c q e2 ?_
    rw [e1, run_append, r1] at hp
    simpa [run, hb0.1, hb0.2] using hp
theorem run_two {s1 s2 : List UInt8} {b : UInt8} (hb0 : b ≠ 40 ∧ b ≠ 41) (r1 : run 0 s1 = some 0) (r2 : run 0 s2 = some 0) : run 0 (s1 ++ b :: s2) = some 0 := by
  rw [run_append, r1]; simpa [run, hb0.1, hb0.2] using r2
theorem Fits.mono {n m : Nat} {s : List UInt8} (h : Fits n s) (hm : n ≤ m) : Fits m s := fun p c q e hp => Nat.le_trans (h p c q e hp) hm
theorem G_fits {L : Nat} (hL : L ≤ 6) {n : Nat} {s : List UInt8} {t : Tree} (h : G L n s t) : run 0 s = some 0 ∧ Fits n s := by
  induction h with
  | tt => exact ⟨rfl, fun p c q e _ => by rcases p with _ | ⟨x, p⟩ <;> simp at e; rw [← e.1]; decide⟩
  | ff => exact ⟨rfl, fun p c q e _ => by rcases p with _ | ⟨x, p⟩ <;> simp at e; rw [← e.1]; decide⟩
  | set hs =>
    have hp := setText_plain hL hs
    refine ⟨run_plain _ _ fun c hc => ⟨(hp c hc).1, (hp c hc).2.1⟩, fun p c q e _ => ?_⟩
    rw [(hp c (by rw [e]; simp)).2.2]; exact Nat.le_refl _
  | un hu _ ih =>
    have hp := hu.plain
    refine ⟨by rw [run_cons hp.1 hp.2.1]; exact ih.1, fun p c q e hr => ?_⟩
    rcases p with _ | ⟨x, p⟩
    · simp only [List.nil_append, List.cons.injEq] at e; rw [← e.1, hp.2.2]; exact Nat.le_refl _
    · simp only [List.cons_append, List.cons.injEq] at e
      rw [← e.1, run_cons hp.1 hp.2.1] at hr
      exact ih.2 p c q e.2 hr
  | @par s t _ ih =>
    refine ⟨?_, fun p c q e hr => ?_⟩
    · show run 1 (s ++ [41]) = some 0
      rw [run_append, run_up _ _ _ ih.1]; rfl
    · rcases p with _ | ⟨x, p⟩
      · simp only [List.nil_append, List.cons.injEq] at e; rw [← e.1]; decide
      · simp only [List.cons_append, List.cons.injEq] at e
        rw [← e.1] at hr
        have hr1 : run 1 p = some 0 := hr
        rcases split3 e.2.symm with ⟨r, e1, _⟩ | ⟨_, e1, _⟩ | ⟨r, _, e2⟩
        · have := ih.1
          rw [e1] at this
          obtain ⟨m, hm, _⟩ := run_split this
          rw [run_up _ _ _ hm] at hr1; cases hr1
        · rw [e1]; decide
        · simp at e2
  | la1 _ ih => exact ⟨ih.1, ih.2.mono (by omega)⟩
  | la2 hu _ _ ih1 ih2 => exact ⟨run_two ⟨hu.plain.1, hu.plain.2.1⟩ ih1.1 ih2.1, fits_two (by rw [hu.plain.2.2]; exact Nat.le_refl _) ⟨hu.plain.1, hu.plain.2.1⟩ ih1.1 (ih1.2.mono (by omega)) ih2.2⟩
  | bo1 _ ih => exact ⟨ih.1, ih.2.mono (by omega)⟩
  | bo2 _ _ ih1 ih2 => exact ⟨run_two (by decide) ih1.1 ih2.1, fits_two (by decide) (by decide) ih1.1 ih1.2 (ih2.2.mono (by omega))⟩
  | ei1 _ ih => exact ⟨ih.1, ih.2.mono (by omega)⟩
  | ei2 _ _ ih1 ih2 => exact ⟨run_two (by decide) ih1.1 ih2.1, fits_two (by decide) (by decide) ih1.1 ih1.2 (ih2.2.mono (by omega))⟩
theorem G_ne {L n : Nat} {s : List UInt8} {t : Tree} (h : G L n s t) : s ≠ [] := by
  induction h <;> simp_all [setText]
/-- No sign of looseness n outside of brackets, from depth d on. -/
def no (n : Nat) (s : List UInt8) : Prop := ∀ p c q, s = p ++ c :: q → run 0 p = some 0 → loose c ≠ n
theorem Fits.no {n m : Nat} {s : List UInt8} (h : Fits n s) (hm : n < m) : no m s := fun p c q e hp k => by have := h p c q e hp; omega
theorem G.low3 {L : Nat} (hL : L ≤ 6) {s : List UInt8} {t : Tree} (h : G L 3 s t) (hn : no 3 s) : G L 2 s t := by
  cases h with
  | ei1 h => exact h
  | ei2 h1 _ => exact absurd rfl (hn _ _ _ rfl (G_fits hL h1).1)
theorem G.low2 {L : Nat} (hL : L ≤ 6) {s : List UInt8} {t : Tree} (h : G L 2 s t) (hn : no 2 s) : G L 1 s t := by
  cases h with
  | bo1 h => exact h
  | bo2 h1 _ => exact absurd rfl (hn _ _ _ rfl (G_fits hL h1).1)
theorem G.low1 {L : Nat} (hL : L ≤ 6) {s : List UInt8} {t : Tree} (h : G L 1 s t) (hn : no 1 s) : G L 0 s t := by
  cases h with
  | la1 h => exact h
  | la2 hu h1 _ => exact absurd hu.plain.2.2 (hn _ _ _ rfl (G_fits hL h1).1)

/-! ### reading from the left: the program's way -/
inductive Lv where
  | sg | la | bo | ei
  | tb (t : Tree)
  | te (t : Tree)
/-- What stands in a set, as far as its letters rise. -/
def digs : List Nat → List UInt8 → Nat → Nat × List UInt8
  | [], s, n => (n, s)
  | _ :: as, [], n => digs as [] n
  | a :: as, c :: s, n => if c = dg a then digs as s (n + 2 ^ a) else digs as (c :: s) n
def Other (c : UInt8) : Prop := c ≠ 40 ∧ c ≠ 116 ∧ c ≠ 102 ∧ c ≠ 91 ∧ c ≠ 33 ∧ c ≠ 88 ∧ c ≠ 87
inductive Ps (L : Nat) : Lv → List UInt8 → Option (Tree × List UInt8) → Prop where
  | endd : Ps L .sg [] none
  | par {s r : List UInt8} {t : Tree} : Ps L .ei s (some (t, 41 :: r)) → Ps L .sg (40 :: s) (some (t, r))
  | parBad {s : List UInt8} : Ps L .ei s none → Ps L .sg (40 :: s) none
  | parShut {s r : List UInt8} {t : Tree} : Ps L .ei s (some (t, r)) → (∀ r', r ≠ 41 :: r') → Ps L .sg (40 :: s) none
  | tt {s : List UInt8} : Ps L .sg (116 :: s) (some (.leaf 0 0, s))
  | ff {s : List UInt8} : Ps L .sg (102 :: s) (some (.leaf 1 0, s))
  | set {s r : List UInt8} {n : Nat} : digs (List.range L) s 0 = (n, 93 :: r) → Ps L .sg (91 :: s) (some (.leaf 2 n, r))
  | setBad {s r : List UInt8} {n : Nat} : digs (List.range L) s 0 = (n, r) → (∀ r', r ≠ 93 :: r') → Ps L .sg (91 :: s) none
  | un {k : Nat} {c : UInt8} {s r : List UInt8} {t : Tree} : Un k c → Ps L .sg s (some (t, r)) → Ps L .sg (c :: s) (some (.un k t, r))
  | unBad {k : Nat} {c : UInt8} {s : List UInt8} : Un k c → Ps L .sg s none → Ps L .sg (c :: s) none
  | other {c : UInt8} {s : List UInt8} : Other c → Ps L .sg (c :: s) none
  | laBad {s : List UInt8} : Ps L .sg s none → Ps L .la s none
  | la1 {s r : List UInt8} {t : Tree} : Ps L .sg s (some (t, r)) → (∀ c r', r = c :: r' → loose c ≠ 1) → Ps L .la s (some (t, r))
  | la2 {k : Nat} {c : UInt8} {s r r2 : List UInt8} {t t2 : Tree} : Ur k c → Ps L .sg s (some (t, c :: r)) → Ps L .la r (some (t2, r2)) → Ps L .la s (some (.bin k t t2, r2))
  | la2Bad {k : Nat} {c : UInt8} {s r : List UInt8} {t : Tree} : Ur k c → Ps L .sg s (some (t, c :: r)) → Ps L .la r none → Ps L .la s none
  | boBad {s : List UInt8} : Ps L .la s none → Ps L .bo s none
  | bo {s r : List UInt8} {t : Tree} {x : Option (Tree × List UInt8)} : Ps L .la s (some (t, r)) → Ps L (.tb t) r x → Ps L .bo s x
  | tbEnd {r : List UInt8} {t : Tree} : (∀ r', r ≠ 38 :: r') → Ps L (.tb t) r (some (t, r))
  | tbBad {r : List UInt8} {t : Tree} : Ps L .la r none → Ps L (.tb t) (38 :: r) none
  | tbMore {r r2 : List UInt8} {t t2 : Tree} {x : Option (Tree × List UInt8)} : Ps L .la r (some (t2, r2)) → Ps L (.tb (.bin 4 t t2)) r2 x → Ps L (.tb t) (38 :: r) x
  | eiBad {s : List UInt8} : Ps L .bo s none → Ps L .ei s none
  | ei {s r : List UInt8} {t : Tree} {x : Option (Tree × List UInt8)} : Ps L .bo s (some (t, r)) → Ps L (.te t) r x → Ps L .ei s x
  | teEnd {r : List UInt8} {t : Tree} : (∀ r', r ≠ 124 :: r') → Ps L (.te t) r (some (t, r))
  | teBad {r : List UInt8} {t : Tree} : Ps L .bo r none → Ps L (.te t) (124 :: r) none
  | teMore {r r2 : List UInt8} {t t2 : Tree} {x : Option (Tree × List UInt8)} : Ps L .bo r (some (t2, r2)) → Ps L (.te (.bin 5 t t2)) r2 x → Ps L (.te t) (124 :: r) x

theorem digs_short : ∀ (as : List Nat) (s : List UInt8) (n m : Nat) (r : List UInt8), digs as s n = (m, r) → r.length ≤ s.length
  | [], s, n, m, r, h => by simp only [digs, Prod.mk.injEq] at h; rw [h.2]; exact Nat.le_refl _
  | a :: as, [], n, m, r, h => digs_short as [] n m r h
  | a :: as, c :: s, n, m, r, h => by
    simp only [digs] at h
    split at h
    · have := digs_short as s _ _ _ h; simp; omega
    · exact digs_short as (c :: s) _ _ _ h
theorem digs_sound : ∀ (as : List Nat) (s : List UInt8) (n m : Nat) (r : List UInt8), digs as s n = (m, r) → ∃ ds, ds.Sublist as ∧ s = ds.map dg ++ r ∧ m = n + val ds
  | [], s, n, m, r, h => by simp only [digs, Prod.mk.injEq] at h; exact ⟨[], List.Sublist.refl _, by simp [h.2], by simp [val, h.1]⟩
  | a :: as, [], n, m, r, h => by
    obtain ⟨ds, h1, h2, h3⟩ := digs_sound as [] n m r h
    exact ⟨ds, h1.cons _, h2, h3⟩
  | a :: as, c :: s, n, m, r, h => by
    simp only [digs] at h
    split at h
    · rename_i hc
      obtain ⟨ds, h1, h2, h3⟩ := digs_sound as s _ m r h
      exact ⟨a :: ds, h1.cons_cons _, by simp [hc, h2], by simp only [val]; omega⟩
    · obtain ⟨ds, h1, h2, h3⟩ := digs_sound as (c :: s) _ m r h
      exact ⟨ds, h1.cons _, h2, h3⟩
theorem digs_full : ∀ (as : List Nat), as.Nodup → (∀ a ∈ as, a < 6) → ∀ (ds : List Nat) (n : Nat) (r : List UInt8), ds.Sublist as → digs as (ds.map dg ++ 93 :: r) n = (n + val ds, 93 :: r)
  | [], _, _, ds, n, r, h => by
    obtain rfl := List.sublist_nil.1 h
    simp [digs, val]
  | a :: as, hn, hl, ds, n, r, h => by
    have hn2 := List.nodup_cons.1 hn
    have ha : a < 6 := hl a (by simp)
    have ih := digs_full as hn2.2 (fun x hx => hl x (by simp [hx]))
    rcases ds with _ | ⟨d, ds⟩
    · simp only [List.map_nil, List.nil_append, digs]
      rw [if_neg (Ne.symm (dg_plain ha).2.2.2)]
      exact ih [] n r (List.nil_sublist _)
    · simp only [List.map_cons, List.cons_append, digs]
      by_cases e : d = a
      · subst e
        rw [if_pos rfl]
        have h2 : ds.Sublist as := by
          cases h with
          | cons _ h => exact absurd (h.subset (by simp)) hn2.1
          | cons_cons _ h => exact h
        rw [ih ds _ r h2]
        simp only [val]; congr 1; omega
      · have h2 : (d :: ds).Sublist as := by
          cases h with
          | cons _ h => exact h
          | cons_cons _ h => exact absurd rfl e
        have hd : d < 6 := hl d (by simp [h2.subset (show d ∈ d :: ds by simp)])
        rw [if_neg fun k => e (dg_inj hd ha k)]
        exact ih (d :: ds) n r h2
theorem nodup_range (L : Nat) : (List.range L).Nodup := List.nodup_range

theorem Ps_total (L : Nat) : ∀ (n : Nat) (s : List UInt8), s.length ≤ n →
    (∃ x, Ps L .sg s x ∧ ∀ t r, x = some (t, r) → r.length < s.length) ∧ (∃ x, Ps L .la s x ∧ ∀ t r, x = some (t, r) → r.length < s.length) ∧
    (∃ x, Ps L .bo s x ∧ ∀ t r, x = some (t, r) → r.length < s.length) ∧ (∃ x, Ps L .ei s x ∧ ∀ t r, x = some (t, r) → r.length < s.length) ∧
    (∀ u, ∃ x, Ps L (.tb u) s x ∧ ∀ t r, x = some (t, r) → r.length ≤ s.length) ∧ (∀ u, ∃ x, Ps L (.te u) s x ∧ ∀ t r, x = some (t, r) → r.length ≤ s.length) := by
  intro n
  induction n with
  | zero =>
    intro s hs
    obtain rfl : s = [] := List.eq_nil_of_length_eq_zero (by omega)
    exact ⟨⟨none, .endd, by simp⟩, ⟨none, .laBad .endd, by simp⟩, ⟨none, .boBad (.laBad .endd), by simp⟩, ⟨none, .eiBad (.boBad (.laBad .endd)), by simp⟩,
      fun u => ⟨_, .tbEnd (by simp), by rintro t r e; simp only [Option.some.injEq, Prod.mk.injEq] at e; rw [← e.2]; exact Nat.le_refl _⟩, fun u => ⟨_, .teEnd (by simp), by rintro t r e; simp only [Option.some.injEq, Prod.mk.injEq] at e; rw [← e.2]; exact Nat.le_refl _⟩⟩
  | succ n ih =>
    intro s hs
    have hsg : ∃ x, Ps L .sg s x ∧ ∀ t r, x = some (t, r) → r.length < s.length := by
      rcases s with _ | ⟨c, s⟩
      · exact ⟨none, .endd, by simp⟩
      have hl : s.length ≤ n := by simpa using hs
      by_cases h40 : c = 40
      · subst h40
        obtain ⟨x, hx, hx2⟩ := (ih s hl).2.2.2.1
        rcases x with _ | ⟨t, r⟩
        · exact ⟨none, .parBad hx, by simp⟩
        · by_cases hr : ∃ r', r = 41 :: r'
          · obtain ⟨r', rfl⟩ := hr
            exact ⟨_, .par hx, by rintro t2 r2 e; simp only [Option.some.injEq, Prod.mk.injEq] at e; have := hx2 _ _ rfl; rw [← e.2]; simp at this ⊢; omega⟩
          · exact ⟨none, .parShut hx (fun r' e => hr ⟨r', e⟩), by simp⟩
      by_cases h116 : c = 116
      · subst h116; exact ⟨_, .tt, by rintro t r e; simp only [Option.some.injEq, Prod.mk.injEq] at e; rw [← e.2]; simp⟩
      by_cases h102 : c = 102
      · subst h102; exact ⟨_, .ff, by rintro t r e; simp only [Option.some.injEq, Prod.mk.injEq] at e; rw [← e.2]; simp⟩
      by_cases h91 : c = 91
      · subst h91
        obtain ⟨⟨m, r⟩, hd⟩ : ∃ y, y = digs (List.range L) s 0 := ⟨_, rfl⟩
        by_cases hr : ∃ r', r = 93 :: r'
        · obtain ⟨r', rfl⟩ := hr
          exact ⟨_, .set hd.symm, by rintro t2 r2 e; simp only [Option.some.injEq, Prod.mk.injEq] at e; have := digs_short _ _ _ _ _ hd.symm; rw [← e.2]; simp at this ⊢; omega⟩
        · exact ⟨none, .setBad hd.symm (fun r' e => hr ⟨r', e⟩), by simp⟩
      have hun : ∀ k, Un k c → ∃ x, Ps L .sg (c :: s) x ∧ ∀ t r, x = some (t, r) → r.length < (c :: s).length := by
        intro k hk
        obtain ⟨x, hx, hx2⟩ := (ih s hl).1
        rcases x with _ | ⟨t, r⟩
        · exact ⟨none, .unBad hk hx, by simp⟩
        · exact ⟨_, .un hk hx, by rintro t2 r2 e; simp only [Option.some.injEq, Prod.mk.injEq] at e; have := hx2 _ _ rfl; rw [← e.2]; simp; omega⟩
      by_cases h33 : c = 33
      · exact hun 3 (.inl ⟨rfl, h33⟩)
      by_cases h88 : c = 88
      · exact hun 6 (.inr (.inl ⟨rfl, h88⟩))
      by_cases h87 : c = 87
      · exact hun 7 (.inr (.inr ⟨rfl, h87⟩))
      exact ⟨none, .other ⟨h40, h116, h102, h91, h33, h88, h87⟩, by simp⟩
    have hla : ∃ x, Ps L .la s x ∧ ∀ t r, x = some (t, r) → r.length < s.length := by
      obtain ⟨x, hx, hx2⟩ := hsg
      rcases x with _ | ⟨t, r⟩
      · exact ⟨none, .laBad hx, by simp⟩
      have hlt := hx2 _ _ rfl
      by_cases hr : ∃ k c r', Ur k c ∧ r = c :: r'
      · obtain ⟨k, c, r', hu, rfl⟩ := hr
        obtain ⟨y, hy, hy2⟩ := (ih r' (by simp at hlt; omega)).2.1
        rcases y with _ | ⟨t2, r2⟩
        · exact ⟨none, .la2Bad hu hx hy, by simp⟩
        · exact ⟨_, .la2 hu hx hy, by rintro t3 r3 e; simp only [Option.some.injEq, Prod.mk.injEq] at e; have := hy2 _ _ rfl; rw [← e.2]; simp at hlt; omega⟩
      · refine ⟨_, .la1 hx fun c r' e k => hr ?_, by rintro t3 r3 e; simp only [Option.some.injEq, Prod.mk.injEq] at e; rw [← e.2]; exact hlt⟩
        unfold loose at k
        by_cases h85 : c = 85
        · exact ⟨8, c, r', .inl ⟨rfl, h85⟩, e⟩
        by_cases h82 : c = 82
        · exact ⟨9, c, r', .inr ⟨rfl, h82⟩, e⟩
        · rw [if_neg h85, if_neg h82] at k; split at k <;> (try split at k) <;> cases k
    have hbo : ∃ x, Ps L .bo s x ∧ ∀ t r, x = some (t, r) → r.length < s.length := by
      obtain ⟨x, hx, hx2⟩ := hla
      rcases x with _ | ⟨t, r⟩
      · exact ⟨none, .boBad hx, by simp⟩
      have hlt := hx2 _ _ rfl
      obtain ⟨y, hy, hy2⟩ := (ih r (by omega)).2.2.2.2.1 t
      exact ⟨y, .bo hx hy, fun t2 r2 e => by have := hy2 _ _ e; omega⟩
    have hei : ∃ x, Ps L .ei s x ∧ ∀ t r, x = some (t, r) → r.length < s.length := by
      obtain ⟨x, hx, hx2⟩ := hbo
      rcases x with _ | ⟨t, r⟩
      · exact ⟨none, .eiBad hx, by simp⟩
      have hlt := hx2 _ _ rfl
      obtain ⟨y, hy, hy2⟩ := (ih r (by omega)).2.2.2.2.2 t
      exact ⟨y, .ei hx hy, fun t2 r2 e => by have := hy2 _ _ e; omega⟩
    refine ⟨hsg, hla, hbo, hei, fun u => ?_, fun u => ?_⟩
    · by_cases hr : ∃ r', s = 38 :: r'
      · obtain ⟨r', rfl⟩ := hr
        have hl : r'.length ≤ n := by simpa using hs
        obtain ⟨x, hx, hx2⟩ := (ih r' hl).2.1
        rcases x with _ | ⟨t, r⟩
        · exact ⟨none, .tbBad hx, by simp⟩
        · have hlt := hx2 _ _ rfl
          obtain ⟨y, hy, hy2⟩ := (ih r (by omega)).2.2.2.2.1 (.bin 4 u t)
          exact ⟨y, .tbMore hx hy, fun t2 r2 e => by have := hy2 _ _ e; simp; omega⟩
      · exact ⟨_, .tbEnd (fun r' e => hr ⟨r', e⟩), by rintro t r e; simp only [Option.some.injEq, Prod.mk.injEq] at e; rw [← e.2]; exact Nat.le_refl _⟩
    · by_cases hr : ∃ r', s = 124 :: r'
      · obtain ⟨r', rfl⟩ := hr
        have hl : r'.length ≤ n := by simpa using hs
        obtain ⟨x, hx, hx2⟩ := (ih r' hl).2.2.1
        rcases x with _ | ⟨t, r⟩
        · exact ⟨none, .teBad hx, by simp⟩
        · have hlt := hx2 _ _ rfl
          obtain ⟨y, hy, hy2⟩ := (ih r (by omega)).2.2.2.2.2 (.bin 5 u t)
          exact ⟨y, .teMore hx hy, fun t2 r2 e => by have := hy2 _ _ e; simp; omega⟩
      · exact ⟨_, .teEnd (fun r' e => hr ⟨r', e⟩), by rintro t r e; simp only [Option.some.injEq, Prod.mk.injEq] at e; rw [← e.2]; exact Nat.le_refl _⟩
/-- What is read is a formula. -/
def Snd (L : Nat) : Lv → List UInt8 → List UInt8 → Tree → Prop
  | .sg, s, r, t => ∃ p, s = p ++ r ∧ G L 0 p t
  | .la, s, r, t => ∃ p, s = p ++ r ∧ G L 1 p t
  | .bo, s, r, t => ∃ p, s = p ++ r ∧ G L 2 p t
  | .ei, s, r, t => ∃ p, s = p ++ r ∧ G L 3 p t
  | .tb u, s, r, t => ∀ p0, G L 2 p0 u → ∃ p, s = p ++ r ∧ G L 2 (p0 ++ p) t
  | .te u, s, r, t => ∀ p0, G L 3 p0 u → ∃ p, s = p ++ r ∧ G L 3 (p0 ++ p) t
theorem Ps_sound {L : Nat} {lv : Lv} {s : List UInt8} {x : Option (Tree × List UInt8)} (h : Ps L lv s x) : ∀ t r, x = some (t, r) → Snd L lv s r t := by
  induction h with
  | endd => intro t r e; cases e
  | par _ ih =>
    rintro t r e; simp only [Option.some.injEq, Prod.mk.injEq] at e; obtain ⟨rfl, rfl⟩ := e
    obtain ⟨p, rfl, hg⟩ := ih _ _ rfl
    exact ⟨40 :: (p ++ [41]), by simp, .par hg⟩
  | parBad => intro t r e; cases e
  | parShut => intro t r e; cases e
  | tt => rintro t r e; simp only [Option.some.injEq, Prod.mk.injEq] at e; obtain ⟨rfl, rfl⟩ := e; exact ⟨[116], rfl, .tt⟩
  | ff => rintro t r e; simp only [Option.some.injEq, Prod.mk.injEq] at e; obtain ⟨rfl, rfl⟩ := e; exact ⟨[102], rfl, .ff⟩
  | set hd =>
    rintro t r e; simp only [Option.some.injEq, Prod.mk.injEq] at e; obtain ⟨rfl, rfl⟩ := e
    obtain ⟨ds, h1, h2, h3⟩ := digs_sound _ _ _ _ _ hd
    refine ⟨setText ds, by simp [setText, h2], ?_⟩
    rw [h3, Nat.zero_add]; exact .set h1
  | setBad => intro t r e; cases e
  | un hu _ ih =>
    rintro t r e; simp only [Option.some.injEq, Prod.mk.injEq] at e; obtain ⟨rfl, rfl⟩ := e
    obtain ⟨p, rfl, hg⟩ := ih _ _ rfl
    exact ⟨_ :: p, rfl, .un hu hg⟩
  | unBad => intro t r e; cases e
  | other => intro t r e; cases e
  | laBad => intro t r e; cases e
  | la1 _ _ ih =>
    rintro t r e; simp only [Option.some.injEq, Prod.mk.injEq] at e; obtain ⟨rfl, rfl⟩ := e
    obtain ⟨p, rfl, hg⟩ := ih _ _ rfl
    exact ⟨p, rfl, .la1 hg⟩
  | la2 hu _ _ ih1 ih2 =>
    rintro t r e; simp only [Option.some.injEq, Prod.mk.injEq] at e; obtain ⟨rfl, rfl⟩ := e
    obtain ⟨p, rfl, hg⟩ := ih1 _ _ rfl
    obtain ⟨p2, rfl, hg2⟩ := ih2 _ _ rfl
    exact ⟨p ++ _ :: p2, by simp, .la2 hu hg hg2⟩
  | la2Bad => intro t r e; cases e
  | boBad => intro t r e; cases e
  | bo _ _ ih1 ih2 =>
    rintro t r e
    obtain ⟨p, rfl, hg⟩ := ih1 _ _ rfl
    obtain ⟨p2, rfl, hg2⟩ := ih2 _ _ e p (.bo1 hg)
    exact ⟨p ++ p2, by simp, hg2⟩
  | tbEnd => rintro t r e p0 hp0; simp only [Option.some.injEq, Prod.mk.injEq] at e; obtain ⟨rfl, rfl⟩ := e; exact ⟨[], rfl, by rw [List.append_nil]; exact hp0⟩
  | tbBad => intro t r e; cases e
  | tbMore _ _ ih1 ih2 =>
    rintro t r e p0 hp0
    obtain ⟨p, rfl, hg⟩ := ih1 _ _ rfl
    obtain ⟨p2, rfl, hg2⟩ := ih2 _ _ e _ (.bo2 hp0 hg)
    exact ⟨38 :: (p ++ p2), by simp, by simpa using hg2⟩
  | eiBad => intro t r e; cases e
  | ei _ _ ih1 ih2 =>
    rintro t r e
    obtain ⟨p, rfl, hg⟩ := ih1 _ _ rfl
    obtain ⟨p2, rfl, hg2⟩ := ih2 _ _ e p (.ei1 hg)
    exact ⟨p ++ p2, by simp, hg2⟩
  | teEnd => rintro t r e p0 hp0; simp only [Option.some.injEq, Prod.mk.injEq] at e; obtain ⟨rfl, rfl⟩ := e; exact ⟨[], rfl, by rw [List.append_nil]; exact hp0⟩
  | teBad => intro t r e; cases e
  | teMore _ _ ih1 ih2 =>
    rintro t r e p0 hp0
    obtain ⟨p, rfl, hg⟩ := ih1 _ _ rfl
    obtain ⟨p2, rfl, hg2⟩ := ih2 _ _ e _ (.ei2 hp0 hg)
    exact ⟨124 :: (p ++ p2), by simp, by simpa using hg2⟩
/-- What follows is no sign of looseness n. -/
def Off (n : Nat) (r : List UInt8) : Prop := ∀ c r', r = c :: r' → loose c ≠ n
def Cmp (L : Nat) : Nat → List UInt8 → Tree → Prop
  | 0, p, t => ∀ r, Ps L .sg (p ++ r) (some (t, r))
  | 1, p, t => ∀ r, Off 1 r → Ps L .la (p ++ r) (some (t, r))
  | 2, p, t => ∀ r x, Off 1 r → Ps L (.tb t) r x → Ps L .bo (p ++ r) x
  | _, p, t => ∀ r x, Off 1 r → Off 2 r → Ps L (.te t) r x → Ps L .ei (p ++ r) x
theorem off_cons {n : Nat} {c : UInt8} (h : loose c ≠ n) (r : List UInt8) : Off n (c :: r) := fun x r' e => by simp only [List.cons.injEq] at e; rw [← e.1]; exact h
theorem Ps_full {L : Nat} (hL : L ≤ 6) {n : Nat} {p : List UInt8} {t : Tree} (h : G L n p t) : Cmp L n p t := by
  induction h with
  | tt => exact fun r => .tt
  | ff => exact fun r => .ff
  | set hs =>
    intro r
    have := digs_full (List.range L) (nodup_range L) (fun a ha => by have := List.mem_range.1 ha; omega) _ 0 r hs
    rw [Nat.zero_add] at this
    simpa [setText] using Ps.set this
  | un hu _ ih => exact fun r => .un hu (ih r)
  | par _ ih =>
    intro r
    have := ih (41 :: r) _ (off_cons (by decide) _) (off_cons (by decide) _) (.teEnd (by simp))
    simpa using Ps.par this
  | la1 _ ih => exact fun r hr => .la1 (ih r) hr
  | la2 hu _ _ ih1 ih2 =>
    intro r hr
    have := Ps.la2 hu (ih1 _) (ih2 r hr)
    simpa using this
  | bo1 _ ih => exact fun r x hr hx => .bo (ih r hr) hx
  | @bo2 s s2 t t2 _ _ ih1 ih2 =>
    intro r x hr hx
    have := ih1 (38 :: (s2 ++ r)) x (off_cons (by decide) _) (.tbMore (ih2 r hr) hx)
    simpa using this
  | @ei1 s t _ ih => exact fun r x h1 h2 hx => .ei (ih r _ h1 (.tbEnd fun r' e => h2 _ _ e rfl)) hx
  | @ei2 s s2 t t2 _ _ ih1 ih2 =>
    intro r x h1 h2 hx
    have := ih1 (124 :: (s2 ++ r)) x (off_cons (by decide) _) (off_cons (by decide) _) (.teMore (ih2 r _ h1 (.tbEnd fun r' e => h2 _ _ e rfl)) hx)
    simpa using this
theorem reads_yes {L : Nat} (hL : L ≤ 6) {s : List UInt8} {t : Tree} (h : G L 3 s t) : Ps L .ei s (some (t, [])) := by
  have := Ps_full hL h [] (some (t, [])) (fun c r' e => by cases e) (fun c r' e => by cases e) (.teEnd (by simp))
  rwa [List.append_nil] at this
theorem reads_no {L : Nat} {s : List UInt8} (h : ∀ t, ¬ G L 3 s t) : ∃ x, Ps L .ei s x ∧ ∀ t, x ≠ some (t, []) := by
  obtain ⟨x, hx, _⟩ := (Ps_total L s.length s (Nat.le_refl _)).2.2.2.1
  refine ⟨x, hx, fun t e => ?_⟩
  obtain ⟨p, hp, hg⟩ := Ps_sound hx _ _ e
  rw [List.append_nil] at hp
  exact h t (hp ▸ hg)

/-! ### cutting at the loosest sign: the reference's way -/
def mk (k : Nat) : Option Tree → Option Tree → Option Tree
  | some t, some u => some (.bin k t u)
  | _, _ => none
def Cutting (k : Nat) (c : UInt8) (p q : List UInt8) : Prop :=
  run 0 p = some 0 ∧ ((k = 5 ∧ c = 124 ∧ no 3 q) ∨ (k = 4 ∧ c = 38 ∧ no 3 (p ++ c :: q) ∧ no 2 q) ∨ (Ur k c ∧ no 3 (p ++ c :: q) ∧ no 2 (p ++ c :: q) ∧ no 1 p))
def Alone (s : List UInt8) : Prop := run 0 s ≠ none ∧ no 3 s ∧ no 2 s ∧ no 1 s
inductive Rp (L : Nat) : List UInt8 → Option Tree → Prop where
  | nil : Rp L [] none
  | neg {s : List UInt8} : s ≠ [] → run 0 s = none → Rp L s none
  | two {k : Nat} {c : UInt8} {p q : List UInt8} {x y : Option Tree} : run 0 (p ++ c :: q) ≠ none → Cutting k c p q → Rp L p x → Rp L q y → Rp L (p ++ c :: q) (mk k x y)
  | un {k : Nat} {c : UInt8} {s : List UInt8} {x : Option Tree} : Alone (c :: s) → Un k c → Rp L s x → Rp L (c :: s) (x.map (.un k))
  | par {s : List UInt8} {x : Option Tree} : Alone (40 :: (s ++ [41])) → Rp L s x → Rp L (40 :: (s ++ [41])) x
  | tt : Rp L [116] (some (.leaf 0 0))
  | ff : Rp L [102] (some (.leaf 1 0))
  | set {ds : List Nat} : Alone (setText ds) → ds.Sublist (List.range L) → Rp L (setText ds) (some (.leaf 2 (val ds)))
  | bad {s : List UInt8} : Alone s → s ≠ [] → (∀ k c s', Un k c → s ≠ c :: s') → (∀ s', s ≠ 40 :: (s' ++ [41])) → s ≠ [116] → s ≠ [102] → (∀ ds, ds.Sublist (List.range L) → s ≠ setText ds) → Rp L s none
theorem no_left {n : Nat} {p q : List UInt8} {c : UInt8} (h : no n (p ++ c :: q)) : no n p := fun a x b e hr => h a x (b ++ c :: q) (by rw [e]; simp) hr
theorem no_right {n : Nat} {p q : List UInt8} {c : UInt8} (hp : run 0 p = some 0) (hc : c ≠ 40 ∧ c ≠ 41) (h : no n (p ++ c :: q)) : no n q := fun a x b e hr =>
  h (p ++ c :: a) x b (by rw [e]; simp) (run_two hc hp hr)
theorem Cutting.plain {k : Nat} {c : UInt8} {p q : List UInt8} (h : Cutting k c p q) : c ≠ 40 ∧ c ≠ 41 := by
  rcases h.2 with ⟨_, rfl, _⟩ | ⟨_, rfl, _⟩ | ⟨hu, _⟩
  · decide
  · decide
  · exact ⟨hu.plain.1, hu.plain.2.1⟩
theorem no_cons {n : Nat} {c : UInt8} {s : List UInt8} (hc : c ≠ 40 ∧ c ≠ 41) (h : no n (c :: s)) : no n s := no_right (p := []) rfl hc h
theorem Rp_sound {L : Nat} (hL : L ≤ 6) {s : List UInt8} {x : Option Tree} (h : Rp L s x) : ∀ t, x = some t → G L 3 s t := by
  induction h with
  | nil => intro t e; cases e
  | neg => intro t e; cases e
  | @two k c p q x y _ hc _ _ ih1 ih2 =>
    intro t e
    rcases x with _ | a
    · cases e
    rcases y with _ | b
    · cases e
    simp only [mk, Option.some.injEq] at e
    subst e
    have g1 := ih1 a rfl
    have g2 := ih2 b rfl
    have hpl := hc.plain
    obtain ⟨hr, h⟩ := hc
    rcases h with ⟨rfl, rfl, n3⟩ | ⟨rfl, rfl, n3, n2⟩ | ⟨hu, n3, n2, n1⟩
    · exact .ei2 g1 (g2.low3 hL n3)
    · exact .ei1 (.bo2 (g1.low3 hL (no_left n3)) ((g2.low3 hL (no_right hr hpl n3)).low2 hL n2))
    · exact .ei1 (.bo1 (.la2 hu (((g1.low3 hL (no_left n3)).low2 hL (no_left n2)).low1 hL n1) ((g2.low3 hL (no_right hr hpl n3)).low2 hL (no_right hr hpl n2))))
  | @un k c s x ha hu _ ih =>
    intro t e
    rcases x with _ | a
    · cases e
    simp only [Option.map_some, Option.some.injEq] at e
    subst e
    have hp : c ≠ 40 ∧ c ≠ 41 := ⟨hu.plain.1, hu.plain.2.1⟩
    exact G.up (.un hu ((((ih a rfl).low3 hL (no_cons hp ha.2.1)).low2 hL (no_cons hp ha.2.2.1)).low1 hL (no_cons hp ha.2.2.2)))
  | par _ _ ih => exact fun t e => G.up (.par (ih t e))
  | tt => rintro t e; simp only [Option.some.injEq] at e; subst e; exact G.up .tt
  | ff => rintro t e; simp only [Option.some.injEq] at e; subst e; exact G.up .ff
  | set _ hs => rintro t e; simp only [Option.some.injEq] at e; subst e; exact G.up (.set hs)
  | bad => intro t e; cases e
theorem alone0 {L : Nat} (hL : L ≤ 6) {s : List UInt8} {t : Tree} (h : G L 0 s t) : Alone s := by
  obtain ⟨h1, h2⟩ := G_fits hL h
  exact ⟨by rw [h1]; simp, h2.no (by omega), h2.no (by omega), h2.no (by omega)⟩
theorem Rp_full {L : Nat} (hL : L ≤ 6) {n : Nat} {s : List UInt8} {t : Tree} (h : G L n s t) : Rp L s (some t) := by
  induction h with
  | tt => exact .tt
  | ff => exact .ff
  | set hs => exact .set (alone0 hL (.set hs)) hs
  | un hu h ih => exact Rp.un (alone0 hL (.un hu h)) hu ih
  | par h ih => exact .par (alone0 hL (.par h)) ih
  | la1 _ ih => exact ih
  | @la2 k c s s2 t t2 hu h1 h2 ih1 ih2 =>
    have g := G_fits hL (.la2 hu h1 h2)
    have g1 := G_fits hL h1
    exact Rp.two (by rw [g.1]; simp) ⟨g1.1, .inr (.inr ⟨hu, g.2.no (by omega), g.2.no (by omega), g1.2.no (by omega)⟩)⟩ ih1 ih2
  | bo1 _ ih => exact ih
  | bo2 h1 h2 ih1 ih2 =>
    have g := G_fits hL (.bo2 h1 h2)
    have g1 := G_fits hL h1
    have g2 := G_fits hL h2
    exact Rp.two (by rw [g.1]; simp) ⟨g1.1, .inr (.inl ⟨rfl, rfl, g.2.no (by omega), g2.2.no (by omega)⟩)⟩ ih1 ih2
  | ei1 _ ih => exact ih
  | ei2 h1 h2 ih1 ih2 =>
    have g := G_fits hL (.ei2 h1 h2)
    have g1 := G_fits hL h1
    have g2 := G_fits hL h2
    exact Rp.two (by rw [g.1]; simp) ⟨g1.1, .inl ⟨rfl, rfl, g2.2.no (by omega)⟩⟩ ih1 ih2
theorem last_split {n : Nat} (hn : n ≠ 0) : ∀ (m : Nat) (p q : List UInt8) (c : UInt8), q.length ≤ m → loose c = n → run 0 p = some 0 → ∃ p' c' q', p ++ c :: q = p' ++ c' :: q' ∧ loose c' = n ∧ run 0 p' = some 0 ∧ no n q' := by
  intro m
  induction m with
  | zero =>
    intro p q c hq hc hr
    obtain rfl : q = [] := List.eq_nil_of_length_eq_zero (by omega)
    exact ⟨p, c, [], rfl, hc, hr, fun a x b e => by simp at e⟩
  | succ m ih =>
    intro p q c hq hc hr
    by_cases h : no n q
    · exact ⟨p, c, q, rfl, hc, hr, h⟩
    · unfold no at h
      simp only [Classical.not_forall, Classical.not_not] at h
      obtain ⟨a, x, b, e, h1, h2⟩ := h
      have hb : b.length ≤ m := by rw [e] at hq; simp at hq; omega
      obtain ⟨p', c', q', k1, k2⟩ := ih (p ++ c :: a) b x hb h2 (run_two (loose_par (by omega)) hr h1)
      exact ⟨p', c', q', by rw [← k1, e]; simp, k2⟩
theorem first_split {n : Nat} : ∀ (m : Nat) (p q : List UInt8) (c : UInt8), p.length ≤ m → loose c = n → run 0 p = some 0 → ∃ p' c' q', p ++ c :: q = p' ++ c' :: q' ∧ loose c' = n ∧ run 0 p' = some 0 ∧ no n p' := by
  intro m
  induction m with
  | zero =>
    intro p q c hq hc hr
    obtain rfl : p = [] := List.eq_nil_of_length_eq_zero (by omega)
    exact ⟨[], c, q, rfl, hc, hr, fun a x b e => by simp at e⟩
  | succ m ih =>
    intro p q c hq hc hr
    by_cases h : no n p
    · exact ⟨p, c, q, rfl, hc, hr, h⟩
    · unfold no at h
      simp only [Classical.not_forall, Classical.not_not] at h
      obtain ⟨a, x, b, e, h1, h2⟩ := h
      have ha : a.length ≤ m := by rw [e] at hq; simp at hq; omega
      obtain ⟨p', c', q', k1, k2⟩ := ih a (b ++ c :: q) x ha h2 h1
      exact ⟨p', c', q', by rw [← k1, e]; simp, k2⟩
theorem split_of {n : Nat} {s : List UInt8} (h : ¬ no n s) : ∃ p c q, s = p ++ c :: q ∧ loose c = n ∧ run 0 p = some 0 := by
  unfold no at h
  simp only [Classical.not_forall, Classical.not_not] at h
  obtain ⟨a, x, b, e, h1, h2⟩ := h
  exact ⟨a, x, b, e, h2, h1⟩
theorem loose3 {c : UInt8} (h : loose c = 3) : c = 124 := by
  unfold loose at h
  by_cases h1 : c = 124
  · exact h1
  · rw [if_neg h1] at h; split at h <;> (try split at h) <;> (try split at h) <;> cases h
theorem loose2 {c : UInt8} (h : loose c = 2) : c = 38 := by
  unfold loose at h
  by_cases h1 : c = 124
  · rw [if_pos h1] at h; cases h
  · rw [if_neg h1] at h
    by_cases h2 : c = 38
    · exact h2
    · rw [if_neg h2] at h; split at h <;> (try split at h) <;> cases h
theorem loose1 {c : UInt8} (h : loose c = 1) : ∃ k, Ur k c := by
  unfold loose at h
  by_cases h1 : c = 124
  · rw [if_pos h1] at h; cases h
  · rw [if_neg h1] at h
    by_cases h2 : c = 38
    · rw [if_pos h2] at h; cases h
    · rw [if_neg h2] at h
      by_cases h3 : c = 85
      · exact ⟨8, .inl ⟨rfl, h3⟩⟩
      · rw [if_neg h3] at h
        by_cases h4 : c = 82
        · exact ⟨9, .inr ⟨rfl, h4⟩⟩
        · rw [if_neg h4] at h; cases h
theorem Rp_total (L : Nat) : ∀ (n : Nat) (s : List UInt8), s.length ≤ n → ∃ x, Rp L s x := by
  intro n
  induction n with
  | zero =>
    intro s hs
    obtain rfl : s = [] := List.eq_nil_of_length_eq_zero (by omega)
    exact ⟨none, .nil⟩
  | succ n ih =>
    intro s hs
    by_cases h0 : s = []
    · exact ⟨none, h0 ▸ .nil⟩
    by_cases hr : run 0 s = none
    · exact ⟨none, .neg h0 hr⟩
    have two : ∀ k c p q, s = p ++ c :: q → Cutting k c p q → ∃ x, Rp L s x := by
      rintro k c p q rfl hc
      simp only [List.length_append, List.length_cons] at hs
      obtain ⟨x, hx⟩ := ih p (by omega)
      obtain ⟨y, hy⟩ := ih q (by omega)
      exact ⟨_, .two hr hc hx hy⟩
    by_cases n3 : no 3 s
    · by_cases n2 : no 2 s
      · by_cases n1 : no 1 s
        · have ha : Alone s := ⟨hr, n3, n2, n1⟩
          by_cases hu : ∃ k c s', Un k c ∧ s = c :: s'
          · obtain ⟨k, c, s', hu, rfl⟩ := hu
            obtain ⟨x, hx⟩ := ih s' (by simpa using hs)
            exact ⟨_, .un ha hu hx⟩
          by_cases hp : ∃ s', s = 40 :: (s' ++ [41])
          · obtain ⟨s', rfl⟩ := hp
            obtain ⟨x, hx⟩ := ih s' (by simp at hs; omega)
            exact ⟨_, .par ha hx⟩
          by_cases ht : s = [116]
          · exact ⟨some (.leaf 0 0), by rw [ht]; exact .tt⟩
          by_cases hf : s = [102]
          · exact ⟨some (.leaf 1 0), by rw [hf]; exact .ff⟩
          by_cases hd : ∃ ds : List Nat, ds.Sublist (List.range L) ∧ s = setText ds
          · obtain ⟨ds, hd, rfl⟩ := hd
            exact ⟨_, .set ha hd⟩
          · exact ⟨none, .bad ha h0 (fun k c s' h e => hu ⟨k, c, s', h, e⟩) (fun s' e => hp ⟨s', e⟩) ht hf (fun ds h e => hd ⟨ds, h, e⟩)⟩
        · obtain ⟨a, x, b, e, h1, h2⟩ := split_of n1
          obtain ⟨p, c, q, e2, h3, h4, h5⟩ := first_split a.length a b x (Nat.le_refl _) h1 h2
          obtain ⟨k, hu⟩ := loose1 h3
          exact two k c p q (e.trans e2) ⟨h4, .inr (.inr ⟨hu, by rw [← e2, ← e]; exact n3, by rw [← e2, ← e]; exact n2, h5⟩)⟩
      · obtain ⟨a, x, b, e, h1, h2⟩ := split_of n2
        obtain ⟨p, c, q, e2, h3, h4, h5⟩ := last_split (by decide) b.length a b x (Nat.le_refl _) h1 h2
        exact two 4 c p q (e.trans e2) ⟨h4, .inr (.inl ⟨rfl, loose2 h3, by rw [← e2, ← e]; exact n3, h5⟩)⟩
    · obtain ⟨a, x, b, e, h1, h2⟩ := split_of n3
      obtain ⟨p, c, q, e2, h3, h4, h5⟩ := last_split (by decide) b.length a b x (Nat.le_refl _) h1 h2
      exact two 5 c p q (e.trans e2) ⟨h4, .inl ⟨rfl, loose3 h3, h5⟩⟩
theorem cuts_no {L : Nat} (hL : L ≤ 6) {s : List UInt8} (h : ∀ t, ¬ G L 3 s t) : Rp L s none := by
  obtain ⟨x, hx⟩ := Rp_total L s.length s (Nat.le_refl _)
  rcases x with _ | t
  · exact hx
  · exact absurd (Rp_sound hL hx t rfl) (h t)
end Go.Proofs.YtaelgnmklepebaaDoor.Fm
