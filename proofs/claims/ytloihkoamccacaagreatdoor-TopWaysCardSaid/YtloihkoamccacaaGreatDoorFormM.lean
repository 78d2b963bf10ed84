/- Plain mathematics of formulas: trees, their nodes, the grammar of their texts; two ways to read a text, and that they come to the same. Plain mathematics of formulas: what is wrong with one; its text; a text written is read back. Plain mathematics of what formulas mean: the tree of a node, its value at each place of a word, the form with Not ahead of sets alone. Plain mathematics: the values of all nodes, from one letter to the next, and at the end of the word. -/
import Derived.Test.YtloihkoamccacaaGreatDoorWords

namespace Go.Proofs.YtloihkoamccacaaGreatDoor.Fm

inductive Tree where
  | leaf (k a : Nat)
  | un (k : Nat) (t : Tree)
  | bin (k : Nat) (t u : Tree)
/-- A node: its kind, its operands. -/
abbrev Nd := Int × Int × Int
def Tree.size : Tree → Nat
  | .leaf _ _ => 1
  | .un _ t => t.size + 1
  | .bin _ t u => t.size + u.size + 1
theorem Tree.size_pos (t : Tree) : 0 < t.size := by cases t <;> simp [Tree.size]
/-- The nodes of a tree behind those that are there. -/
def flat : Tree → List Nd → List Nd
  | .leaf k a, f => f ++ [((k : Int), (a : Int), 0)]
  | .un k t, f => flat t f ++ [((k : Int), (((flat t f).length - 1 : Nat) : Int), 0)]
  | .bin k t u, f => flat u (flat t f) ++ [((k : Int), (((flat t f).length - 1 : Nat) : Int), (((flat u (flat t f)).length - 1 : Nat) : Int))]
theorem flat_length : ∀ (t : Tree) (f : List Nd), (flat t f).length = f.length + t.size
  | .leaf _ _, f => by simp [flat, Tree.size]
  | .un _ t, f => by simp [flat, Tree.size, flat_length t f]; omega
  | .bin _ t u, f => by simp [flat, Tree.size, flat_length t f, flat_length u (flat t f)]; omega

/-! ### the grammar -/
def dg (d : Nat) : UInt8 := UInt8.ofNat (48 + d)
def val : List Nat → Nat
  | [] => 0
  | d :: l => 2 ^ d + val l
def Un (k : Nat) (c : UInt8) : Prop := (k = 3 ∧ c = 33) ∨ (k = 6 ∧ c = 88) ∨ (k = 7 ∧ c = 87)
def Ur (k : Nat) (c : UInt8) : Prop := (k = 8 ∧ c = 85) ∨ (k = 9 ∧ c = 82)
def setText (ds : List Nat) : List UInt8 := 91 :: (ds.map dg ++ [93])
inductive G (L : Nat) : Nat → List UInt8 → Tree → Prop where
  | tt : G L 0 [116] (.leaf 0 0)
  | ff : G L 0 [102] (.leaf 1 0)
  | set {ds : List Nat} : ds.Sublist (List.range L) → G L 0 (setText ds) (.leaf 2 (val ds))
  | un {k : Nat} {c : UInt8} {s : List UInt8} {t : Tree} : Un k c → G L 0 s t → G L 0 (c :: s) (.un k t)
  | par {s : List UInt8} {t : Tree} : G L 3 s t → G L 0 (40 :: (s ++ [41])) t
  | la1 {s : List UInt8} {t : Tree} : G L 0 s t → G L 1 s t
  | la2 {k : Nat} {c : UInt8} {s s2 : List UInt8} {t t2 : Tree} : Ur k c → G L 0 s t → G L 1 s2 t2 → G L 1 (s ++ c :: s2) (.bin k t t2)
  | bo1 {s : List UInt8} {t : Tree} : G L 1 s t → G L 2 s t
  | bo2 {s s2 : List UInt8} {t t2 : Tree} : G L 2 s t → G L 1 s2 t2 → G L 2 (s ++ 38 :: s2) (.bin 4 t t2)
  | ei1 {s : List UInt8} {t : Tree} : G L 2 s t → G L 3 s t
  | ei2 {s s2 : List UInt8} {t t2 : Tree} : G L 3 s t → G L 2 s2 t2 → G L 3 (s ++ 124 :: s2) (.bin 5 t t2)
theorem G.up {L : Nat} {s : List UInt8} {t : Tree} (h : G L 0 s t) : G L 3 s t := .ei1 (.bo1 (.la1 h))

/-! ### how deep in brackets -/
def run : Nat → List UInt8 → Option Nat
  | d, [] => some d
  | d, c :: s => if c = 40 then run (d + 1) s else if c = 41 then (if d = 0 then none else run (d - 1) s) else run d s
/-- How loosely a sign binds. -/
def loose (c : UInt8) : Nat := if c = 124 then 3 else if c = 38 then 2 else if c = 85 then 1 else if c = 82 then 1 else 0
theorem Un.plain {k : Nat} {c : UInt8} (h : Un k c) : c ≠ 40 ∧ c ≠ 41 ∧ loose c = 0 := by
  rcases h with ⟨_, rfl⟩ | ⟨_, rfl⟩ | ⟨_, rfl⟩ <;> decide
theorem Ur.plain {k : Nat} {c : UInt8} (h : Ur k c) : c ≠ 40 ∧ c ≠ 41 ∧ loose c = 1 := by
  rcases h with ⟨_, rfl⟩ | ⟨_, rfl⟩ <;> decide
theorem dg_plain {d : Nat} (h : d < 6) : dg d ≠ 40 ∧ dg d ≠ 41 ∧ loose (dg d) = 0 ∧ dg d ≠ 93 := by
  have : d = 0 ∨ d = 1 ∨ d = 2 ∨ d = 3 ∨ d = 4 ∨ d = 5 := by omega
  rcases this with rfl | rfl | rfl | rfl | rfl | rfl <;> decide
theorem dg_inj {d e : Nat} (hd : d < 6) (he : e < 6) (h : dg d = dg e) : d = e := by
  have h1 : d = 0 ∨ d = 1 ∨ d = 2 ∨ d = 3 ∨ d = 4 ∨ d = 5 := by omega
  have h2 : e = 0 ∨ e = 1 ∨ e = 2 ∨ e = 3 ∨ e = 4 ∨ e = 5 := by omega
  rcases h1 with rfl | rfl | rfl | rfl | rfl | rfl <;> rcases h2 with rfl | rfl | rfl | rfl | rfl | rfl <;> first | rfl | exact absurd h (by decide)
/-- Where it is outside of brackets, no sign that is looser. -/
def Fits (n : Nat) (s : List UInt8) : Prop := ∀ p c q, s = p ++ c :: q → run 0 p = some 0 → loose c ≤ n
theorem Fits.mono {n m : Nat} {s : List UInt8} (h : Fits n s) (hm : n ≤ m) : Fits m s := fun p c q e hp => Nat.le_trans (h p c q e hp) hm
/-- No sign of looseness n outside of brackets, from depth d on. -/
def no (n : Nat) (s : List UInt8) : Prop := ∀ p c q, s = p ++ c :: q → run 0 p = some 0 → loose c ≠ n
theorem Fits.no {n m : Nat} {s : List UInt8} (h : Fits n s) (hm : n < m) : no m s := fun p c q e hp k => by have := h p c q e hp; omega
/-! ### reading from the left: the program's way -/
inductive Lv where
  | sg | la | bo | ei
  | tb (t : Tree)
  | te (t : Tree)
/-- What stands in a set, as far as its letters rise. -/
def digs : List Nat → List UInt8 → Nat → Nat × List UInt8
  | [], s, n => (n, s)
  | _ :: as, [], n => digs as [] n
  | a :: as, c :: s, n => if c = dg a then digs as s (n + 2 ^ a) else digs as (c :: s) n
def Other (c : UInt8) : Prop := c ≠ 40 ∧ c ≠ 116 ∧ c ≠ 102 ∧ c ≠ 91 ∧ c ≠ 33 ∧ c ≠ 88 ∧ c ≠ 87
inductive Ps (L : Nat) : Lv → List UInt8 → Option (Tree × List UInt8) → Prop where
  | endd : Ps L .sg [] none
  | par {s r : List UInt8} {t : Tree} : Ps L .ei s (some (t, 41 :: r)) → Ps L .sg (40 :: s) (some (t, r))
  | parBad {s : List UInt8} : Ps L .ei s none → Ps L .sg (40 :: s) none
  | parShut {s r : List UInt8} {t : Tree} : Ps L .ei s (some (t, r)) → (∀ r', r ≠ 41 :: r') → Ps L .sg (40 :: s) none
  | tt {s : List UInt8} : Ps L .sg (116 :: s) (some (.leaf 0 0, s))
  | ff {s : List UInt8} : Ps L .sg (102 :: s) (some (.leaf 1 0, s))
  | set {s r : List UInt8} {n : Nat} : digs (List.range L) s 0 = (n, 93 :: r) → Ps L .sg (91 :: s) (some (.leaf 2 n, r))
  | setBad {s r : List UInt8} {n : Nat} : digs (List.range L) s 0 = (n, r) → (∀ r', r ≠ 93 :: r') → Ps L .sg (91 :: s) none
  | un {k : Nat} {c : UInt8} {s r : List UInt8} {t : Tree} : Un k c → Ps L .sg s (some (t, r)) → Ps L .sg (c :: s) (some (.un k t, r))
  | unBad {k : Nat} {c : UInt8} {s : List UInt8} : Un k c → Ps L .sg s none → Ps L .sg (c :: s) none
  | other {c : UInt8} {s : List UInt8} : Other c → Ps L .sg (c :: s) none
  | laBad {s : List UInt8} : Ps L .sg s none → Ps L .la s none
  | la1 {s r : List UInt8} {t : Tree} : Ps L .sg s (some (t, r)) → (∀ c r', r = c :: r' → loose c ≠ 1) → Ps L .la s (some (t, r))
  | la2 {k : Nat} {c : UInt8} {s r r2 : List UInt8} {t t2 : Tree} : Ur k c → Ps L .sg s (some (t, c :: r)) → Ps L .la r (some (t2, r2)) → Ps L .la s (some (.bin k t t2, r2))
  | la2Bad {k : Nat} {c : UInt8} {s r : List UInt8} {t : Tree} : Ur k c → Ps L .sg s (some (t, c :: r)) → Ps L .la r none → Ps L .la s none
  | boBad {s : List UInt8} : Ps L .la s none → Ps L .bo s none
  | bo {s r : List UInt8} {t : Tree} {x : Option (Tree × List UInt8)} : Ps L .la s (some (t, r)) → Ps L (.tb t) r x → Ps L .bo s x
  | tbEnd {r : List UInt8} {t : Tree} : (∀ r', r ≠ 38 :: r') → Ps L (.tb t) r (some (t, r))
  | tbBad {r : List UInt8} {t : Tree} : Ps L .la r none → Ps L (.tb t) (38 :: r) none
  | tbMore {r r2 : List UInt8} {t t2 : Tree} {x : Option (Tree × List UInt8)} : Ps L .la r (some (t2, r2)) → Ps L (.tb (.bin 4 t t2)) r2 x → Ps L (.tb t) (38 :: r) x
  | eiBad {s : List UInt8} : Ps L .bo s none → Ps L .ei s none
  | ei {s r : List UInt8} {t : Tree} {x : Option (Tree × List UInt8)} : Ps L .bo s (some (t, r)) → Ps L (.te t) r x → Ps L .ei s x
  | teEnd {r : List UInt8} {t : Tree} : (∀ r', r ≠ 124 :: r') → Ps L (.te t) r (some (t, r))
  | teBad {r : List UInt8} {t : Tree} : Ps L .bo r none → Ps L (.te t) (124 :: r) none
  | teMore {r r2 : List UInt8} {t t2 : Tree} {x : Option (Tree × List UInt8)} : Ps L .bo r (some (t2, r2)) → Ps L (.te (.bin 5 t t2)) r2 x → Ps L (.te t) (124 :: r) x

theorem digs_short : ∀ (as : List Nat) (s : List UInt8) (n m : Nat) (r : List UInt8), digs as s n = (m, r) → r.length ≤ s.length
  | [], s, n, m, r, h => by simp only [digs, Prod.mk.injEq] at h; rw [h.2]; exact Nat.le_refl _
  | a :: as, [], n, m, r, h => digs_short as [] n m r h
  | a :: as, c :: s, n, m, r, h => by
    simp only [digs] at h
    split at h
    · have := digs_short as s _ _ _ h; simp; omega
    · exact digs_short as (c :: s) _ _ _ h
theorem digs_sound : ∀ (as : List Nat) (s : List UInt8) (n m : Nat) (r : List UInt8), digs as s n = (m, r) → ∃ ds, ds.Sublist as ∧ s = ds.map dg ++ r ∧ m = n + val ds
  | [], s, n, m, r, h => by simp only [digs, Prod.mk.injEq] at h; exact ⟨[], List.Sublist.refl _, by simp [h.2], by simp [val, h.1]⟩
  | a :: as, [], n, m, r, h => by
    obtain ⟨ds, h1, h2, h3⟩ := digs_sound as [] n m r h
    exact ⟨ds, h1.cons _, h2, h3⟩
  | a :: as, c :: s, n, m, r, h => by
    simp only [digs] at h
    split at h
    · rename_i hc
      obtain ⟨ds, h1, h2, h3⟩ := digs_sound as s _ m r h
      exact ⟨a :: ds, h1.cons_cons _, by simp [hc, h2], by simp only [val]; omega⟩
    · obtain ⟨ds, h1, h2, h3⟩ := digs_sound as (c :: s) _ m r h
      exact ⟨ds, h1.cons _, h2, h3⟩
theorem digs_full : ∀ (as : List Nat), as.Nodup → (∀ a ∈ as, a < 6) → ∀ (ds : List Nat) (n : Nat) (r : List UInt8), ds.Sublist as → digs as (ds.map dg ++ 93 :: r) n = (n + val ds, 93 :: r)
  | [], _, _, ds, n, r, h => by
    obtain rfl := List.sublist_nil.1 h
    simp [digs, val]
  | a :: as, hn, hl, ds, n, r, h => by
    have hn2 := List.nodup_cons.1 hn
    have ha : a < 6 := hl a (by simp)
    have ih := digs_full as hn2.2 (fun x hx => hl x (by simp [hx]))
    rcases ds with _ | ⟨d, ds⟩
    · simp only [List.map_nil, List.nil_append, digs]
      rw [if_neg (Ne.symm (dg_plain ha).2.2.2)]
      exact ih [] n r (List.nil_sublist _)
    · simp only [List.map_cons, List.cons_append, digs]
      by_cases e : d = a
      · subst e
        rw [if_pos rfl]
        have h2 : ds.Sublist as := by
          cases h with
          | cons _ h => exact absurd (h.subset (by simp)) hn2.1
          | cons_cons _ h => exact h
        rw [ih ds _ r h2]
        simp only [val]; congr 1; omega
      · have h2 : (d :: ds).Sublist as := by
          cases h with
          | cons _ h => exact h
          | cons_cons _ h => exact absurd rfl e
        have hd : d < 6 := hl d (by simp [h2.subset (show d ∈ d :: ds by simp)])
        rw [if_neg fun k => e (dg_inj hd ha k)]
        exact ih (d :: ds) n r h2
theorem nodup_range (L : Nat) : (List.range L).Nodup := List.nodup_range

theorem Ps_total (L : Nat) : ∀ (n : Nat) (s : List UInt8), s.length ≤ n →
    (∃ x, Ps L .sg s x ∧ ∀ t r, x = some (t, r) → r.length < s.length) ∧ (∃ x, Ps L .la s x ∧ ∀ t r, x = some (t, r) → r.length < s.length) ∧
    (∃ x, Ps L .bo s x ∧ ∀ t r, x = some (t, r) → r.length < s.length) ∧ (∃ x, Ps L .ei s x ∧ ∀ t r, x = some (t, r) → r.length < s.length) ∧
    (∀ u, ∃ x, Ps L (.tb u) s x ∧ ∀ t r, x = some (t, r) → r.length ≤ s.length) ∧ (∀ u, ∃ x, Ps L (.te u) s x ∧ ∀ t r, x = some (t, r) → r.length ≤ s.length) := by
  intro n
  induction n with
  | zero =>
    intro s hs
    obtain rfl : s = [] := List.eq_nil_of_length_eq_zero (by omega)
    exact ⟨⟨none, .endd, by simp⟩, ⟨none, .laBad .endd, by simp⟩, ⟨none, .boBad (.laBad .endd), by simp⟩, ⟨none, .eiBad (.boBad (.laBad .endd)), by simp⟩,
      fun u => ⟨_, .tbEnd (by simp), by rintro t r e; simp only [Option.some.injEq, Prod.mk.injEq] at e; rw [← e.2]; exact Nat.le_refl _⟩, fun u => ⟨_, .teEnd (by simp), by rintro t r e; simp only [Option.some.injEq, Prod.mk.injEq] at e; rw [← e.2]; exact Nat.le_refl _⟩⟩
  | succ n ih =>
    intro s hs
    have hsg : ∃ x, Ps L .sg s x ∧ ∀ t r, x = some (t, r) → r.length < s.length := by
      rcases s with _ | ⟨c, s⟩
      · exact ⟨none, .endd, by simp⟩
      have hl : s.length ≤ n := by simpa using hs
      by_cases h40 : c = 40
      · subst h40
        obtain ⟨x, hx, hx2⟩ := (ih s hl).2.2.2.1
        rcases x with _ | ⟨t, r⟩
        · exact ⟨none, .parBad hx, by simp⟩
        · by_cases hr : ∃ r', r = 41 :: r'
          · obtain ⟨r', rfl⟩ := hr
            exact ⟨_, .par hx, by rintro t2 r2 e; simp only [Option.some.injEq, Prod.mk.injEq] at e; have := hx2 _ _ rfl; rw [← e.2]; simp at this ⊢; omega⟩
          · exact ⟨none, .parShut hx (fun r' e => hr ⟨r', e⟩), by simp⟩
      by_cases h116 : c = 116
      · subst h116; exact ⟨_, .tt, by rintro t r e; simp only [Option.some.injEq, Prod.mk.injEq] at e; rw [← e.2]; simp⟩
      by_cases h102 : c = 102
      · subst h102; exact ⟨_, .ff, by rintro t r e; simp only [Option.some.injEq, Prod.mk.injEq] at e; rw [← e.2]; simp⟩
      by_cases h91 : c = 91
      · subst h91
        obtain ⟨⟨m, r⟩, hd⟩ : ∃ y, y = digs (List.range L) s 0 := ⟨_, rfl⟩
        by_cases hr : ∃ r', r = 93 :: r'
        · obtain ⟨r', rfl⟩ := hr
          exact ⟨_, .set hd.symm, by rintro t2 r2 e; simp only [Option.some.injEq, Prod.mk.injEq] at e; have := digs_short _ _ _ _ _ hd.symm; rw [← e.2]; simp at this ⊢; omega⟩
        · exact ⟨none, .setBad hd.symm (fun r' e => hr ⟨r', e⟩), by simp⟩
      have hun : ∀ k, Un k c → ∃ x, Ps L .sg (c :: s) x ∧ ∀ t r, x = some (t, r) → r.length < (c :: s).length := by
        intro k hk
        obtain ⟨x, hx, hx2⟩ := (ih s hl).1
        rcases x with _ | ⟨t, r⟩
        · exact ⟨none, .unBad hk hx, by simp⟩
        · exact ⟨_, .un hk hx, by rintro t2 r2 e; simp only [Option.some.injEq, Prod.mk.injEq] at e; have := hx2 _ _ rfl; rw [← e.2]; simp; omega⟩
      by_cases h33 : c = 33
      · exact hun 3 (.inl ⟨rfl, h33⟩)
      by_cases h88 : c = 88
      · exact hun 6 (.inr (.inl ⟨rfl, h88⟩))
      by_cases h87 : c = 87
      · exact hun 7 (.inr (.inr ⟨rfl, h87⟩))
      exact ⟨none, .other ⟨h40, h116, h102, h91, h33, h88, h87⟩, by simp⟩
    have hla : ∃ x, Ps L .la s x ∧ ∀ t r, x = some (t, r) → r.length < s.length := by
      obtain ⟨x, hx, hx2⟩ := hsg
      rcases x with _ | ⟨t, r⟩
      · exact ⟨none, .laBad hx, by simp⟩
      have hlt := hx2 _ _ rfl
      by_cases hr : ∃ k c r', Ur k c ∧ r = c :: r'
      · obtain ⟨k, c, r', hu, rfl⟩ := hr
        obtain ⟨y, hy, hy2⟩ := (ih r' (by simp at hlt; omega)).2.1
        rcases y with _ | ⟨t2, r2⟩
        · exact ⟨none, .la2Bad hu hx hy, by simp⟩
        · exact ⟨_, .la2 hu hx hy, by rintro t3 r3 e; simp only [Option.some.injEq, Prod.mk.injEq] at e; have := hy2 _ _ rfl; rw [← e.2]; simp at hlt; omega⟩
      · refine ⟨_, .la1 hx fun c r' e k => hr ?_, by rintro t3 r3 e; simp only [Option.some.injEq, Prod.mk.injEq] at e; rw [← e.2]; exact hlt⟩
        unfold loose at k
        by_cases h85 : c = 85
        · exact ⟨8, c, r', .inl ⟨rfl, h85⟩, e⟩
        by_cases h82 : c = 82
        · exact ⟨9, c, r', .inr ⟨rfl, h82⟩, e⟩
        · rw [if_neg h85, if_neg h82] at k; split at k <;> (try split at k) <;> cases k
    have hbo : ∃ x, Ps L .bo s x ∧ ∀ t r, x = some (t, r) → r.length < s.length := by
      obtain ⟨x, hx, hx2⟩ := hla
      rcases x with _ | ⟨t, r⟩
      · exact ⟨none, .boBad hx, by simp⟩
      have hlt := hx2 _ _ rfl
      obtain ⟨y, hy, hy2⟩ := (ih r (by omega)).2.2.2.2.1 t
      exact ⟨y, .bo hx hy, fun t2 r2 e => by have := hy2 _ _ e; omega⟩
    have hei : ∃ x, Ps L .ei s x ∧ ∀ t r, x = some (t, r) → r.length < s.length := by
      obtain ⟨x, hx, hx2⟩ := hbo
      rcases x with _ | ⟨t, r⟩
      · exact ⟨none, .eiBad hx, by simp⟩
      have hlt := hx2 _ _ rfl
      obtain ⟨y, hy, hy2⟩ := (ih r (by omega)).2.2.2.2.2 t
      exact ⟨y, .ei hx hy, fun t2 r2 e => by have := hy2 _ _ e; omega⟩
    refine ⟨hsg, hla, hbo, hei, fun u => ?_, fun u => ?_⟩
    · by_cases hr : ∃ r', s = 38 :: r'
      · obtain ⟨r', rfl⟩ := hr
        have hl : r'.length ≤ n := by simpa using hs
        obtain ⟨x, hx, hx2⟩ := (ih r' hl).2.1
        rcases x with _ | ⟨t, r⟩
        · exact ⟨none, .tbBad hx, by simp⟩
        · have hlt := hx2 _ _ rfl
          obtain ⟨y, hy, hy2⟩ := (ih r (by omega)).2.2.2.2.1 (.bin 4 u t)
          exact ⟨y, .tbMore hx hy, fun t2 r2 e => by have := hy2 _ _ e; simp; omega⟩
      · exact ⟨_, .tbEnd (fun r' e => hr ⟨r', e⟩), by rintro t r e; simp only [Option.some.injEq, Prod.mk.injEq] at e; rw [← e.2]; exact Nat.le_refl _⟩
    · by_cases hr : ∃ r', s = 124 :: r'
      · obtain ⟨r', rfl⟩ := hr
        have hl : r'.length ≤ n := by simpa using hs
        obtain ⟨x, hx, hx2⟩ := (ih r' hl).2.2.1
        rcases x with _ | ⟨t, r⟩
        · exact ⟨none, .teBad hx, by simp⟩
        · have hlt := hx2 _ _ rfl
          obtain ⟨y, hy, hy2⟩ := (ih r (by omega)).2.2.2.2.2 (.bin 5 u t)
          exact ⟨y, .teMore hx hy, fun t2 r2 e => by have := hy2 _ _ e; simp; omega⟩
      · exact ⟨_, .teEnd (fun r' e => hr ⟨r', e⟩), by rintro t r e; simp only [Option.some.injEq, Prod.mk.injEq] at e; rw [← e.2]; exact Nat.le_refl _⟩
/-- What is read is a formula. -/
def Snd (L : Nat) : Lv → List UInt8 → List UInt8 → Tree → Prop
  | .sg, s, r, t => ∃ p, s = p ++ r ∧ G L 0 p t
  | .la, s, r, t => ∃ p, s = p ++ r ∧ G L 1 p t
  | .bo, s, r, t => ∃ p, s = p ++ r ∧ G L 2 p t
  | .ei, s, r, t => ∃ p, s = p ++ r ∧ G L 3 p t
  | .tb u, s, r, t => ∀ p0, G L 2 p0 u → ∃ p, s = p ++ r ∧ G L 2 (p0 ++ p) t
  | .te u, s, r, t => ∀ p0, G L 3 p0 u → ∃ p, s = p ++ r ∧ G L 3 (p0 ++ p) t
theorem Ps_sound {L : Nat} {lv : Lv} {s : List UInt8} {x : Option (Tree × List UInt8)} (h : Ps L lv s x) : ∀ t r, x = some (t, r) → Snd L lv s r t := by
  induction h with
  | endd => intro t r e; cases e
  | par _ ih =>
    rintro t r e; simp only [Option.some.injEq, Prod.mk.injEq] at e; obtain ⟨rfl, rfl⟩ := e
    obtain ⟨p, rfl, hg⟩ := ih _ _ rfl
    exact ⟨40 :: (p ++ [41]), by simp, .par hg⟩
  | parBad => intro t r e; cases e
  | parShut => intro t r e; cases e
  | tt => rintro t r e; simp only [Option.some.injEq, Prod.mk.injEq] at e; obtain ⟨rfl, rfl⟩ := e; exact ⟨[116], rfl, .tt⟩
  | ff => rintro t r e; simp only [Option.some.injEq, Prod.mk.injEq] at e; obtain ⟨rfl, rfl⟩ := e; exact ⟨[102], rfl, .ff⟩
  | set hd =>
    rintro t r e; simp only [Option.some.injEq, Prod.mk.injEq] at e; obtain ⟨rfl, rfl⟩ := e
    obtain ⟨ds, h1, h2, h3⟩ := digs_sound _ _ _ _ _ hd
    refine ⟨setText ds, by simp [setText, h2], ?_⟩
    rw [h3, Nat.zero_add]; exact .set h1
  | setBad => intro t r e; cases e
  | un hu _ ih =>
    rintro t r e; simp only [Option.some.injEq, Prod.mk.injEq] at e; obtain ⟨rfl, rfl⟩ := e
    obtain ⟨p, rfl, hg⟩ := ih _ _ rfl
    exact ⟨_ :: p, rfl, .un hu hg⟩
  | unBad => intro t r e; cases e
  | other => intro t r e; cases e
  | laBad => intro t r e; cases e
  | la1 _ _ ih =>
    rintro t r e; simp only [Option.some.injEq, Prod.mk.injEq] at e; obtain ⟨rfl, rfl⟩ := e
    obtain ⟨p, rfl, hg⟩ := ih _ _ rfl
    exact ⟨p, rfl, .la1 hg⟩
  | la2 hu _ _ ih1 ih2 =>
    rintro t r e; simp only [Option.some.injEq, Prod.mk.injEq] at e; obtain ⟨rfl, rfl⟩ := e
    obtain ⟨p, rfl, hg⟩ := ih1 _ _ rfl
    obtain ⟨p2, rfl, hg2⟩ := ih2 _ _ rfl
    exact ⟨p ++ _ :: p2, by simp, .la2 hu hg hg2⟩
  | la2Bad => intro t r e; cases e
  | boBad => intro t r e; cases e
  | bo _ _ ih1 ih2 =>
    rintro t r e
    obtain ⟨p, rfl, hg⟩ := ih1 _ _ rfl
    obtain ⟨p2, rfl, hg2⟩ := ih2 _ _ e p (.bo1 hg)
    exact ⟨p ++ p2, by simp, hg2⟩
  | tbEnd => rintro t r e p0 hp0; simp only [Option.some.injEq, Prod.mk.injEq] at e; obtain ⟨rfl, rfl⟩ := e; exact ⟨[], rfl, by rw [List.append_nil]; exact hp0⟩
  | tbBad => intro t r e; cases e
  | tbMore _ _ ih1 ih2 =>
    rintro t r e p0 hp0
    obtain ⟨p, rfl, hg⟩ := ih1 _ _ rfl
    obtain ⟨p2, rfl, hg2⟩ := ih2 _ _ e _ (.bo2 hp0 hg)
    exact ⟨38 :: (p ++ p2), by simp, by simpa using hg2⟩
  | eiBad => intro t r e; cases e
  | ei _ _ ih1 ih2 =>
    rintro t r e
    obtain ⟨p, rfl, hg⟩ := ih1 _ _ rfl
    obtain ⟨p2, rfl, hg2⟩ := ih2 _ _ e p (.ei1 hg)
    exact ⟨p ++ p2, by simp, hg2⟩
  | teEnd => rintro t r e p0 hp0; simp only [Option.some.injEq, Prod.mk.injEq] at e; obtain ⟨rfl, rfl⟩ := e; exact ⟨[], rfl, by rw [List.append_nil]; exact hp0⟩
  | teBad => intro t r e; cases e
  | teMore _ _ ih1 ih2 =>
    rintro t r e p0 hp0
    obtain ⟨p, rfl, hg⟩ := ih1 _ _ rfl
    obtain ⟨p2, rfl, hg2⟩ := ih2 _ _ e _ (.ei2 hp0 hg)
    exact ⟨124 :: (p ++ p2), by simp, by simpa using hg2⟩
/-- What follows is no sign of looseness n. -/
def Off (n : Nat) (r : List UInt8) : Prop := ∀ c r', r = c :: r' → loose c ≠ n
def Cmp (L : Nat) : Nat → List UInt8 → Tree → Prop
  | 0, p, t => ∀ r, Ps L .sg (p ++ r) (some (t, r))
  | 1, p, t => ∀ r, Off 1 r → Ps L .la (p ++ r) (some (t, r))
  | 2, p, t => ∀ r x, Off 1 r → Ps L (.tb t) r x → Ps L .bo (p ++ r) x
  | _, p, t => ∀ r x, Off 1 r → Off 2 r → Ps L (.te t) r x → Ps L .ei (p ++ r) x
theorem off_cons {n : Nat} {c : UInt8} (h : loose c ≠ n) (r : List UInt8) : Off n (c :: r) := fun x r' e => by simp only [List.cons.injEq] at e; rw [← e.1]; exact h
theorem Ps_full {L : Nat} (hL : L ≤ 6) {n : Nat} {p : List UInt8} {t : Tree} (h : G L n p t) : Cmp L n p t := by
  induction h with
  | tt => exact fun r => .tt
  | ff => exact fun r => .ff
  | set hs =>
    intro r
    have := digs_full (List.range L) (nodup_range L) (fun a ha => by have := List.mem_range.1 ha; omega) _ 0 r hs
    rw [Nat.zero_add] at this
    simpa [setText] using Ps.set this
  | un hu _ ih => exact fun r => .un hu (ih r)
  | par _ ih =>
    intro r
    have := ih (41 :: r) _ (off_cons (by decide) _) (off_cons (by decide) _) (.teEnd (by simp))
    simpa using Ps.par this
  | la1 _ ih => exact fun r hr => .la1 (ih r) hr
  | la2 hu _ _ ih1 ih2 =>
    intro r hr
    have := Ps.la2 hu (ih1 _) (ih2 r hr)
    simpa using this
  | bo1 _ ih => exact fun r x hr hx => .bo (ih r hr) hx
  | @bo2 s s2 t t2 _ _ ih1 ih2 =>
    intro r x hr hx
    have := ih1 (38 :: (s2 ++ r)) x (off_cons (by decide) _) (.tbMore (ih2 r hr) hx)
    simpa using this
  | @ei1 s t _ ih => exact fun r x h1 h2 hx => .ei (ih r _ h1 (.tbEnd fun r' e => h2 _ _ e rfl)) hx
  | @ei2 s s2 t t2 _ _ ih1 ih2 =>
    intro r x h1 h2 hx
    have := ih1 (124 :: (s2 ++ r)) x (off_cons (by decide) _) (off_cons (by decide) _) (.teMore (ih2 r _ h1 (.tbEnd fun r' e => h2 _ _ e rfl)) hx)
    simpa using this
theorem reads_yes {L : Nat} (hL : L ≤ 6) {s : List UInt8} {t : Tree} (h : G L 3 s t) : Ps L .ei s (some (t, [])) := by
  have := Ps_full hL h [] (some (t, [])) (fun c r' e => by cases e) (fun c r' e => by cases e) (.teEnd (by simp))
  rwa [List.append_nil] at this
theorem reads_no {L : Nat} {s : List UInt8} (h : ∀ t, ¬ G L 3 s t) : ∃ x, Ps L .ei s x ∧ ∀ t, x ≠ some (t, []) := by
  obtain ⟨x, hx, _⟩ := (Ps_total L s.length s (Nat.le_refl _)).2.2.2.1
  refine ⟨x, hx, fun t e => ?_⟩
  obtain ⟨p, hp, hg⟩ := Ps_sound hx _ _ e
  rw [List.append_nil] at hp
  exact h t (hp ▸ hg)

/-! ### cutting at the loosest sign: the reference's way -/
def mk (k : Nat) : Option Tree → Option Tree → Option Tree
  | some t, some u => some (.bin k t u)
  | _, _ => none
def Cutting (k : Nat) (c : UInt8) (p q : List UInt8) : Prop :=
  run 0 p = some 0 ∧ ((k = 5 ∧ c = 124 ∧ no 3 q) ∨ (k = 4 ∧ c = 38 ∧ no 3 (p ++ c :: q) ∧ no 2 q) ∨ (Ur k c ∧ no 3 (p ++ c :: q) ∧ no 2 (p ++ c :: q) ∧ no 1 p))
theorem Cutting.plain {k : Nat} {c : UInt8} {p q : List UInt8} (h : Cutting k c p q) : c ≠ 40 ∧ c ≠ 41 := by
  rcases h.2 with ⟨_, rfl, _⟩ | ⟨_, rfl, _⟩ | ⟨hu, _⟩
  · decide
  · decide
  · exact ⟨hu.plain.1, hu.plain.2.1⟩
end Go.Proofs.YtloihkoamccacaaGreatDoor.Fm

namespace Go.Proofs.YtloihkoamccacaaGreatDoor.Fm

/-! ### what is wrong with a formula -/
def ops (k : Int) : Int := if k = 3 ∨ k = 6 ∨ k = 7 then 1 else if k = 4 ∨ k = 5 ∨ k = 8 ∨ k = 9 then 2 else 0
def inR (L : Int) (n : Nd) : Bool := if n.1 = 2 then decide (0 ≤ n.2.1) && decide (n.2.1 < 2 ^ L.toNat) else decide (0 ≤ n.1) && decide (n.1 ≤ 9)
def fits (i : Nat) (x : Int) (has : Bool) : Bool := if has then decide (0 ≤ x) && decide (x < (i : Int)) else decide (x = 0)
def shp (i : Nat) (n : Nd) : Bool := (decide (n.1 = 2) || fits i n.2.1 (decide (1 ≤ ops n.1))) && fits i n.2.2 (decide (ops n.1 = 2))
def nerr (L : Int) (i : Nat) (n : Nd) : Nat := if inR L n then (if shp i n then 0 else 3) else 1
def fscan (L : Int) : Nat → List Nd → Nat
  | _, [] => 0
  | i, n :: r => if nerr L i n = 0 then fscan L (i + 1) r else nerr L i n
def fchk (L : Int) (f : List Nd) : Nat := if L < 1 ∨ 6 < L then 1 else if f.length = 0 then 3 else if 40 < f.length then 4 else fscan L 0 f
/-- A node that is well made at place i. -/
structure NdGood (L : Int) (i : Nat) (n : Nd) : Prop where
  k0 : 0 ≤ n.1
  k9 : n.1 ≤ 9
  set : n.1 = 2 → 0 ≤ n.2.1 ∧ n.2.1 < 2 ^ L.toNat
  a0 : n.1 ≠ 2 → ops n.1 = 0 → n.2.1 = 0
  a1 : 1 ≤ ops n.1 → 0 ≤ n.2.1 ∧ n.2.1 < (i : Int)
  b0 : ops n.1 ≠ 2 → n.2.2 = 0
  b2 : ops n.1 = 2 → 0 ≤ n.2.2 ∧ n.2.2 < (i : Int)
theorem ops_range (k : Int) : ops k = 0 ∨ ops k = 1 ∨ ops k = 2 := by
  unfold ops
  split
  · simp
  · split <;> simp
theorem ops_two : ops 2 = 0 := by decide
theorem nerr_iff {L : Int} {i : Nat} {n : Nd} : nerr L i n = 0 ↔ NdGood L i n := by
  obtain ⟨k, a, b⟩ := n
  unfold nerr
  have hr := ops_range k
  constructor
  · intro h
    by_cases h1 : inR L (k, a, b) = true
    · rw [if_pos h1] at h
      by_cases h2 : shp i (k, a, b) = true
      · simp only [shp, fits, Bool.and_eq_true, Bool.or_eq_true, decide_eq_true_eq] at h2
        simp only [inR] at h1
        obtain ⟨p, q⟩ := h2
        by_cases hk : k = 2
        · subst hk
          simp only [if_true, Bool.and_eq_true, decide_eq_true_eq] at h1
          simp only [ops_two] at q
          rw [if_neg (by decide)] at q
          exact ⟨by show (0 : Int) ≤ 2; decide, by show (2 : Int) ≤ 9; decide, fun _ => h1, fun e => absurd rfl e, fun e => absurd e (by simp [ops_two]), fun _ => by simpa using q, fun e => absurd e (by simp [ops_two])⟩
        · rw [if_neg hk] at h1
          simp only [Bool.and_eq_true, decide_eq_true_eq] at h1
          rcases p with p | p
          · exact absurd p hk
          refine ⟨h1.1, h1.2, fun e => absurd e hk, fun _ e => ?_, fun e => ?_, fun e => ?_, fun e => ?_⟩
          · rw [if_neg (by simp only at e ⊢; omega)] at p; simpa using p
          · rw [if_pos (by simp only at e ⊢; omega)] at p; simpa using p
          · rw [if_neg (by simp only at e ⊢; omega)] at q; simpa using q
          · rw [if_pos (by simp only at e ⊢; omega)] at q; simpa using q
      · rw [if_neg h2] at h; cases h
    · rw [if_neg h1] at h; cases h
  · intro g
    have h1 : inR L (k, a, b) = true := by
      simp only [inR]
      by_cases hk : k = 2
      · rw [if_pos hk]; simpa using g.set hk
      · rw [if_neg hk]; have := g.k0; have := g.k9; simp_all
    have h2 : shp i (k, a, b) = true := by
      simp only [shp, fits, Bool.and_eq_true, Bool.or_eq_true, decide_eq_true_eq]
      refine ⟨?_, ?_⟩
      · by_cases hk : k = 2
        · exact .inl hk
        · right
          by_cases ho : 1 ≤ ops k
          · rw [if_pos ho]; simpa using g.a1 ho
          · rw [if_neg ho]; have := g.a0 hk (by simp only; omega); simpa using this
      · by_cases ho : ops k = 2
        · rw [if_pos ho]; simpa using g.b2 ho
        · rw [if_neg ho]; have := g.b0 ho; simpa using this
    rw [if_pos h1, if_pos h2]
theorem snoc_ind {α : Type} {p : List α → Prop} (h0 : p []) (h1 : ∀ l a, p l → p (l ++ [a])) (l : List α) : p l := by
  have : p l.reverse.reverse := by
    induction l.reverse with
    | nil => exact h0
    | cons a l ih => rw [List.reverse_cons]; exact h1 _ _ ih
  rwa [List.reverse_reverse] at this
theorem fscan_good {L : Int} : ∀ (f : List Nd) (i : Nat), fscan L i f = 0 → ∀ j n, f[j]? = some n → NdGood L (i + j) n
  | [], i, _, j, n, h => by simp at h
  | m :: f, i, h, j, n, hj => by
    simp only [fscan] at h
    by_cases h0 : nerr L i m = 0
    · rw [if_pos h0] at h
      rcases j with _ | j
      · simp at hj; subst hj; exact nerr_iff.1 h0
      · have := fscan_good f (i + 1) h j n (by simpa using hj)
        rwa [show i + 1 + j = i + (j + 1) by omega] at this
    · rw [if_neg h0] at h; exact absurd h h0
theorem fscan_of {L : Int} : ∀ (f : List Nd) (i : Nat), (∀ j n, f[j]? = some n → NdGood L (i + j) n) → fscan L i f = 0
  | [], i, _ => rfl
  | m :: f, i, h => by
    simp only [fscan]
    rw [if_pos (nerr_iff.2 (by simpa using h 0 m rfl))]
    exact fscan_of f (i + 1) fun j n hj => by have := h (j + 1) n (by simpa using hj); rwa [show i + (j + 1) = i + 1 + j by omega] at this
/-- A formula without fault. -/
structure FGood (L : Int) (f : List Nd) : Prop where
  l1 : 1 ≤ L
  l6 : L ≤ 6
  ne : 0 < f.length
  le : f.length ≤ 40
  nd : ∀ j n, f[j]? = some n → NdGood L j n
theorem fchk_iff {L : Int} {f : List Nd} : fchk L f = 0 ↔ FGood L f := by
  unfold fchk
  constructor
  · intro h
    split at h
    · cases h
    · split at h
      · cases h
      · split at h
        · cases h
        · exact ⟨by omega, by omega, by omega, by omega, fun j n hj => by have := fscan_good f 0 h j n hj; rwa [Nat.zero_add] at this⟩
  · intro g
    have := g.l1; have := g.l6; have := g.ne; have := g.le
    rw [if_neg (by omega), if_neg (by omega), if_neg (by omega)]
    exact fscan_of f 0 fun j n hj => by rw [Nat.zero_add]; exact g.nd j n hj
theorem fscan_at {L : Int} {f : List Nd} {i : Nat} {n : Nd} (h : f[i]? = some n) : fscan L i (f.drop i) = if nerr L i n = 0 then fscan L (i + 1) (f.drop (i + 1)) else nerr L i n := by
  obtain ⟨hi, rfl⟩ := List.getElem?_eq_some_iff.1 h
  rw [List.drop_eq_getElem_cons hi]
  rfl
theorem fscan_end (L : Int) (f : List Nd) : fscan L f.length (f.drop f.length) = 0 := by rw [List.drop_length]; rfl

/-! ### texts -/
def sgs : List UInt8 := [116, 102, 91, 33, 38, 124, 88, 87, 85, 82]
def sgn (k : Nat) : UInt8 := sgs.getD k 0
def bitsOf (v : Nat) : List Nat := (List.range 6).filter fun a => v.testBit a
def one (n : Nd) (l : List (List UInt8)) : List UInt8 :=
  if n.1 = 2 then setText (bitsOf n.2.1.toNat)
  else if ops n.1 = 1 then sgn n.1.toNat :: l.getD n.2.1.toNat []
  else if ops n.1 = 2 then 40 :: (l.getD n.2.1.toNat [] ++ sgn n.1.toNat :: (l.getD n.2.2.toNat [] ++ [41]))
  else [sgn n.1.toNat]
def texts (f : List Nd) : List (List UInt8) := f.foldl (fun l n => l ++ [one n l]) []
theorem texts_snoc (f : List Nd) (n : Nd) : texts (f ++ [n]) = texts f ++ [one n (texts f)] := by simp [texts]
theorem texts_more (f g : List Nd) : ∃ m, texts (f ++ g) = texts f ++ m ∧ m.length = g.length := by
  refine snoc_ind (α := Nd) (p := fun g => ∃ m, texts (f ++ g) = texts f ++ m ∧ m.length = g.length) ⟨[], by simp, rfl⟩ ?_ g
  rintro g n ⟨m, h1, h2⟩
  refine ⟨m ++ [one n (texts (f ++ g))], ?_, by simp [h2]⟩
  rw [← List.append_assoc, texts_snoc, h1, List.append_assoc]
theorem texts_length (f : List Nd) : (texts f).length = f.length := by
  obtain ⟨m, h1, h2⟩ := texts_more [] f
  rw [List.nil_append] at h1
  rw [h1, List.length_append, h2]; simp [texts]
theorem texts_take (f : List Nd) (i : Nat) (hi : i ≤ f.length) : texts (f.take i) = (texts f).take i := by
  obtain ⟨m, h1, h2⟩ := texts_more (f.take i) (f.drop i)
  rw [List.take_append_drop] at h1
  have hl : (texts (f.take i)).length = i := by rw [texts_length, List.length_take]; omega
  generalize texts (f.take i) = T at *
  rw [h1, List.take_append_of_le_length (by omega), List.take_of_length_le (by omega)]
theorem getD_take {α : Type} {l : List α} {i j : Nat} {d : α} (h : j < i) : (l.take i).getD j d = l.getD j d := by
  rw [List.getD_eq_getElem?_getD, List.getD_eq_getElem?_getD, List.getElem?_take_of_lt h]
theorem one_take {L : Int} {i : Nat} {n : Nd} (g : NdGood L i n) (l : List (List UInt8)) : one n (l.take i) = one n l := by
  unfold one
  split
  · rfl
  · split
    · rename_i h
      have := g.a1 (by omega)
      rw [getD_take (by omega)]
    · split
      · rename_i h
        have := g.a1 (by omega)
        have := g.b2 h
        rw [getD_take (by omega), getD_take (by omega)]
      · rfl
theorem texts_get {L : Int} {f : List Nd} (hg : ∀ j n, f[j]? = some n → NdGood L j n) {i : Nat} {n : Nd} (h : f[i]? = some n) : (texts f)[i]? = some (one n (texts f)) := by
  obtain ⟨hi, hn⟩ := List.getElem?_eq_some_iff.1 h
  have h1 := texts_snoc (f.take i) n
  rw [← hn, List.take_append_getElem hi, texts_take f (i + 1) (by omega), texts_take f i (by omega), hn, one_take (hg i n h)] at h1
  have h2 : ((texts f).take (i + 1))[i]? = some (one n (texts f)) := by
    rw [h1, List.getElem?_append_right (by simp; omega)]
    rw [List.length_take, texts_length, Nat.min_eq_left (by omega), Nat.sub_self]; rfl
  rwa [List.getElem?_take_of_lt (by omega)] at h2
/-- The text of node i. -/
def txt (f : List Nd) (i : Nat) : List UInt8 := (texts f).getD i []
theorem txt_eq {L : Int} {f : List Nd} (hg : ∀ j n, f[j]? = some n → NdGood L j n) {i : Nat} {n : Nd} (h : f[i]? = some n) : txt f i = one n (texts f) := by
  rw [txt, List.getD_eq_getElem?_getD, texts_get hg h]; rfl
/-- The whole text. -/
def ftxt (f : List Nd) : List UInt8 := txt f (f.length - 1)

/-- The letters of a set below k. -/
def bitsTo (v k : Nat) : List UInt8 := ((List.range k).filter fun a => v.testBit a).map dg
theorem bitsTo_yes {v k : Nat} (h : v.testBit k = true) : bitsTo v (k + 1) = bitsTo v k ++ [dg k] := by simp [bitsTo, List.range_succ, List.filter_append, h]
theorem bitsTo_no {v k : Nat} (h : v.testBit k = false) : bitsTo v (k + 1) = bitsTo v k := by simp [bitsTo, List.range_succ, List.filter_append, h]
theorem bitsTo_mono {v k : Nat} (h : k ≤ 6) : (bitsTo v k).length ≤ (bitsTo v 6).length := by
  have : ∀ n j : Nat, (bitsTo v j).length ≤ (bitsTo v (j + n)).length := by
    intro n
    induction n with
    | zero => intro j; exact Nat.le_refl _
    | succ n ih =>
      intro j
      refine Nat.le_trans (ih j) ?_
      rw [← Nat.add_assoc]
      rcases hb : v.testBit (j + n) with _ | _
      · rw [bitsTo_no hb]; exact Nat.le_refl _
      · rw [bitsTo_yes hb]; simp
  have h2 := this (6 - k) k
  rwa [show k + (6 - k) = 6 by omega] at h2
theorem bitsTo_all (v : Nat) : bitsTo v 6 = (bitsOf v).map dg := rfl
/-- What Write returns: an error's number, a text. -/
def werr (L : Int) (f : List Nd) : Nat := if fchk L f = 0 then (if (ftxt f).length ≤ 300 then 0 else 4) else fchk L f
def wtext (L : Int) (f : List Nd) : List UInt8 := if fchk L f = 0 ∧ (ftxt f).length ≤ 300 then ftxt f else []
theorem wrote_bad {L : Int} {f : List Nd} (h : fchk L f ≠ 0) : wtext L f = [] ∧ werr L f = fchk L f := by unfold wtext werr; rw [if_neg (fun k => h k.1), if_neg h]; exact ⟨rfl, rfl⟩
theorem wrote_long {L : Int} {f : List Nd} (h : fchk L f = 0) (h2 : 300 < (ftxt f).length) : wtext L f = [] ∧ werr L f = 4 := by unfold wtext werr; rw [if_neg (fun k => by omega), if_pos h, if_neg (by omega)]; exact ⟨rfl, rfl⟩
theorem wrote_ok {L : Int} {f : List Nd} (h : fchk L f = 0) (h2 : (ftxt f).length ≤ 300) : wtext L f = ftxt f ∧ werr L f = 0 := by unfold wtext werr; rw [if_pos ⟨h, h2⟩, if_pos h, if_pos h2]; exact ⟨rfl, rfl⟩

/-! ### the document's answer's table: texts, and which are too long -/
/-! ### a text written is read back -/
def Ok (L : Nat) : Tree → Prop
  | .leaf k a => (k = 0 ∧ a = 0) ∨ (k = 1 ∧ a = 0) ∨ (k = 2 ∧ a < 2 ^ L)
  | .un k t => (k = 3 ∨ k = 6 ∨ k = 7) ∧ Ok L t
  | .bin k t u => (k = 4 ∨ k = 5 ∨ k = 8 ∨ k = 9) ∧ Ok L t ∧ Ok L u
def wr : Tree → List UInt8
  | .leaf k a => if k = 2 then setText (bitsOf a) else [sgn k]
  | .un k t => sgn k :: wr t
  | .bin k t u => 40 :: (wr t ++ sgn k :: (wr u ++ [41]))
theorem val_lt {L : Nat} : ∀ {ds : List Nat}, ds.Sublist (List.range L) → val ds < 2 ^ L := by
  induction L with
  | zero => intro ds h; simp at h; subst h; decide
  | succ L ih =>
    intro ds h
    rw [List.range_succ] at h
    obtain ⟨d1, d2, rfl, h1, h2⟩ := List.sublist_append_iff.1 h
    have hv : ∀ a b : List Nat, val (a ++ b) = val a + val b := by
      intro a b
      induction a with
      | nil => simp [val]
      | cons x a ih => simp only [List.cons_append, val, ih]; omega
    have := ih h1
    rw [hv, Nat.pow_succ]
    rcases d2 with _ | ⟨x, d2⟩
    · simp [val]; omega
    · have hx := h2.length_le
      simp at hx
      subst hx
      have := h2.subset (List.mem_singleton.2 rfl)
      simp at this
      subst this
      simp [val]; omega
theorem G_ok {L n : Nat} {s : List UInt8} {t : Tree} (h : G L n s t) : Ok L t := by
  induction h with
  | tt => exact .inl ⟨rfl, rfl⟩
  | ff => exact .inr (.inl ⟨rfl, rfl⟩)
  | set h => exact .inr (.inr ⟨rfl, val_lt h⟩)
  | un hu _ ih => exact ⟨by rcases hu with ⟨h, _⟩ | ⟨h, _⟩ | ⟨h, _⟩ <;> simp [h], ih⟩
  | par _ ih => exact ih
  | la1 _ ih => exact ih
  | la2 hu _ _ ih1 ih2 => exact ⟨by rcases hu with ⟨h, _⟩ | ⟨h, _⟩ <;> simp [h], ih1, ih2⟩
  | bo1 _ ih => exact ih
  | bo2 _ _ ih1 ih2 => exact ⟨.inl rfl, ih1, ih2⟩
  | ei1 _ ih => exact ih
  | ei2 _ _ ih1 ih2 => exact ⟨.inr (.inl rfl), ih1, ih2⟩
theorem bits_small {L a : Nat} (hL : 1 ≤ L) (hL6 : L ≤ 6) (ha : a < 2 ^ L) : (bitsOf a).Sublist (List.range L) ∧ val (bitsOf a) = a := by
  have hh : ∀ L < 7, ∀ a < 64, a < 2 ^ L → (bitsOf a).isSublist (List.range L) = true ∧ val (bitsOf a) = a := by decide +kernel
  have h64 : a < 64 := Nat.lt_of_lt_of_le ha (by have := Nat.pow_le_pow_right (n := 2) (by decide) hL6; simpa using this)
  obtain ⟨h1, h2⟩ := hh L (by omega) a h64 ha
  exact ⟨List.isSublist_iff_sublist.1 h1, h2⟩
theorem wr_reads {L : Nat} (hL : 1 ≤ L) (hL6 : L ≤ 6) : ∀ {t : Tree}, Ok L t → G L 0 (wr t) t
  | .leaf k a, h => by
    rcases h with ⟨rfl, rfl⟩ | ⟨rfl, rfl⟩ | ⟨rfl, h⟩
    · exact .tt
    · exact .ff
    · obtain ⟨h1, h2⟩ := bits_small hL hL6 h
      have := G.set h1
      rw [h2] at this
      exact this
  | .un k t, h => by
    have ih := wr_reads hL hL6 h.2
    rcases h.1 with rfl | rfl | rfl
    · exact .un (.inl ⟨rfl, rfl⟩) ih
    · exact .un (.inr (.inl ⟨rfl, rfl⟩)) ih
    · exact .un (.inr (.inr ⟨rfl, rfl⟩)) ih
  | .bin k t u, h => by
    have h1 := wr_reads hL hL6 h.2.1
    have h2 := wr_reads hL hL6 h.2.2
    have e : wr (.bin k t u) = 40 :: ((wr t ++ sgn k :: wr u) ++ [41]) := by simp [wr]
    rw [e]
    rcases h.1 with rfl | rfl | rfl | rfl
    · exact .par (.ei1 (.bo2 (.bo1 (.la1 h1)) (.la1 h2)))
    · exact .par (.ei2 (.ei1 (.bo1 (.la1 h1))) (.bo1 (.la1 h2)))
    · exact .par (.ei1 (.bo1 (.la2 (.inl ⟨rfl, rfl⟩) h1 (.la1 h2))))
    · exact .par (.ei1 (.bo1 (.la2 (.inr ⟨rfl, rfl⟩) h1 (.la1 h2))))
theorem bits_dg {a d : Nat} (h : d ∈ bitsOf a) : d < 6 := by
  have := (List.mem_filter.1 h).1
  simpa using this
theorem wr_noblank : ∀ {L : Nat} {t : Tree}, Ok L t → ∀ c ∈ wr t, c ≠ 32
  | L, .leaf k a, h => by
    intro c hc
    simp only [wr] at hc
    split at hc
    · simp only [setText, List.mem_cons, List.mem_append, List.mem_map, List.not_mem_nil, or_false] at hc
      rcases hc with rfl | ⟨d, hd, rfl⟩ | rfl
      · decide
      · have := bits_dg hd
        have : d = 0 ∨ d = 1 ∨ d = 2 ∨ d = 3 ∨ d = 4 ∨ d = 5 := by omega
        rcases this with rfl | rfl | rfl | rfl | rfl | rfl <;> decide
      · decide
    · rcases h with ⟨rfl, _⟩ | ⟨rfl, _⟩ | ⟨rfl, _⟩
      · simp at hc; subst hc; decide
      · simp at hc; subst hc; decide
      · rename_i h; exact absurd rfl h
  | L, .un k t, h => by
    intro c hc
    simp only [wr, List.mem_cons] at hc
    rcases hc with rfl | hc
    · rcases h.1 with rfl | rfl | rfl <;> decide
    · exact wr_noblank h.2 c hc
  | L, .bin k t u, h => by
    intro c hc
    simp only [wr, List.mem_cons, List.mem_append, List.not_mem_nil, or_false] at hc
    rcases hc with rfl | hc | rfl | hc | rfl
    · decide
    · exact wr_noblank h.2.1 c hc
    · rcases h.1 with rfl | rfl | rfl | rfl <;> decide
    · exact wr_noblank h.2.2 c hc
    · decide
theorem flat_ne (t : Tree) (f : List Nd) : 0 < (flat t f).length := by rw [flat_length]; have := t.size_pos; omega
theorem flat_more : ∀ (t : Tree) (f : List Nd), ∃ m, flat t f = f ++ m
  | .leaf k a, f => ⟨_, rfl⟩
  | .un k t, f => by obtain ⟨m, h⟩ := flat_more t f; exact ⟨m ++ [((k : Int), (((f ++ m).length - 1 : Nat) : Int), 0)], by simp only [flat, h, List.append_assoc]⟩
  | .bin k t u, f => by
    obtain ⟨m, h⟩ := flat_more t f
    obtain ⟨m2, h2⟩ := flat_more u (flat t f)
    refine ⟨m ++ (m2 ++ [((k : Int), (((flat t f).length - 1 : Nat) : Int), (((flat u (flat t f)).length - 1 : Nat) : Int))]), ?_⟩
    simp only [flat]
    rw [← List.append_assoc f m, ← h, ← List.append_assoc, ← h2]
theorem good_leaf {L : Int} {i : Nat} {k : Int} (h : k = 0 ∨ k = 1) : NdGood L i (k, 0, 0) := by
  have ho : ops k = 0 := by rcases h with rfl | rfl <;> decide
  exact ⟨by simp only; omega, by simp only; omega, fun e => by simp only at e; omega, fun _ _ => rfl, fun e => by simp only at e; omega, fun _ => rfl, fun e => by simp only at e; omega⟩
theorem good_set {L : Int} {i : Nat} {a : Int} (h0 : 0 ≤ a) (h1 : a < 2 ^ L.toNat) : NdGood L i (2, a, 0) := by
  have ho : ops 2 = 0 := by decide
  exact ⟨by simp only; omega, by simp only; omega, fun _ => ⟨h0, h1⟩, fun e => absurd rfl e, fun e => by simp only at e; omega, fun _ => rfl, fun e => by simp only at e; omega⟩
theorem good_un {L : Int} {i : Nat} {k a : Int} (h : k = 3 ∨ k = 6 ∨ k = 7) (h0 : 0 ≤ a) (h1 : a < (i : Int)) : NdGood L i (k, a, 0) := by
  have ho : ops k = 1 := by rcases h with rfl | rfl | rfl <;> decide
  exact ⟨by simp only; omega, by simp only; omega, fun e => by simp only at e; omega, fun _ e => by simp only at e; omega, fun _ => ⟨h0, h1⟩, fun _ => rfl, fun e => by simp only at e; omega⟩
theorem good_bin {L : Int} {i : Nat} {k a b : Int} (h : k = 4 ∨ k = 5 ∨ k = 8 ∨ k = 9) (h0 : 0 ≤ a) (h1 : a < (i : Int)) (h2 : 0 ≤ b) (h3 : b < (i : Int)) : NdGood L i (k, a, b) := by
  have ho : ops k = 2 := by rcases h with rfl | rfl | rfl | rfl <;> decide
  exact ⟨by simp only; omega, by simp only; omega, fun e => by simp only at e; omega, fun _ e => by simp only at e; omega, fun _ => ⟨h0, h1⟩, fun e => absurd ho e, fun _ => ⟨h2, h3⟩⟩
theorem flat_good {L : Nat} : ∀ (t : Tree) (f : List Nd), Ok L t → (∀ j n, f[j]? = some n → NdGood L j n) → ∀ j n, (flat t f)[j]? = some n → NdGood L j n := by
  have put : ∀ (f : List Nd) (m : Nd), (∀ j n, f[j]? = some n → NdGood L j n) → NdGood L f.length m → ∀ j n, (f ++ [m])[j]? = some n → NdGood L j n := by
    intro f m hf hm j n hj
    by_cases h : j < f.length
    · rw [List.getElem?_append_left h] at hj; exact hf j n hj
    · have h2 := (List.getElem?_eq_some_iff.1 hj).1
      simp at h2
      obtain rfl : j = f.length := by omega
      simp at hj; subst hj; exact hm
  intro t
  induction t with
  | leaf k a =>
    intro f h hf
    refine put f _ hf ?_
    rcases h with ⟨rfl, rfl⟩ | ⟨rfl, rfl⟩ | ⟨rfl, h⟩
    · exact good_leaf (.inl rfl)
    · exact good_leaf (.inr rfl)
    · refine good_set (by omega) ?_
      simp only [Int.toNat_natCast]
      exact_mod_cast h
  | un k t ih =>
    intro f h hf
    have hp := flat_ne t f
    refine put (flat t f) _ (ih f h.2 hf) ?_
    have hk := h.1
    exact good_un (by omega) (by omega) (by omega)
  | bin k t u ih1 ih2 =>
    intro f h hf
    have hp := flat_ne t f
    have hp2 := flat_length u (flat t f)
    have hp3 := u.size_pos
    refine put (flat u (flat t f)) _ (ih2 _ h.2.2 (ih1 f h.2.1 hf)) ?_
    have hk := h.1
    exact good_bin (by omega) (by omega) (by omega) (by omega) (by omega)

/-! ### reading -/
def strip (s : List UInt8) : List UInt8 := s.filter fun c => c != 32
theorem strip_append (s t : List UInt8) : strip (s ++ t) = strip s ++ strip t := List.filter_append ..
theorem strip_none {s : List UInt8} (h : ∀ c ∈ s, c ≠ 32) : strip s = s := List.filter_eq_self.2 fun c hc => by simpa using h c hc
theorem strip_length (s : List UInt8) : (strip s).length ≤ s.length := List.length_filter_le _ _
/-- What is read: an error, or nodes. -/
def Rd (L : Int) (s : List UInt8) (e : Nat) (f : List Nd) : Prop :=
  ((L < 1 ∨ 6 < L) ∧ e = 1 ∧ f = []) ∨ (1 ≤ L ∧ L ≤ 6 ∧ 300 < s.length ∧ e = 4 ∧ f = []) ∨
  (1 ≤ L ∧ L ≤ 6 ∧ s.length ≤ 300 ∧ (∀ t, ¬ G L.toNat 3 (strip s) t) ∧ e = 2 ∧ f = []) ∨
  (1 ≤ L ∧ L ≤ 6 ∧ s.length ≤ 300 ∧ ∃ t, G L.toNat 3 (strip s) t ∧ ((40 < t.size ∧ e = 4 ∧ f = []) ∨ (t.size ≤ 40 ∧ e = 0 ∧ f = flat t [])))
/-- As many nodes as letters at most. -/
theorem digs_short2 {L : Nat} {s r : List UInt8} {n : Nat} (h : digs (List.range L) s 0 = (n, r)) : r.length ≤ s.length := digs_short _ _ _ _ _ h
def Szd : Lv → List UInt8 → List UInt8 → Tree → Prop
  | .tb u, s, r, t => t.size + r.length ≤ u.size + s.length
  | .te u, s, r, t => t.size + r.length ≤ u.size + s.length
  | _, s, r, t => t.size + r.length ≤ s.length
theorem Ps_size {L : Nat} {lv : Lv} {s : List UInt8} {x : Option (Tree × List UInt8)} (h : Ps L lv s x) : ∀ t r, x = some (t, r) → Szd lv s r t := by
  induction h with
  | endd => intro t r e; cases e
  | par _ ih => rintro t r e; simp only [Option.some.injEq, Prod.mk.injEq] at e; obtain ⟨rfl, rfl⟩ := e; have := ih _ _ rfl; simp only [Szd, List.length_cons] at this ⊢; omega
  | parBad => intro t r e; cases e
  | parShut => intro t r e; cases e
  | tt => rintro t r e; simp only [Option.some.injEq, Prod.mk.injEq] at e; obtain ⟨rfl, rfl⟩ := e; simp only [Szd, List.length_cons, Tree.size]; omega
  | ff => rintro t r e; simp only [Option.some.injEq, Prod.mk.injEq] at e; obtain ⟨rfl, rfl⟩ := e; simp only [Szd, List.length_cons, Tree.size]; omega
  | set hd => rintro t r e; simp only [Option.some.injEq, Prod.mk.injEq] at e; obtain ⟨rfl, rfl⟩ := e; have := digs_short2 hd; simp only [Szd, List.length_cons, Tree.size] at this ⊢; omega
  | setBad => intro t r e; cases e
  | un _ _ ih => rintro t r e; simp only [Option.some.injEq, Prod.mk.injEq] at e; obtain ⟨rfl, rfl⟩ := e; have := ih _ _ rfl; simp only [Szd, List.length_cons, Tree.size] at this ⊢; omega
  | unBad => intro t r e; cases e
  | other => intro t r e; cases e
  | laBad => intro t r e; cases e
  | la1 _ _ ih => rintro t r e; simp only [Option.some.injEq, Prod.mk.injEq] at e; obtain ⟨rfl, rfl⟩ := e; exact ih _ _ rfl
  | la2 _ _ _ ih1 ih2 => rintro t r e; simp only [Option.some.injEq, Prod.mk.injEq] at e; obtain ⟨rfl, rfl⟩ := e; have h1 := ih1 _ _ rfl; have h2 := ih2 _ _ rfl; simp only [Szd, List.length_cons, Tree.size] at h1 h2 ⊢; omega
  | la2Bad => intro t r e; cases e
  | boBad => intro t r e; cases e
  | bo _ _ ih1 ih2 => rintro t r e; have h1 := ih1 _ _ rfl; have h2 := ih2 _ _ e; simp only [Szd] at h1 h2 ⊢; omega
  | tbEnd => rintro t r e; simp only [Option.some.injEq, Prod.mk.injEq] at e; obtain ⟨rfl, rfl⟩ := e; exact Nat.le_refl _
  | tbBad => intro t r e; cases e
  | tbMore _ _ ih1 ih2 => rintro t r e; have h1 := ih1 _ _ rfl; have h2 := ih2 _ _ e; simp only [Szd, List.length_cons, Tree.size] at h1 h2 ⊢; omega
  | eiBad => intro t r e; cases e
  | ei _ _ ih1 ih2 => rintro t r e; have h1 := ih1 _ _ rfl; have h2 := ih2 _ _ e; simp only [Szd] at h1 h2 ⊢; omega
  | teEnd => rintro t r e; simp only [Option.some.injEq, Prod.mk.injEq] at e; obtain ⟨rfl, rfl⟩ := e; exact Nat.le_refl _
  | teBad => intro t r e; cases e
  | teMore _ _ ih1 ih2 => rintro t r e; have h1 := ih1 _ _ rfl; have h2 := ih2 _ _ e; simp only [Szd, List.length_cons, Tree.size] at h1 h2 ⊢; omega
end Go.Proofs.YtloihkoamccacaaGreatDoor.Fm

namespace Go.Proofs.YtloihkoamccacaaGreatDoor.Fm

/-! ### the tree of a node -/
def tone (n : Nd) (l : List Tree) : Tree :=
  if n.1 = 2 then .leaf 2 n.2.1.toNat
  else if ops n.1 = 1 then .un n.1.toNat (l.getD n.2.1.toNat (.leaf 1 0))
  else if ops n.1 = 2 then .bin n.1.toNat (l.getD n.2.1.toNat (.leaf 1 0)) (l.getD n.2.2.toNat (.leaf 1 0))
  else .leaf n.1.toNat 0
def trees (f : List Nd) : List Tree := f.foldl (fun l n => l ++ [tone n l]) []
theorem trees_snoc (f : List Nd) (n : Nd) : trees (f ++ [n]) = trees f ++ [tone n (trees f)] := by simp [trees]
theorem trees_more (f g : List Nd) : ∃ m, trees (f ++ g) = trees f ++ m ∧ m.length = g.length := by
  refine snoc_ind (α := Nd) (p := fun g => ∃ m, trees (f ++ g) = trees f ++ m ∧ m.length = g.length) ⟨[], by simp, rfl⟩ ?_ g
  rintro g n ⟨m, h1, h2⟩
  refine ⟨m ++ [tone n (trees (f ++ g))], ?_, by simp [h2]⟩
  rw [← List.append_assoc, trees_snoc, h1, List.append_assoc]
theorem trees_length (f : List Nd) : (trees f).length = f.length := by
  obtain ⟨m, h1, h2⟩ := trees_more [] f
  rw [List.nil_append] at h1
  rw [h1, List.length_append, h2]; simp [trees]
/-- The tree of node i. -/
def tre (f : List Nd) (i : Nat) : Tree := (trees f).getD i (.leaf 1 0)
theorem tre_more (f g : List Nd) {i : Nat} (h : i < f.length) : tre (f ++ g) i = tre f i := by
  obtain ⟨m, h1, _⟩ := trees_more f g
  rw [tre, tre, h1, List.getD_eq_getElem?_getD, List.getD_eq_getElem?_getD, List.getElem?_append_left (by rw [trees_length]; exact h)]
theorem tre_new (f : List Nd) (n : Nd) : tre (f ++ [n]) f.length = tone n (trees f) := by
  rw [tre, trees_snoc, List.getD_eq_getElem?_getD, List.getElem?_append_right (by rw [trees_length]; exact Nat.le_refl _), trees_length, Nat.sub_self]; rfl
theorem tone_take {L : Int} {i : Nat} {n : Nd} (g : NdGood L i n) (l : List Tree) : tone n (l.take i) = tone n l := by
  unfold tone
  split
  · rfl
  · split
    · rename_i h
      have := g.a1 (by omega)
      rw [getD_take (by omega)]
    · split
      · rename_i h
        have := g.a1 (by omega)
        have := g.b2 h
        rw [getD_take (by omega), getD_take (by omega)]
      · rfl
theorem tre_get {L : Int} {f : List Nd} (hg : ∀ j n, f[j]? = some n → NdGood L j n) {i : Nat} {n : Nd} (h : f[i]? = some n) : tre f i = tone n (trees f) := by
  obtain ⟨hi, hn⟩ := List.getElem?_eq_some_iff.1 h
  obtain ⟨m, h1, _⟩ := trees_more (f.take i) (f.drop i)
  have e1 : tre f i = tre (f.take (i + 1)) i := by
    have := tre_more (f.take (i + 1)) (f.drop (i + 1)) (i := i) (by rw [List.length_take]; omega)
    rwa [List.take_append_drop] at this
  have hl : (f.take i).length = i := by rw [List.length_take]; omega
  have e2 : tre (f.take (i + 1)) i = tone n (trees (f.take i)) := by
    rw [← List.take_append_getElem hi, hn]
    have := tre_new (f.take i) n
    rwa [hl] at this
  rw [List.take_append_drop] at h1
  have hl2 : (trees (f.take i)).length = i := by rw [trees_length, hl]
  have e3 : trees (f.take i) = (trees f).take i := by
    clear e2
    generalize trees (f.take i) = T at *
    rw [h1, List.take_append_of_le_length (by omega), List.take_of_length_le (by omega)]
  rw [e1, e2, e3, tone_take (hg i n h)]
theorem ops_none {k : Int} (h0 : 0 ≤ k) (h9 : k ≤ 9) (h2 : k ≠ 2) (h1 : ops k ≠ 1) (h3 : ops k ≠ 2) : k = 0 ∨ k = 1 := by
  have : k = 0 ∨ k = 1 ∨ k = 2 ∨ k = 3 ∨ k = 4 ∨ k = 5 ∨ k = 6 ∨ k = 7 ∨ k = 8 ∨ k = 9 := by omega
  rcases this with rfl | rfl | rfl | rfl | rfl | rfl | rfl | rfl | rfl | rfl <;> first | exact .inl rfl | exact .inr rfl | exact absurd rfl h2 | exact absurd (by decide) h1 | exact absurd (by decide) h3
theorem tre_ok {L : Int} {f : List Nd} (hg : ∀ j n, f[j]? = some n → NdGood L j n) : ∀ i, i < f.length → Ok L.toNat (tre f i) := by
  intro i
  induction i using Nat.strongRecOn with
  | _ i ih =>
    intro hi
    have hn : f[i]? = some f[i] := List.getElem?_eq_getElem hi
    have g := hg i _ hn
    rw [tre_get hg hn]
    generalize f[i] = n at *
    have h0 := g.k0
    have h9 := g.k9
    unfold tone
    split
    · rename_i h2
      have := g.set h2
      refine .inr (.inr ⟨rfl, ?_⟩)
      have h3 : ((n.2.1.toNat : Nat) : Int) < ((2 ^ L.toNat : Nat) : Int) := by rw [Int.natCast_pow]; rw [Int.toNat_of_nonneg this.1]; exact this.2
      exact_mod_cast h3
    · rename_i h2
      split
      · rename_i h1
        have ha := g.a1 (by omega)
        refine ⟨?_, ih n.2.1.toNat (by omega) (by omega)⟩
        unfold ops at h1
        split at h1
        · omega
        · split at h1 <;> omega
      · rename_i h1
        split
        · rename_i h3
          have ha := g.a1 (by omega)
          have hb := g.b2 h3
          refine ⟨?_, ih n.2.1.toNat (by omega) (by omega), ih n.2.2.toNat (by omega) (by omega)⟩
          unfold ops at h3
          split at h3
          · omega
          · split at h3 <;> omega
        · rename_i h3
          have := ops_none h0 h9 h2 h1 h3
          rcases this with e | e
          · rw [e]; exact .inl ⟨rfl, rfl⟩
          · rw [e]; exact .inr (.inl ⟨rfl, rfl⟩)

/-! ### values -/
/-- Is there a place from p on (m places are left) where B is as told, and A is at all places from p on ahead of it? -/
def untl (A B : Nat → Bool) (told : Bool) : Nat → Nat → Bool
  | 0, _ => false
  | m + 1, p => (B p == told) || ((A p == told) && untl A B told m (p + 1))
def val1 (w : List Int) : Tree → Nat → Bool
  | .leaf k a, p => if k = 0 then true else if k = 2 then decide (p < w.length) && a.testBit (w.getD p 0).toNat else false
  | .un k t, p => if k = 3 then !val1 w t p else if k = 6 then decide (p < w.length) && val1 w t (p + 1) else decide (w.length ≤ p) || val1 w t (p + 1)
  | .bin k t u, p =>
    if k = 4 then val1 w t p && val1 w u p else if k = 5 then val1 w t p || val1 w u p
    else if k = 8 then untl (val1 w t) (val1 w u) true (w.length - p) p else !untl (val1 w t) (val1 w u) false (w.length - p) p
/-- The value of node i at place p. -/
def vat (f : List Nd) (w : List Int) (i p : Nat) : Bool := val1 w (tre f i) p
theorem untl_not (A B : Nat → Bool) (told : Bool) : ∀ m p, untl (fun q => !A q) (fun q => !B q) told m p = untl A B (!told) m p
  | 0, _ => rfl
  | m + 1, p => by
    simp only [untl]
    rw [untl_not A B told m]
    cases B p <;> cases A p <;> cases told <;> simp
theorem untl_shift (A B A' B' : Nat → Bool) (told : Bool) (hA : ∀ p, A' (p + 1) = A p) (hB : ∀ p, B' (p + 1) = B p) : ∀ m p, untl A' B' told m (p + 1) = untl A B told m p
  | 0, _ => rfl
  | m + 1, p => by
    simp only [untl]
    rw [hA, hB, untl_shift A B A' B' told hA hB m]
/-- The word's rest. -/
theorem val_shift (a : Int) (w : List Int) : ∀ (t : Tree) (p : Nat), val1 (a :: w) t (p + 1) = val1 w t p
  | .leaf k b, p => by simp [val1]
  | .un k t, p => by simp [val1, val_shift a w t]
  | .bin k t u, p => by
    simp only [val1, List.length_cons, Nat.add_sub_add_right]
    rw [val_shift a w t, val_shift a w u, untl_shift _ _ _ _ true (val_shift a w t) (val_shift a w u), untl_shift _ _ _ _ false (val_shift a w t) (val_shift a w u)]

/-! ### Not ahead of sets alone -/
def dual (k : Nat) : Nat := if k < 2 then 1 - k else if k < 6 then 9 - k else if k < 8 then 13 - k else 17 - k
def nnf : Bool → Tree → Tree
  | b, .leaf k a => if k = 2 then (if b then .un 3 (.leaf 2 a) else .leaf 2 a) else .leaf (if b then dual k else k) a
  | b, .un k t => if k = 3 then nnf (!b) t else .un (if b then dual k else k) (nnf b t)
  | b, .bin k t u => .bin (if b then dual k else k) (nnf b t) (nnf b u)
theorem nnf_ok {L : Nat} : ∀ (b : Bool) (t : Tree), Ok L t → Ok L (nnf b t)
  | b, .leaf k a, h => by
    rcases h with ⟨rfl, rfl⟩ | ⟨rfl, rfl⟩ | ⟨rfl, h⟩ <;> rcases b with _ | _
    · exact .inl ⟨rfl, rfl⟩
    · exact .inr (.inl ⟨rfl, rfl⟩)
    · exact .inr (.inl ⟨rfl, rfl⟩)
    · exact .inl ⟨rfl, rfl⟩
    · exact .inr (.inr ⟨rfl, h⟩)
    · exact ⟨.inl rfl, .inr (.inr ⟨rfl, h⟩)⟩
  | b, .un k t, h => by
    rcases h.1 with rfl | rfl | rfl
    · exact nnf_ok (!b) t h.2
    · refine ⟨?_, nnf_ok b t h.2⟩
      rcases b with _ | _ <;> simp [dual]
    · refine ⟨?_, nnf_ok b t h.2⟩
      rcases b with _ | _ <;> simp [dual]
  | b, .bin k t u, h => by
    refine ⟨?_, nnf_ok b t h.2.1, nnf_ok b u h.2.2⟩
    rcases h.1 with rfl | rfl | rfl | rfl <;> rcases b with _ | _ <;> simp [dual]
theorem nnf_val {L : Nat} (w : List Int) : ∀ (b : Bool) (t : Tree), Ok L t → ∀ p, val1 w (nnf b t) p = (b != val1 w t p)
  | b, .leaf k a, h => by
    intro p
    rcases h with ⟨rfl, rfl⟩ | ⟨rfl, rfl⟩ | ⟨rfl, h⟩ <;> rcases b with _ | _ <;> simp [nnf, val1, dual]
  | b, .un k t, h => by
    intro p
    rcases h.1 with rfl | rfl | rfl
    · have := nnf_val w (!b) t h.2 p
      simp only [nnf, if_true, this, val1]
      rcases b with _ | _ <;> rcases val1 w t p with _ | _ <;> rfl
    · have := nnf_val w b t h.2 (p + 1)
      rcases b with _ | _
      · simp [nnf, val1, this]
      · by_cases hp : p < w.length
        · simp [nnf, val1, this, dual, hp, show ¬ w.length ≤ p by omega]
        · simp [nnf, val1, this, dual, hp, show w.length ≤ p by omega]
    · have := nnf_val w b t h.2 (p + 1)
      rcases b with _ | _
      · simp [nnf, val1, this]
      · by_cases hp : p < w.length
        · simp [nnf, val1, this, dual, hp, show ¬ w.length ≤ p by omega]
        · simp [nnf, val1, this, dual, hp, show w.length ≤ p by omega]
  | b, .bin k t u, h => by
    intro p
    have h1 := nnf_val w b t h.2.1
    have h2 := nnf_val w b u h.2.2
    have e1 : val1 w (nnf b t) = fun q => (b != val1 w t q) := funext h1
    have e2 : val1 w (nnf b u) = fun q => (b != val1 w u q) := funext h2
    have n1 := untl_not (val1 w t) (val1 w u) true (w.length - p) p
    have n2 := untl_not (val1 w t) (val1 w u) false (w.length - p) p
    rcases h.1 with rfl | rfl | rfl | rfl <;> rcases b with _ | _ <;> simp [nnf, val1, dual, e1, e2, n1, n2]

/-! ### trees of written nodes -/
theorem flat_tree {L : Nat} : ∀ (t : Tree) (f : List Nd), Ok L t → tre (flat t f) ((flat t f).length - 1) = t
  | .leaf k a, f, h => by
    have e : (flat (.leaf k a) f).length - 1 = f.length := by simp [flat]
    rw [e]
    simp only [flat]
    rw [tre_new]
    rcases h with ⟨rfl, rfl⟩ | ⟨rfl, rfl⟩ | ⟨rfl, h⟩ <;> simp [tone, ops]
  | .un k t, f, h => by
    have ih := flat_tree t f h.2
    have e : (flat (.un k t) f).length - 1 = (flat t f).length := by simp [flat]
    rw [e]
    simp only [flat]
    rw [tre_new]
    rw [tre, List.getD_eq_getElem?_getD] at ih
    rcases h.1 with rfl | rfl | rfl <;> simp [tone, ops, ih]
  | .bin k t u, f, h => by
    have ih1 := flat_tree t f h.2.1
    have ih2 := flat_tree u (flat t f) h.2.2
    have hp := flat_ne t f
    have e : (flat (.bin k t u) f).length - 1 = (flat u (flat t f)).length := by simp [flat]
    rw [e]
    simp only [flat]
    rw [tre_new]
    have ih1' : tre (flat u (flat t f)) ((flat t f).length - 1) = t := by
      obtain ⟨m, hm⟩ := flat_more u (flat t f)
      rw [hm, tre_more _ _ (by omega), ih1]
    rw [tre, List.getD_eq_getElem?_getD] at ih2 ih1'
    rcases h.1 with rfl | rfl | rfl | rfl <;> simp [tone, ops, ih1', ih2]

/-! ### more nodes behind a formula -/
/-- Until is now, or later. -/
theorem unfold_until (w : List Int) (t u : Tree) {p : Nat} (hp : p < w.length) : val1 w (.bin 8 t u) p = val1 w (.bin 5 u (.bin 4 t (.un 6 (.bin 8 t u)))) p := by
  have e : w.length - p = (w.length - (p + 1)) + 1 := by omega
  simp [val1, e, untl, hp]
theorem unfold_release (w : List Int) (t u : Tree) {p : Nat} (hp : p < w.length) : val1 w (.bin 9 t u) p = val1 w (.bin 4 u (.bin 5 t (.un 7 (.bin 9 t u)))) p := by
  have e : w.length - p = (w.length - (p + 1)) + 1 := by omega
  have h2 : ¬ w.length ≤ p := by omega
  simp [val1, e, untl, h2]

/-! ### more is let, more holds -/
/-! ### what is written is read back -/
theorem txt_wr {L : Int} {f : List Nd} (hg : ∀ j n, f[j]? = some n → NdGood L j n) : ∀ i, i < f.length → txt f i = wr (tre f i) := by
  intro i
  induction i using Nat.strongRecOn with
  | _ i ih =>
    intro hi
    have hn : f[i]? = some f[i] := List.getElem?_eq_getElem hi
    have gd := hg i _ hn
    rw [txt_eq hg hn, tre_get hg hn]
    generalize f[i] = n at *
    have h0 := gd.k0
    have h9 := gd.k9
    unfold one tone
    by_cases h2 : n.1 = 2
    · rw [if_pos h2, if_pos h2]; rfl
    · rw [if_neg h2, if_neg h2]
      by_cases o1 : ops n.1 = 1
      · have ha := gd.a1 (by omega)
        have i1 := ih n.2.1.toNat (by omega) (by omega)
        rw [if_pos o1, if_pos o1]
        show sgn _ :: txt f _ = sgn _ :: wr (tre f _)
        rw [i1]
      · by_cases o2 : ops n.1 = 2
        · have ha := gd.a1 (by omega)
          have hb := gd.b2 o2
          have i1 := ih n.2.1.toNat (by omega) (by omega)
          have i2 := ih n.2.2.toNat (by omega) (by omega)
          rw [if_neg o1, if_pos o2, if_neg o1, if_pos o2]
          show 40 :: (txt f _ ++ sgn _ :: (txt f _ ++ [41])) = 40 :: (wr (tre f _) ++ sgn _ :: (wr (tre f _) ++ [41]))
          rw [i1, i2]
        · rw [if_neg o1, if_neg o2, if_neg o1, if_neg o2]
          have := ops_none h0 h9 h2 o1 o2
          simp only [wr]
          rw [if_neg (by omega)]
/-- The whole tree. -/
def root (f : List Nd) : Tree := tre f (f.length - 1)
theorem ftxt_wr {L : Int} {f : List Nd} (g : FGood L f) : ftxt f = wr (root f) := txt_wr g.nd _ (by have := g.ne; omega)
theorem root_ok {L : Int} {f : List Nd} (g : FGood L f) : Ok L.toNat (root f) := tre_ok g.nd _ (by have := g.ne; omega)
theorem root_flat {L : Nat} {t : Tree} (h : Ok L t) : root (flat t []) = t := flat_tree t [] h
theorem flat_fgood {L : Int} {t : Tree} (h1 : 1 ≤ L) (h6 : L ≤ 6) (h : Ok L.toNat t) (hs : t.size ≤ 40) : FGood L (flat t []) := by
  refine ⟨h1, h6, flat_ne _ _, by rw [flat_length]; simpa using hs, fun j n hj => ?_⟩
  have := flat_good t [] h (by simp) j n hj
  rwa [show ((L.toNat : Nat) : Int) = L by omega] at this
/-! ### how many nodes the plain form has -/
end Go.Proofs.YtloihkoamccacaaGreatDoor.Fm

namespace Go.Proofs.YtloihkoamccacaaGreatDoor.Fm

/-- The values of all nodes at the beginning. -/
def vec (f : List Nd) (w : List Int) : List Bool := (List.range f.length).map fun i => vat f w i 0
theorem vec_length (f : List Nd) (w : List Int) : (vec f w).length = f.length := by simp [vec]
theorem vec_get (f : List Nd) (w : List Int) {i : Nat} (h : i < f.length) : (vec f w).getD i false = vat f w i 0 := by
  rw [vec, List.getD_eq_getElem?_getD, List.getElem?_map, List.getElem?_range h]; rfl
/-- The new value of node k: l: the new values of the nodes ahead of it, v: the old ones of all. -/
def nodeK (n : Nd) (a : Int) (k : Nat) (l v : List Bool) : Bool :=
  if n.1 = 0 then true
  else if n.1 = 2 then n.2.1.toNat.testBit a.toNat
  else if n.1 = 3 then !l.getD n.2.1.toNat false
  else if n.1 = 4 then l.getD n.2.1.toNat false && l.getD n.2.2.toNat false
  else if n.1 = 5 then l.getD n.2.1.toNat false || l.getD n.2.2.toNat false
  else if n.1 = 6 ∨ n.1 = 7 then v.getD n.2.1.toNat false
  else if n.1 = 8 then l.getD n.2.2.toNat false || (l.getD n.2.1.toNat false && v.getD k false)
  else if n.1 = 9 then l.getD n.2.2.toNat false && (l.getD n.2.1.toNat false || v.getD k false)
  else false
def nodeN (n : Nd) (a : Int) (l v : List Bool) : Bool := nodeK n a l.length l v
def nxt (f : List Nd) (v : List Bool) (a : Int) : List Bool := f.foldl (fun l n => l ++ [nodeN n a l v]) []
theorem nxt_snoc (f : List Nd) (n : Nd) (v : List Bool) (a : Int) : nxt (f ++ [n]) v a = nxt f v a ++ [nodeN n a (nxt f v a) v] := by simp [nxt]
theorem nodeK_ok {L : Int} {f : List Nd} (hg : ∀ j n, f[j]? = some n → NdGood L j n) (a : Int) (w : List Int) {k : Nat} {n : Nd} (hn : f[k]? = some n) {l : List Bool} (hl0 : ∀ i, i < k → l.getD i false = vat f (a :: w) i 0) :
    nodeK n a k l (vec f w) = vat f (a :: w) k 0 := by
  have hk := (List.getElem?_eq_some_iff.1 hn).1
  have gd := hg k n hn
  have hL : ∀ x : Int, 0 ≤ x → x < (k : Int) → l.getD x.toNat false = vat f (a :: w) x.toNat 0 := fun x h0 h1 => hl0 _ (by omega)
  have hV : ∀ x : Int, 0 ≤ x → x < (k : Int) → (vec f w).getD x.toNat false = val1 (a :: w) (tre f x.toNat) 1 := by
    intro x h0 h1
    rw [vec_get f w (by omega), val_shift]; rfl
  have hK : (vec f w).getD k false = vat f w k 0 := vec_get f w hk
  have hU : vat f w k 0 = val1 (a :: w) (tre f k) 1 := by rw [val_shift]; rfl
  have ht := tre_get hg hn
  have hl : ((a :: w).length) = w.length + 1 := rfl
  have h0 := gd.k0
  have h9 := gd.k9
  obtain ⟨kd, x, y⟩ := n
  simp only at h0 h9
  have : kd = 0 ∨ kd = 1 ∨ kd = 2 ∨ kd = 3 ∨ kd = 4 ∨ kd = 5 ∨ kd = 6 ∨ kd = 7 ∨ kd = 8 ∨ kd = 9 := by omega
  have ha : ops kd = 1 ∨ ops kd = 2 → 0 ≤ x ∧ x < (k : Int) := fun h => gd.a1 (by simp only; omega)
  have hb : ops kd = 2 → 0 ≤ y ∧ y < (k : Int) := gd.b2
  show nodeK _ _ _ _ _ = val1 _ (tre f k) 0
  rcases this with rfl | rfl | rfl | rfl | rfl | rfl | rfl | rfl | rfl | rfl
  · rw [ht]; rfl
  · rw [ht]; rfl
  · rw [ht]; simp [nodeK, tone, val1]
  · have h := ha (.inl rfl)
    rw [ht]
    simp only [nodeK, tone, ops, hL x h.1 h.2]
    simp [val1, vat, tre]
  · have h := ha (.inr rfl)
    have h2 := hb rfl
    rw [ht]
    simp only [nodeK, tone, ops, hL x h.1 h.2, hL y h2.1 h2.2]
    simp [val1, vat, tre]
  · have h := ha (.inr rfl)
    have h2 := hb rfl
    rw [ht]
    simp only [nodeK, tone, ops, hL x h.1 h.2, hL y h2.1 h2.2]
    simp [val1, vat, tre]
  · have h := ha (.inl rfl)
    rw [ht]
    simp only [nodeK, tone, ops, hV x h.1 h.2]
    simp [val1, tre]
  · have h := ha (.inl rfl)
    rw [ht]
    simp only [nodeK, tone, ops, hV x h.1 h.2]
    simp [val1, tre]
  · have h := ha (.inr rfl)
    have h2 := hb rfl
    have e : tre f k = .bin 8 (tre f x.toNat) (tre f y.toNat) := by rw [ht]; rfl
    have e2 := unfold_until (a :: w) (tre f x.toNat) (tre f y.toNat) (p := 0) (by simp)
    rw [e] at hU
    rw [e, e2]
    simp only [nodeK, hL x h.1 h.2, hL y h2.1 h2.2, hK, hU]
    simp [val1, vat]
  · have h := ha (.inr rfl)
    have h2 := hb rfl
    have e : tre f k = .bin 9 (tre f x.toNat) (tre f y.toNat) := by rw [ht]; rfl
    have e2 := unfold_release (a :: w) (tre f x.toNat) (tre f y.toNat) (p := 0) (by simp)
    rw [e] at hU
    rw [e, e2]
    simp only [nodeK, hL x h.1 h.2, hL y h2.1 h2.2, hK, hU]
    simp [val1, vat]
theorem nodeN_ok {L : Int} {f : List Nd} (hg : ∀ j n, f[j]? = some n → NdGood L j n) (a : Int) (w : List Int) {k : Nat} {n : Nd} (hn : f[k]? = some n) :
    nodeN n a ((List.range k).map fun i => vat f (a :: w) i 0) (vec f w) = vat f (a :: w) k 0 := by
  have h := nodeK_ok hg a w hn (l := (List.range k).map fun i => vat f (a :: w) i 0) fun i hi => by
    rw [List.getD_eq_getElem?_getD, List.getElem?_map, List.getElem?_range hi]; rfl
  rw [← h, nodeN, List.length_map, List.length_range]
theorem nxt_take {L : Int} {f : List Nd} (hg : ∀ j n, f[j]? = some n → NdGood L j n) (a : Int) (w : List Int) : ∀ k, k ≤ f.length → nxt (f.take k) (vec f w) a = (List.range k).map fun i => vat f (a :: w) i 0 := by
  intro k
  induction k with
  | zero => intro _; rfl
  | succ k ih =>
    intro hk
    have hn : f[k]? = some f[k] := List.getElem?_eq_getElem (by omega)
    rw [← List.take_append_getElem (by omega : k < f.length), nxt_snoc, ih (by omega), List.range_succ, List.map_append, nodeN_ok hg a w hn]
    rfl
/-- The values of a word with one more letter in front, out of those of the word. -/
theorem vec_next {L : Int} {f : List Nd} (hg : ∀ j n, f[j]? = some n → NdGood L j n) (a : Int) (w : List Int) : nxt f (vec f w) a = vec f (a :: w) := by
  have := nxt_take hg a w f.length (Nat.le_refl _)
  rwa [List.take_length] at this

/-! ### the same from any values -/
theorem nxt_more (f g : List Nd) (v : List Bool) (a : Int) : ∃ m, nxt (f ++ g) v a = nxt f v a ++ m ∧ m.length = g.length := by
  induction g generalizing f with
  | nil => exact ⟨[], by simp, rfl⟩
  | cons n g ih =>
    obtain ⟨m, h1, h2⟩ := ih (f ++ [n])
    rw [List.append_assoc, List.singleton_append] at h1
    exact ⟨nodeN n a (nxt f v a) v :: m, by rw [h1, nxt_snoc]; simp, by simp [h2]⟩
theorem nxt_length (f : List Nd) (v : List Bool) (a : Int) : (nxt f v a).length = f.length := by
  obtain ⟨m, h1, h2⟩ := nxt_more [] f v a
  rw [List.nil_append] at h1
  rw [h1]; simpa [nxt] using h2
theorem nodeK_congr {L : Int} {k : Nat} {n : Nd} (gd : NdGood L k n) {l l' : List Bool} (h : ∀ i, i < k → l.getD i false = l'.getD i false) (a : Int) (v : List Bool) : nodeK n a k l v = nodeK n a k l' v := by
  have hL : ∀ x : Int, 0 ≤ x → x < (k : Int) → l.getD x.toNat false = l'.getD x.toNat false := fun x h0 h1 => h _ (by omega)
  have h0 := gd.k0
  have h9 := gd.k9
  obtain ⟨kd, x, y⟩ := n
  simp only at h0 h9
  have : kd = 0 ∨ kd = 1 ∨ kd = 2 ∨ kd = 3 ∨ kd = 4 ∨ kd = 5 ∨ kd = 6 ∨ kd = 7 ∨ kd = 8 ∨ kd = 9 := by omega
  have ha : ops kd = 1 ∨ ops kd = 2 → 0 ≤ x ∧ x < (k : Int) := fun h => gd.a1 (by simp only; omega)
  have hb : ops kd = 2 → 0 ≤ y ∧ y < (k : Int) := gd.b2
  rcases this with rfl | rfl | rfl | rfl | rfl | rfl | rfl | rfl | rfl | rfl
  · rfl
  · rfl
  · rfl
  · have h := ha (.inl rfl)
    simp only [nodeK, hL x h.1 h.2]
    rfl
  · have h := ha (.inr rfl)
    have h2 := hb rfl
    simp only [nodeK, hL x h.1 h.2, hL y h2.1 h2.2]
  · have h := ha (.inr rfl)
    have h2 := hb rfl
    simp only [nodeK, hL x h.1 h.2, hL y h2.1 h2.2]
  · rfl
  · rfl
  · have h := ha (.inr rfl)
    have h2 := hb rfl
    simp only [nodeK, hL x h.1 h.2, hL y h2.1 h2.2]
  · have h := ha (.inr rfl)
    have h2 := hb rfl
    simp only [nodeK, hL x h.1 h.2, hL y h2.1 h2.2]
/-- The value of node k behind a letter, out of those of the nodes ahead of it. -/
theorem nxt_at {L : Int} {f : List Nd} (hg : ∀ j n, f[j]? = some n → NdGood L j n) (v : List Bool) (a : Int) {k : Nat} {n : Nd} (hn : f[k]? = some n) {l : List Bool} (hl : ∀ i, i < k → l.getD i false = (nxt f v a).getD i false) : (nxt f v a)[k]? = some (nodeK n a k l v) := by
  obtain ⟨hk, he⟩ := List.getElem?_eq_some_iff.1 hn
  have hT : (nxt (f.take k) v a).length = k := by rw [nxt_length, List.length_take]; omega
  obtain ⟨m, h1, _⟩ := nxt_more (f.take (k + 1)) (f.drop (k + 1)) v a
  rw [List.take_append_drop, ← List.take_append_getElem hk, nxt_snoc, he, List.append_assoc] at h1
  have e : (nxt f v a)[k]? = some (nodeN n a (nxt (f.take k) v a) v) := by
    rw [h1, List.getElem?_append_right (by omega), hT, Nat.sub_self]; rfl
  rw [e, nodeN, hT]
  congr 1
  refine nodeK_congr (hg k n hn) (fun i hi => ?_) a v
  rw [hl i hi, h1, List.getD_eq_getElem?_getD, List.getD_eq_getElem?_getD, List.getElem?_append_left (by omega)]

/-! ### at the end of the word -/
/-- What a node says that asks for its operands' values now, and for nothing else. -/
def joinV (n : Nd) (l : List Bool) : Bool :=
  if n.1 = 0 then true else if n.1 = 3 then !l.getD n.2.1.toNat false
  else if n.1 = 4 then l.getD n.2.1.toNat false && l.getD n.2.2.toNat false
  else if n.1 = 5 then l.getD n.2.1.toNat false || l.getD n.2.2.toNat false else false
def nodeE (n : Nd) (l : List Bool) : Bool :=
  if n.1 = 2 ∨ n.1 = 6 ∨ n.1 = 8 then false else if n.1 = 7 ∨ n.1 = 9 then true else joinV n l
theorem nodeE_ok {L : Int} {f : List Nd} (hg : ∀ j n, f[j]? = some n → NdGood L j n) {k : Nat} {n : Nd} (hn : f[k]? = some n) {l : List Bool} (hl0 : ∀ i, i < k → l.getD i false = vat f [] i 0) :
    nodeE n l = vat f [] k 0 := by
  have gd := hg k n hn
  have hL : ∀ x : Int, 0 ≤ x → x < (k : Int) → l.getD x.toNat false = vat f [] x.toNat 0 := fun x h0 h1 => hl0 _ (by omega)
  have ht := tre_get hg hn
  have h0 := gd.k0
  have h9 := gd.k9
  obtain ⟨kd, x, y⟩ := n
  simp only at h0 h9
  have : kd = 0 ∨ kd = 1 ∨ kd = 2 ∨ kd = 3 ∨ kd = 4 ∨ kd = 5 ∨ kd = 6 ∨ kd = 7 ∨ kd = 8 ∨ kd = 9 := by omega
  have ha : ops kd = 1 ∨ ops kd = 2 → 0 ≤ x ∧ x < (k : Int) := fun h => gd.a1 (by simp only; omega)
  have hb : ops kd = 2 → 0 ≤ y ∧ y < (k : Int) := gd.b2
  show nodeE _ _ = val1 _ (tre f k) 0
  rw [ht]
  rcases this with rfl | rfl | rfl | rfl | rfl | rfl | rfl | rfl | rfl | rfl
  · rfl
  · rfl
  · simp [nodeE, tone, val1]
  · have h := ha (.inl rfl)
    simp only [nodeE, joinV, tone, ops, hL x h.1 h.2]
    simp [val1, vat, tre]
  · have h := ha (.inr rfl)
    have h2 := hb rfl
    simp only [nodeE, joinV, tone, ops, hL x h.1 h.2, hL y h2.1 h2.2]
    simp [val1, vat, tre]
  · have h := ha (.inr rfl)
    have h2 := hb rfl
    simp only [nodeE, joinV, tone, ops, hL x h.1 h.2, hL y h2.1 h2.2]
    simp [val1, vat, tre]
  · simp [nodeE, tone, ops, val1]
  · simp [nodeE, tone, ops, val1]
  · simp [nodeE, tone, ops, val1, untl]
  · simp [nodeE, tone, ops, val1, untl]

/-! ### a row under way -/
/-- The first k of a row, and none behind. -/
def mid (l : List Bool) (k : Nat) : List Bool := l.take k ++ List.replicate (l.length - k) false
theorem mid_length {l : List Bool} {k : Nat} (h : k ≤ l.length) : (mid l k).length = l.length := by simp [mid]; omega
theorem mid_zero (l : List Bool) : mid l 0 = List.replicate l.length false := by simp [mid]
theorem mid_all (l : List Bool) : mid l l.length = l := by simp [mid]
theorem mid_get {l : List Bool} {k i : Nat} (h : i < k) (hk : k ≤ l.length) : (mid l k)[i]? = l[i]? := by
  rw [mid, List.getElem?_append_left (by rw [List.length_take]; omega), List.getElem?_take, if_pos h]
theorem mid_getD {l : List Bool} {k i : Nat} (h : i < k) (hk : k ≤ l.length) : (mid l k).getD i false = l.getD i false := by
  rw [List.getD_eq_getElem?_getD, List.getD_eq_getElem?_getD, mid_get h hk]
theorem mid_at {l : List Bool} {k : Nat} (h : k < l.length) : (mid l k)[k]? = some false := by
  rw [mid, List.getElem?_append_right (by rw [List.length_take]; omega), List.length_take, List.getElem?_replicate, if_pos (by omega)]
theorem mid_set {l : List Bool} {k : Nat} {b : Bool} (h : l[k]? = some b) : (mid l k).set k b = mid l (k + 1) := by
  obtain ⟨hk, hb⟩ := List.getElem?_eq_some_iff.1 h
  refine List.ext_getElem? fun i => ?_
  rw [List.getElem?_set, mid_length (by omega)]
  by_cases e : k = i
  · subst e
    rw [if_pos rfl, if_pos hk, mid_get (by omega) (by omega), h]
  · rw [if_neg e]
    by_cases hi : i < k
    · rw [mid_get hi (by omega), mid_get (by omega) (by omega)]
    · unfold mid
      rw [List.getElem?_append_right (by rw [List.length_take]; omega), List.getElem?_append_right (by rw [List.length_take]; omega), List.length_take, List.length_take, List.getElem?_replicate, List.getElem?_replicate]
      have : (i - min k l.length < l.length - k) ↔ (i - min (k + 1) l.length < l.length - (k + 1)) := by omega
      simp only [this]
theorem vec_at (f : List Nd) (w : List Int) {k : Nat} (h : k < f.length) : (vec f w)[k]? = some (vat f w k 0) := by
  rw [vec, List.getElem?_map, List.getElem?_range h]; rfl
theorem mid_vec (f : List Nd) (w : List Int) {k : Nat} (hk : k ≤ f.length) : ∀ i, i < k → (mid (vec f w) k).getD i false = vat f w i 0 := fun i hi => by
  rw [mid_getD hi (by rw [vec_length]; exact hk), vec_get f w (by omega)]
end Go.Proofs.YtloihkoamccacaaGreatDoor.Fm
