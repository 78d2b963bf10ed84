/- Plain mathematics of the program's package mend: what the cheapest ways cost from each place and state, and the first of the words that they make. -/
import Derived.Test.YtfiknbdpjnpkdaaMendM
namespace Go.Proofs.Ytfiknbdpjnpkdaa.Me
open Go.Proofs.Ytfiknbdpjnpkdaa.Df Go.Proofs.Ytfiknbdpjnpkdaa.Wo Go.Proofs.Ytfiknbdpjnpkdaa.Rc Go.Proofs.Ytfiknbdpjnpkdaa.Ne

/-! ### what a way costs -/
/-- Each edit a thousand, each letter one. -/
def vl (w v : List Int) : Nat := 1000 * lev w v + v.length
def IsV (d : Aut) (s : Nat) (w : List Int) (n : Nat) : Prop := n = 1000000 ∨ ∃ v, Word d.L v ∧ finA d (runA d s v) = true ∧ vl w v = n
theorem isV_ex (d : Aut) (s : Nat) (w : List Int) : ∃ n, IsV d s w n := ⟨_, .inl rfl⟩
/-- The cheapest way from a state that is given a word; a million where there is none. -/
noncomputable def cst (d : Aut) (s : Nat) (w : List Int) : Nat := Classical.choose (nat_min (isV_ex d s w))
theorem cst_is (d : Aut) (s : Nat) (w : List Int) : IsV d s w (cst d s w) := (Classical.choose_spec (nat_min (isV_ex d s w))).1
theorem cst_min {d : Aut} {s : Nat} {w : List Int} {n : Nat} (h : IsV d s w n) : cst d s w ≤ n := by
  rcases Nat.lt_or_ge n (cst d s w) with q | q
  · exact absurd h ((Classical.choose_spec (nat_min (isV_ex d s w))).2 n q)
  · exact q
theorem cst_never (d : Aut) (s : Nat) (w : List Int) : cst d s w ≤ 1000000 := cst_min (.inl rfl)
theorem cst_le {d : Aut} {s : Nat} {w v : List Int} (hv : Word d.L v) (hf : finA d (runA d s v) = true) : cst d s w ≤ vl w v := cst_min (.inr ⟨v, hv, hf, rfl⟩)
theorem cst_or (d : Aut) (s : Nat) (w : List Int) : cst d s w = 1000000 ∨ ∃ v, Word d.L v ∧ finA d (runA d s v) = true ∧ vl w v = cst d s w := cst_is d s w
theorem lev_ins1 (w v : List Int) (a : Int) : lev w (a :: v) ≤ lev w v + 1 := lev_le (.ins a (al_lev w v))
theorem lev_del1 (w v : List Int) (x : Int) : lev (x :: w) v ≤ lev w v + 1 := lev_le (.del x (al_lev w v))
theorem lev_put1 (w v : List Int) (x a : Int) : lev (x :: w) (a :: v) ≤ lev w v + neq x a := lev_le (.sub x a (al_lev w v))
/-- What it costs to make a letter of another one, or of itself. -/
def mk (x a : Int) : Nat := 1000 * neq x a + 1
theorem word_cons {L a : Int} {v : List Int} : Word L (a :: v) ↔ (0 ≤ a ∧ a < L) ∧ Word L v := by
  constructor
  · intro h
    exact ⟨h a List.mem_cons_self, fun x hx => h x (List.mem_cons_of_mem _ hx)⟩
  · rintro ⟨h1, h2⟩ x hx
    rcases List.mem_cons.1 hx with rfl | hx
    · exact h1
    · exact h2 x hx
theorem cst_ins {d : Aut} {s : Nat} {w : List Int} {a : Nat} (ha : (a : Int) < d.L) : cst d s w ≤ 1001 + cst d (step d s a) w := by
  rcases cst_or d (step d s a) w with h | ⟨v, h1, h2, h3⟩
  · have := cst_never d s w; omega
  · have h := cst_le (d := d) (s := s) (w := w) (v := (a : Int) :: v) (word_cons.2 ⟨⟨by omega, ha⟩, h1⟩) h2
    have := lev_ins1 w v (a : Int)
    unfold vl at h h3
    simp only [List.length_cons] at h
    omega
theorem cst_del {d : Aut} {s : Nat} {w : List Int} (x : Int) : cst d s (x :: w) ≤ 1000 + cst d s w := by
  rcases cst_or d s w with h | ⟨v, h1, h2, h3⟩
  · have := cst_never d s (x :: w); omega
  · have h := cst_le (d := d) (s := s) (w := x :: w) h1 h2
    have := lev_del1 w v x
    unfold vl at h h3
    omega
theorem cst_put {d : Aut} {s : Nat} {w : List Int} (x : Int) {a : Nat} (ha : (a : Int) < d.L) : cst d s (x :: w) ≤ mk x (a : Int) + cst d (step d s a) w := by
  rcases cst_or d (step d s a) w with h | ⟨v, h1, h2, h3⟩
  · have := cst_never d s (x :: w); omega
  · have h := cst_le (d := d) (s := s) (w := x :: w) (v := (a : Int) :: v) (word_cons.2 ⟨⟨by omega, ha⟩, h1⟩) h2
    have := lev_put1 w v x (a : Int)
    unfold vl at h h3
    unfold mk
    simp only [List.length_cons] at h
    omega

/-! ### a row of costs that is shut -/
abbrev Cs := Nat → Nat
/-- Nothing costs less than it can. -/
def SoundC (d : Aut) (w : List Int) (R : Cs) : Prop := ∀ s, s < d.next.length → cst d s w ≤ R s ∧ R s ≤ 1000000
/-- Each way is there, or begins with a letter that is put in. -/
def FullC (d : Aut) (w : List Int) (R : Cs) : Prop := ∀ s v, s < d.next.length → Word d.L v → finA d (runA d s v) = true → R s ≤ vl w v ∨ ∃ a v', v = a :: v' ∧ lev w v = lev w v' + 1
/-- Nothing gets cheaper by a letter that is put in. -/
def ShutC (d : Aut) (R : Cs) : Prop := ∀ (s a : Nat), s < d.next.length → (a : Int) < d.L → R s ≤ 1001 + R (step d s a)
def lowC (n : Nat) (R R0 : Cs) : Prop := ∀ s, s < n → R s ≤ R0 s
theorem closedC {d : Aut} (g : Good d) {w : List Int} {R R0 : Cs} (hs : SoundC d w R) (hf : FullC d w R0) (hl : lowC d.next.length R R0) (hc : ShutC d R) : ∀ s, s < d.next.length → R s = cst d s w := by
  have key : ∀ v, Word d.L v → ∀ s, s < d.next.length → finA d (runA d s v) = true → R s ≤ vl w v := by
    intro v
    induction v with
    | nil =>
      intro hv s hn hfin
      rcases hf s [] hn hv hfin with h | ⟨a, v', e, _⟩
      · exact Nat.le_trans (hl s hn) h
      · cases e
    | cons a v ih =>
      intro hv s hn hfin
      obtain ⟨⟨ha0, ha1⟩, hv'⟩ := word_cons.1 hv
      rcases hf s (a :: v) hn hv hfin with h | ⟨b, v', e, hc2⟩
      · exact Nat.le_trans (hl s hn) h
      · obtain ⟨rfl, rfl⟩ := List.cons.inj e
        have hlt : (a.toNat : Int) < d.L := by omega
        have h1 := ih hv' (step d s a.toNat) (g.step_lt hn hlt) hfin
        have h2 := hc s a.toNat hn hlt
        unfold vl at h1 ⊢
        simp only [List.length_cons]
        omega
  intro s hn
  obtain ⟨h1, h2⟩ := hs s hn
  rcases cst_or d s w with h | ⟨v, k1, k2, k3⟩
  · omega
  · have := key v k1 s hn k2
    omega
/-- The row where all is read. -/
noncomputable def endC (d : Aut) : Cs := fun s => if finA d s = true then 0 else 1000000
theorem endC_sound (d : Aut) : SoundC d [] (endC d) := fun s _ => by
  unfold endC
  rcases h : finA d s with _ | _
  · rw [if_neg (by decide)]; exact ⟨cst_never d s [], Nat.le_refl _⟩
  · rw [if_pos rfl]
    have := cst_le (d := d) (s := s) (w := []) (v := []) (fun a ha => by simp at ha) h
    unfold vl at this
    rw [lev_nil] at this
    exact ⟨by simpa using this, by omega⟩
theorem endC_full (d : Aut) : FullC d [] (endC d) := fun s v _ _ hf => by
  rcases v with _ | ⟨a, v⟩
  · left
    have : finA d s = true := hf
    unfold endC; rw [if_pos this]; omega
  · right
    exact ⟨a, v, rfl, by rw [lev_nil, lev_nil]; rfl⟩
/-- The row of one letter more, before letters are put in. -/
structure Edited (d : Aut) (x : Int) (w : List Int) (R : Cs) : Prop where
  sound : SoundC d (x :: w) R
  del : ∀ s, s < d.next.length → R s ≤ 1000 + cst d s w
  put : ∀ (s a : Nat), s < d.next.length → (a : Int) < d.L → R s ≤ mk x (a : Int) + cst d (step d s a) w
theorem edited_full {d : Aut} {x : Int} {w : List Int} {R : Cs} (h : Edited d x w R) : FullC d (x :: w) R := fun s v hn hv hf => by
  rcases v with _ | ⟨a, v⟩
  · left
    have h1 := h.del s hn
    have h2 := cst_le (d := d) (s := s) (w := w) hv hf
    unfold vl at h2 ⊢
    rw [lev_nil2] at h2 ⊢
    simp only [List.length_cons] at *
    omega
  · obtain ⟨⟨ha0, ha1⟩, hv'⟩ := word_cons.1 hv
    have hlt : (a.toNat : Int) < d.L := by omega
    have e := lev_cons x w a v
    by_cases c1 : lev (x :: w) (a :: v) = lev (x :: w) v + 1
    · exact .inr ⟨a, v, rfl, c1⟩
    · left
      by_cases c2 : lev w (a :: v) + 1 ≤ lev (x :: w) (a :: v)
      · have h1 := h.del s hn
        have h2 := cst_le (d := d) (s := s) (w := w) hv hf
        unfold vl at h2 ⊢
        omega
      · have h1 := h.put s a.toNat hn hlt
        have h2 := cst_le (d := d) (s := step d s a.toNat) (w := w) hv' hf
        rw [Int.toNat_of_nonneg ha0] at h1
        unfold vl at h2 ⊢
        unfold mk at h1
        simp only [List.length_cons]
        omega
/-- One cost is laid where it is less. -/
def updC (R : Cs) (s n : Nat) : Cs := fun t => if t = s then n else R t
/-- The sum of the first costs. -/
def sumC : Nat → Cs → Nat
  | 0, _ => 0
  | n + 1, R => sumC n R + R n
theorem sumC_upd_ge {n s m : Nat} {R : Cs} (h : n ≤ s) : sumC n (updC R s m) = sumC n R := by
  induction n with
  | zero => rfl
  | succ n ih =>
    unfold sumC
    rw [ih (by omega)]
    unfold updC
    rw [if_neg (by omega)]
theorem sumC_upd {n s m : Nat} {R : Cs} (h : s < n) : sumC n (updC R s m) + R s = sumC n R + m := by
  induction n with
  | zero => omega
  | succ n ih =>
    unfold sumC
    by_cases e : s = n
    · subst e
      rw [sumC_upd_ge (Nat.le_refl _)]
      unfold updC
      rw [if_pos rfl]; omega
    · have := ih (by omega)
      have e2 : updC R s m n = R n := by unfold updC; rw [if_neg (by omega)]
      omega
theorem sumC_congr {n : Nat} {R S : Cs} (h : ∀ s, s < n → R s = S s) : sumC n R = sumC n S := by
  induction n with
  | zero => rfl
  | succ n ih => unfold sumC; rw [ih fun s hs => h s (by omega), h n (by omega)]
theorem updC_sound {d : Aut} {w : List Int} {R : Cs} (h : SoundC d w R) {s a : Nat} (hs : s < d.next.length) (ha : (a : Int) < d.L) (g : Good d) (hlt : 1001 + R (step d s a) < R s) : SoundC d w (updC R s (1001 + R (step d s a))) := fun t ht => by
  unfold updC
  by_cases e : t = s
  · subst e
    rw [if_pos rfl]
    have h1 := cst_ins (d := d) (s := t) (w := w) ha
    have h2 := (h _ (g.step_lt ht ha)).1
    have h3 := (h t ht).2
    exact ⟨by omega, by omega⟩
  · rw [if_neg e]; exact h t ht
theorem updC_low {n s m : Nat} {R R0 : Cs} (h : lowC n R R0) (hlt : m < R s) : lowC n (updC R s m) R0 := fun t ht => by
  unfold updC
  by_cases e : t = s
  · subst e; rw [if_pos rfl]; have := h t ht; omega
  · rw [if_neg e]; exact h t ht
/-- A row as a list. -/
def cF (n : Nat) (R : Cs) : List Int := (List.range n).map fun s => (R s : Int)
theorem cF_length (n : Nat) (R : Cs) : (cF n R).length = n := by simp [cF]
theorem cF_get {n s : Nat} (R : Cs) (h : s < n) : (cF n R)[s]? = some ((R s : Nat) : Int) := by unfold cF; rw [List.getElem?_map, List.getElem?_range h]; rfl
theorem cF_congr {n : Nat} {R S : Cs} (h : ∀ s, s < n → R s = S s) : cF n R = cF n S := List.map_congr_left fun s hs => by rw [h s (List.mem_range.1 hs)]
theorem cF_set (n : Nat) (R : Cs) (s m : Nat) : (cF n R).set s (m : Int) = cF n (updC R s m) := by
  refine List.ext_getElem? fun k => ?_
  rw [List.getElem?_set, cF_length]
  by_cases hk : k < n
  · rw [cF_get _ hk, cF_get _ hk]
    unfold updC
    by_cases e : s = k
    · subst e; simp [hk]
    · rw [if_neg e, if_neg (fun q => e q.symm)]
  · rw [List.getElem?_eq_none (by rw [cF_length]; omega), List.getElem?_eq_none (by rw [cF_length]; omega)]
    split
    · rw [if_neg (by omega)]
    · rfl

/-! ### what it says of the nearest word -/
theorem mend_far {d : Aut} (g : Good d) {w : List Int} (hw : w.length ≤ 80) {x : Lb} (h : mendW d w = some x) : x.1 ≤ 80 ∧ x.2.length ≤ 160 := by
  obtain ⟨h1, h2, h3, h4⟩ := mend_some h
  rcases e : firstW d d.s.toNat with _ | u
  · have := firstW_none g g.s_lt e h1
    unfold accA at h2
    rw [this] at h2; cases h2
  · obtain ⟨k1, k2, k3, _⟩ := firstW_some g g.s_lt e
    have h5 := (h4 u k1 k3).1
    have h6 := lev_max w u
    have h7 := (lev_len w x.2).2
    have := g.n40
    omega
theorem cst_mend {d : Aut} (g : Good d) {w : List Int} (hw : w.length ≤ 80) {x : Lb} (h : mendW d w = some x) : cst d d.s.toNat w = 1000 * x.1 + x.2.length := by
  obtain ⟨f1, f2⟩ := mend_far g hw h
  obtain ⟨h1, h2, h3, h4⟩ := mend_some h
  have k1 := cst_le (d := d) (s := d.s.toNat) (w := w) h1 h2
  unfold vl at k1
  rw [h3] at k1
  rcases cst_or d d.s.toNat w with e | ⟨u, u1, u2, u3⟩
  · omega
  · obtain ⟨m1, m2⟩ := h4 u u1 u2
    unfold vl at u3
    by_cases e : lev w u = x.1
    · have m3 := m2 e
      unfold lss at m3
      by_cases el : u.length = x.2.length
      · omega
      · rw [if_neg el] at m3
        simp at m3
        omega
    · omega
theorem cst_none {d : Aut} {w : List Int} (h : mendW d w = none) : cst d d.s.toNat w = 1000000 := by
  rcases cst_or d d.s.toNat w with e | ⟨u, u1, u2, u3⟩
  · exact e
  · have := mend_none.1 h u u1
    unfold accA at this
    rw [this] at u2; cases u2

/-! ### places of the cheapest ways that have made some letters -/
theorem al_split {w x : List Int} {n : Nat} (h : Al w x n) : ∀ p u : List Int, x = p ++ u → ∃ j n1 n2, j ≤ w.length ∧ n1 + n2 = n ∧ Al (w.take j) p n1 ∧ Al (w.drop j) u n2 := by
  induction h with
  | nil =>
    intro p u e
    have e' := List.append_eq_nil_iff.1 e.symm
    obtain ⟨rfl, rfl⟩ := e'
    exact ⟨0, 0, 0, by simp, rfl, .nil, .nil⟩
  | @ins b w x n h ih =>
    intro p u e
    rcases p with _ | ⟨c, p⟩
    · rw [List.nil_append] at e
      subst e
      exact ⟨0, 0, n + 1, by simp, by omega, .nil, .ins b h⟩
    · obtain ⟨rfl, e2⟩ := List.cons.inj e
      obtain ⟨j, n1, n2, h1, h2, h3, h4⟩ := ih p u e2
      exact ⟨j, n1 + 1, n2, h1, by omega, .ins b h3, h4⟩
  | @del a w x n h ih =>
    intro p u e
    obtain ⟨j, n1, n2, h1, h2, h3, h4⟩ := ih p u e
    exact ⟨j + 1, n1 + 1, n2, by simp; omega, by omega, .del a h3, h4⟩
  | @sub a b w x n h ih =>
    intro p u e
    rcases p with _ | ⟨c, p⟩
    · rw [List.nil_append] at e
      subst e
      exact ⟨0, 0, n + neq a b, by simp, by omega, .nil, .sub a b h⟩
    · obtain ⟨rfl, e2⟩ := List.cons.inj e
      obtain ⟨j, n1, n2, h1, h2, h3, h4⟩ := ih p u e2
      exact ⟨j + 1, n1 + neq a b, n2, by simp; omega, by omega, .sub a b h3, h4⟩
/-- j letters are gone, p is made, and what is left can still be as cheap as it gets. -/
def On (d : Aut) (w p : List Int) (j : Nat) : Prop := j ≤ w.length ∧ vl (w.take j) p + cst d (runA d d.s.toNat p) (w.drop j) = cst d d.s.toNat w
theorem on_ge {d : Aut} {w p : List Int} (hp : Word d.L p) (j : Nat) : cst d d.s.toNat w ≤ vl (w.take j) p + cst d (runA d d.s.toNat p) (w.drop j) := by
  rcases cst_or d (runA d d.s.toNat p) (w.drop j) with e | ⟨u, u1, u2, u3⟩
  · have := cst_never d d.s.toNat w; omega
  · have h := cst_le (d := d) (s := d.s.toNat) (w := w) (v := p ++ u) (fun x hx => (List.mem_append.1 hx).elim (hp x) (u1 x)) (by rw [runA_append]; exact u2)
    have hl := lev_le (al_app (al_lev (w.take j) p) (al_lev (w.drop j) u))
    rw [List.take_append_drop] at hl
    unfold vl at *
    rw [List.length_append] at h
    omega
theorem on_zero (d : Aut) (w : List Int) : On d w [] 0 := ⟨by omega, by unfold vl; rw [List.take_zero, lev_nil]; simp [runA]⟩
theorem drop_at {w : List Int} {j : Nat} (h : j < w.length) : w.drop j = w[j] :: w.drop (j + 1) := (List.drop_eq_getElem_cons h)
theorem take_at {w : List Int} {j : Nat} (h : j < w.length) : w.take (j + 1) = w.take j ++ [w[j]] := (List.take_append_getElem h).symm
theorem run_word {d : Aut} (p : List Int) (a : Nat) : runA d d.s.toNat (p ++ [(a : Int)]) = step d (runA d d.s.toNat p) a := by rw [runA_append]; rfl
/-- The cheapest ways remove the letter at j, put one in, or make a of it. -/
def rem (d : Aut) (w : List Int) (s j : Nat) : Prop := cst d s (w.drop j) = 1000 + cst d s (w.drop (j + 1))
def ins (d : Aut) (w : List Int) (s a j : Nat) : Prop := cst d s (w.drop j) = 1001 + cst d (step d s a) (w.drop j)
def put (d : Aut) (w : List Int) (s a j : Nat) (x : Int) : Prop := cst d s (w.drop j) = mk x (a : Int) + cst d (step d s a) (w.drop (j + 1))
theorem on_rem {d : Aut} {w p : List Int} (hp : Word d.L p) {j : Nat} (hj : j < w.length) (h : On d w p j) (hr : rem d w (runA d d.s.toNat p) j) : On d w p (j + 1) := by
  refine ⟨hj, ?_⟩
  have h1 := on_ge (w := w) hp (j + 1)
  have h2 := h.2
  have h3 := lev_del (w.take j) p (w[j])
  rw [← take_at hj] at h3
  unfold rem at hr
  unfold vl at *
  omega
theorem on_ins {d : Aut} {w p : List Int} (hp : Word d.L p) {j a : Nat} (ha : (a : Int) < d.L) (h : On d w p j) (hr : ins d w (runA d d.s.toNat p) a j) : On d w (p ++ [(a : Int)]) j := by
  refine ⟨h.1, ?_⟩
  have h1 := on_ge (w := w) (word_snoc.2 ⟨hp, (by omega : (0 : Int) ≤ (a : Int)), ha⟩) j
  have h2 := h.2
  have h3 := lev_ins (w.take j) p (a : Int)
  rw [run_word] at h1 ⊢
  unfold ins at hr
  unfold vl at *
  simp only [List.length_append, List.length_singleton] at *
  omega
theorem on_put {d : Aut} {w p : List Int} (hp : Word d.L p) {j a : Nat} (ha : (a : Int) < d.L) (hj : j < w.length) (h : On d w p j) (hr : put d w (runA d d.s.toNat p) a j w[j]) : On d w (p ++ [(a : Int)]) (j + 1) := by
  refine ⟨hj, ?_⟩
  have h1 := on_ge (w := w) (word_snoc.2 ⟨hp, (by omega : (0 : Int) ≤ (a : Int)), ha⟩) (j + 1)
  have h2 := h.2
  have h3 := lev_put (w.take j) p w[j] (a : Int)
  rw [← take_at hj] at h3
  rw [run_word] at h1 ⊢
  unfold put mk at hr
  unfold vl at *
  simp only [List.length_append, List.length_singleton] at *
  omega
/-- Come to by a letter that was made last, or nothing is made yet. -/
def Mk (d : Aut) (w p : List Int) (j : Nat) : Prop := (p = [] ∧ j = 0) ∨ ∃ p' a, p = p' ++ [((a : Nat) : Int)] ∧ ((On d w p' j ∧ ins d w (runA d d.s.toNat p') a j) ∨ ∃ i, ∃ hi : i < w.length, j = i + 1 ∧ On d w p' i ∧ put d w (runA d d.s.toNat p') a i w[i])
theorem mk_on {d : Aut} {w p : List Int} (hp : Word d.L p) {j : Nat} (h : Mk d w p j) : On d w p j := by
  rcases h with ⟨rfl, rfl⟩ | ⟨p', a, rfl, h⟩
  · exact on_zero d w
  · obtain ⟨hp', _, ha⟩ := word_snoc.1 hp
    rcases h with ⟨h1, h2⟩ | ⟨i, hi, rfl, h1, h2⟩
    · exact on_ins hp' ha h1 h2
    · exact on_put hp' ha hi h1 h2
/-- Each of them is come to so, or by a letter that is removed. -/
theorem on_or {d : Aut} {w p : List Int} (hp : Word d.L p) {j : Nat} (h : On d w p j) : Mk d w p j ∨ ∃ i, j = i + 1 ∧ On d w p i ∧ rem d w (runA d d.s.toNat p) i := by
  obtain ⟨hj, h2⟩ := h
  -- a letter is removed
  have del : ∀ i, i < w.length → j = i + 1 → lev (w.take j) p = lev (w.take i) p + 1 → Mk d w p j ∨ ∃ i, j = i + 1 ∧ On d w p i ∧ rem d w (runA d d.s.toNat p) i := by
    rintro i hi rfl hl
    right
    have h3 := on_ge (w := w) hp i
    have h4 := cst_del (d := d) (s := runA d d.s.toNat p) (w := w.drop (i + 1)) w[i]
    rw [← drop_at hi] at h4
    refine ⟨i, rfl, ⟨by omega, ?_⟩, ?_⟩
    · unfold vl at *; omega
    · unfold rem; unfold vl at *; omega
  rcases List.eq_nil_or_concat p with rfl | ⟨p', b, rfl⟩
  · rcases j with _ | i
    · exact .inl (.inl ⟨rfl, rfl⟩)
    · refine del i (by omega) rfl ?_
      rw [lev_nil2, lev_nil2, List.length_take, List.length_take]; omega
  · rw [List.concat_eq_append] at *
    obtain ⟨hp', hb0, hb1⟩ := word_snoc.1 hp
    obtain ⟨a, rfl⟩ := Int.eq_ofNat_of_zero_le hb0
    rw [run_word] at h2
    -- a letter is put in
    have hins : lev (w.take j) (p' ++ [(a : Int)]) = lev (w.take j) p' + 1 → Mk d w (p' ++ [(a : Int)]) j := fun hl => by
      have h3 := on_ge (w := w) hp' j
      have h4 := cst_ins (d := d) (s := runA d d.s.toNat p') (w := w.drop j) hb1
      unfold vl at h2 h3
      simp only [List.length_append, List.length_singleton] at h2
      refine .inr ⟨p', a, rfl, .inl ⟨⟨hj, ?_⟩, ?_⟩⟩
      · unfold vl; omega
      · unfold ins; omega
    rcases j with _ | i
    · left
      refine hins ?_
      rw [List.take_zero, lev_nil, lev_nil]; simp
    · have hi : i < w.length := by omega
      have hs := lev_snoc (w.take i) w[i] p' (a : Int)
      rw [← take_at hi] at hs
      by_cases c1 : lev (w.take (i + 1)) (p' ++ [(a : Int)]) = lev (w.take i) p' + neq w[i] (a : Int)
      · left
        have h3 := on_ge (w := w) hp' i
        have h4 := cst_put (d := d) (s := runA d d.s.toNat p') (w := w.drop (i + 1)) w[i] hb1
        rw [← drop_at hi] at h4
        unfold vl at h2 h3
        unfold mk at h4
        simp only [List.length_append, List.length_singleton] at h2
        refine .inr ⟨p', a, rfl, .inr ⟨i, hi, rfl, ⟨by omega, ?_⟩, ?_⟩⟩
        · unfold vl; omega
        · unfold put mk; omega
      · by_cases c2 : lev (w.take (i + 1)) (p' ++ [(a : Int)]) = lev (w.take (i + 1)) p' + 1
        · exact .inl (hins c2)
        · exact del i hi rfl (by omega)
theorem on_mk {d : Aut} {w p : List Int} (hp : Word d.L p) : ∀ j, On d w p j → ∃ i, i ≤ j ∧ Mk d w p i
  | 0, h => by
    rcases on_or hp h with h | ⟨i, e, _⟩
    · exact ⟨0, Nat.le_refl _, h⟩
    · omega
  | j + 1, h => by
    rcases on_or hp h with h | ⟨i, e, h, _⟩
    · exact ⟨j + 1, Nat.le_refl _, h⟩
    · obtain rfl : j = i := by omega
      obtain ⟨i, h1, h2⟩ := on_mk hp j h
      exact ⟨i, by omega, h2⟩
/-- A cheapest way has made p: some word that begins so is as cheap as it gets. -/
theorem mk_word {d : Aut} {w p : List Int} (hp : Word d.L p) (hT : cst d d.s.toNat w < 1000000) {j : Nat} (h : Mk d w p j) : ∃ u, Word d.L (p ++ u) ∧ accA d (p ++ u) = true ∧ vl w (p ++ u) = cst d d.s.toNat w := by
  obtain ⟨h1, h2⟩ := mk_on hp h
  rcases cst_or d (runA d d.s.toNat p) (w.drop j) with e | ⟨u, u1, u2, u3⟩
  · omega
  · have hw : Word d.L (p ++ u) := fun x hx => (List.mem_append.1 hx).elim (hp x) (u1 x)
    have hf : finA d (runA d d.s.toNat (p ++ u)) = true := by rw [runA_append]; exact u2
    refine ⟨u, hw, hf, ?_⟩
    have h := cst_le (d := d) (s := d.s.toNat) (w := w) hw hf
    have hl := lev_le (al_app (al_lev (w.take j) p) (al_lev (w.drop j) u))
    rw [List.take_append_drop] at hl
    unfold vl at *
    rw [List.length_append] at *
    omega
theorem word_mk {d : Aut} {w p u : List Int} (hw : Word d.L (p ++ u)) (ha : accA d (p ++ u) = true) (hv : vl w (p ++ u) = cst d d.s.toNat w) : ∃ j, j ≤ w.length ∧ Mk d w p j := by
  have hp : Word d.L p := fun x hx => hw x (List.mem_append_left _ hx)
  have hu : Word d.L u := fun x hx => hw x (List.mem_append_right _ hx)
  obtain ⟨j, n1, n2, h1, h2, h3, h4⟩ := al_split (al_lev w (p ++ u)) p u rfl
  have h5 := lev_le h3
  have h6 := lev_le h4
  have h7 := on_ge (w := w) hp j
  unfold accA at ha
  rw [runA_append] at ha
  have h8 := cst_le (d := d) (s := runA d d.s.toNat p) (w := w.drop j) hu ha
  obtain ⟨i, h9, h10⟩ := on_mk hp j ⟨h1, by unfold vl at *; rw [List.length_append] at hv; omega⟩
  exact ⟨i, by omega, h10⟩
/-- The letters that go on with what the nearest word begins with: its own is the smallest one. -/
theorem first_at {d : Aut} (g : Good d) {w : List Int} (hw : w.length ≤ 80) {x : Lb} (h : mendW d w = some x) {k : Nat} (hk : k < x.2.length) {a : Nat} (ha : (a : Int) ≤ x.2[k]) :
    (∃ j, j ≤ w.length ∧ Mk d w (x.2.take k ++ [(a : Int)]) j) ↔ (a : Int) = x.2[k] := by
  have hc := cst_mend g hw h
  obtain ⟨f1, f2⟩ := mend_far g hw h
  obtain ⟨h1, h2, h3, h4⟩ := mend_some h
  have hT : cst d d.s.toNat w < 1000000 := by omega
  have hvl : vl w x.2 = cst d d.s.toNat w := by unfold vl; omega
  have hat : 0 ≤ x.2[k] ∧ x.2[k] < d.L := h1 _ (List.getElem_mem hk)
  have hpk : Word d.L (x.2.take k) := fun y hy => h1 y (List.mem_of_mem_take hy)
  constructor
  · rintro ⟨j, _, hm⟩
    obtain ⟨u, u1, u2, u3⟩ := mk_word (word_snoc.2 ⟨hpk, (by omega : (0 : Int) ≤ (a : Int)), by omega⟩) hT hm
    have hq := h4 _ u1 u2
    unfold vl at u3 hvl
    have hlen : lev w (x.2.take k ++ [(a : Int)] ++ u) = x.1 ∧ (x.2.take k ++ [(a : Int)] ++ u).length = x.2.length := by
      have := (lev_len w (x.2.take k ++ [(a : Int)] ++ u)).2
      omega
    have h5 := hq.2 hlen.1
    by_cases e : (a : Int) = x.2[k]
    · exact e
    · exfalso
      have ex : x.2 = x.2.take k ++ x.2[k] :: x.2.drop (k + 1) := by rw [← List.drop_eq_getElem_cons hk, List.take_append_drop]
      have hlx : ∀ (q : List Int) (b c : Int) (r t : List Int), b < c → lx (q ++ b :: r) (q ++ c :: t) = true := by
        intro q b c r t hbc
        induction q with
        | nil => rw [List.nil_append, List.nil_append, lx, if_neg (by omega)]; simpa using hbc
        | cons y q ih => rw [List.cons_append, List.cons_append, lx, if_pos rfl]; exact ih
      unfold lss at h5
      rw [if_pos hlen.2] at h5
      rw [show x.2.take k ++ [(a : Int)] ++ u = x.2.take k ++ (a : Int) :: u by simp] at h5
      have h6 := hlx (x.2.take k) (a : Int) x.2[k] u (x.2.drop (k + 1)) (by omega)
      rw [← ex, h5] at h6
      cases h6
  · intro e
    have ex : x.2.take k ++ [(a : Int)] ++ x.2.drop (k + 1) = x.2 := by rw [e, List.take_append_getElem, List.take_append_drop]
    exact word_mk (p := x.2.take k ++ [(a : Int)]) (u := x.2.drop (k + 1)) (by rw [ex]; exact h1) (by rw [ex]; exact h2) (by rw [ex]; exact hvl)
/-! ### the places as rows of bools -/
noncomputable def onB (d : Aut) (w p : List Int) (j : Nat) : Bool := @decide (On d w p j) (Classical.propDecidable _)
noncomputable def mkB (d : Aut) (w p : List Int) (j : Nat) : Bool := @decide (Mk d w p j) (Classical.propDecidable _)
theorem onB_iff {d : Aut} {w p : List Int} {j : Nat} : onB d w p j = true ↔ On d w p j := @decide_eq_true_iff _ (Classical.propDecidable _)
theorem mkB_iff {d : Aut} {w p : List Int} {j : Nat} : mkB d w p j = true ↔ Mk d w p j := @decide_eq_true_iff _ (Classical.propDecidable _)
/-- What the program's remove leaves when it has looked at the first i letters. -/
noncomputable def remTo (d : Aut) (w p : List Int) (i : Nat) : Nat → Bool := fun j => if j ≤ i then onB d w p j else mkB d w p j
theorem remTo_zero {d : Aut} {w p : List Int} (hp : Word d.L p) (j : Nat) : remTo d w p 0 j = mkB d w p j := by
  unfold remTo
  by_cases e : j ≤ 0
  · obtain rfl : j = 0 := by omega
    rw [if_pos e, Bool.eq_iff_iff, onB_iff, mkB_iff]
    refine ⟨fun h => ?_, mk_on hp⟩
    rcases on_or hp h with h | ⟨i, e, _⟩
    · exact h
    · omega
  · rw [if_neg e]
theorem remTo_all {d : Aut} {w p : List Int} (j : Nat) (hj : j ≤ w.length) : remTo d w p w.length j = onB d w p j := if_pos hj
theorem remTo_next {d : Aut} {w p : List Int} (hp : Word d.L p) {i : Nat} (hi : i < w.length) (b : Bool) (hb : b = true ↔ rem d w (runA d d.s.toNat p) i) (j : Nat) : remTo d w p (i + 1) j = if j = i + 1 ∧ (remTo d w p i i && b) = true then true else remTo d w p i j := by
  have hii : remTo d w p i i = onB d w p i := if_pos (Nat.le_refl _)
  rw [hii]
  unfold remTo
  by_cases e : j = i + 1
  · subst e
    rw [if_pos (Nat.le_refl _), if_neg (show ¬ i + 1 ≤ i by omega)]
    by_cases c : (onB d w p i && b) = true
    · rw [if_pos ⟨rfl, c⟩]
      rw [Bool.and_eq_true, onB_iff, hb] at c
      exact onB_iff.2 (on_rem hp hi c.1 c.2)
    · rw [if_neg (fun h => c h.2), Bool.eq_iff_iff, onB_iff, mkB_iff]
      refine ⟨fun h => ?_, mk_on hp⟩
      rcases on_or hp h with h | ⟨i', e, h1, h2⟩
      · exact h
      · obtain rfl : i = i' := by omega
        exact absurd (by rw [Bool.and_eq_true, onB_iff, hb]; exact ⟨h1, h2⟩) c
  · rw [if_neg (show ¬ (j = i + 1 ∧ (onB d w p i && b) = true) from fun h => e h.1)]
    by_cases c : j ≤ i
    · rw [if_pos (by omega), if_pos c]
    · rw [if_neg (by omega), if_neg c]
/-- What the program's behind has found when it has looked at the first i places. -/
def InsB (d : Aut) (w p : List Int) (a i j : Nat) : Prop := j < i ∧ On d w p j ∧ ins d w (runA d d.s.toNat p) a j
def PutB (d : Aut) (w p : List Int) (a i j : Nat) : Prop := ∃ k, ∃ hk : k < w.length, k < i ∧ j = k + 1 ∧ On d w p k ∧ put d w (runA d d.s.toNat p) a k w[k]
noncomputable def behB (d : Aut) (w p : List Int) (a i : Nat) : Nat → Bool := fun j => @decide (InsB d w p a i j ∨ PutB d w p a i j) (Classical.propDecidable _)
theorem behB_iff {d : Aut} {w p : List Int} {a i j : Nat} : behB d w p a i j = true ↔ InsB d w p a i j ∨ PutB d w p a i j := @decide_eq_true_iff _ (Classical.propDecidable _)
theorem behB_zero (d : Aut) (w p : List Int) (a j : Nat) : behB d w p a 0 j = false := by
  rw [← Bool.not_eq_true, behB_iff]
  rintro (⟨h, _⟩ | ⟨k, _, h, _⟩) <;> omega
theorem behB_all {d : Aut} {w p : List Int} {a : Nat} (j : Nat) : behB d w p a (w.length + 1) j = mkB d w (p ++ [(a : Int)]) j := by
  rw [Bool.eq_iff_iff, behB_iff, mkB_iff]
  constructor
  · rintro (⟨_, h1, h2⟩ | ⟨k, hk, _, rfl, h1, h2⟩)
    · exact .inr ⟨p, a, rfl, .inl ⟨h1, h2⟩⟩
    · exact .inr ⟨p, a, rfl, .inr ⟨k, hk, rfl, h1, h2⟩⟩
  · rintro (⟨h, _⟩ | ⟨p', a', e, h⟩)
    · simp at h
    · have e2 := List.append_inj' e rfl
      obtain ⟨rfl, e3⟩ := e2
      have e4 : a = a' := by simp at e3; omega
      subst e4
      rcases h with ⟨h1, h2⟩ | ⟨k, hk, rfl, h1, h2⟩
      · exact .inl ⟨by have := h1.1; omega, h1, h2⟩
      · exact .inr ⟨k, hk, by omega, rfl, h1, h2⟩
theorem behB_skip {d : Aut} {w p : List Int} {a i : Nat} (h : ¬ On d w p i) (j : Nat) : behB d w p a (i + 1) j = behB d w p a i j := by
  rw [Bool.eq_iff_iff, behB_iff, behB_iff]
  constructor
  · rintro (⟨h0, h1, h2⟩ | ⟨k, hk, h0, rfl, h1, h2⟩)
    · exact .inl ⟨by rcases Nat.lt_or_ge j i with q | q; exact q; obtain rfl : j = i := by omega
                     exact absurd h1 h, h1, h2⟩
    · exact .inr ⟨k, hk, by rcases Nat.lt_or_ge k i with q | q; exact q; obtain rfl : k = i := by omega
                            exact absurd h1 h, rfl, h1, h2⟩
  · rintro (⟨h0, h1, h2⟩ | ⟨k, hk, h0, rfl, h1, h2⟩)
    · exact .inl ⟨by omega, h1, h2⟩
    · exact .inr ⟨k, hk, by omega, rfl, h1, h2⟩
theorem behB_next {d : Aut} {w p : List Int} {a i : Nat} (h : On d w p i) (b c : Bool) (hb : b = true ↔ ins d w (runA d d.s.toNat p) a i) (hc : c = true ↔ ∃ hi : i < w.length, put d w (runA d d.s.toNat p) a i w[i]) (j : Nat) :
    behB d w p a (i + 1) j = if j = i + 1 ∧ c = true then true else if j = i ∧ b = true then true else behB d w p a i j := by
  have hin : ∀ j, InsB d w p a (i + 1) j ↔ InsB d w p a i j ∨ (j = i ∧ b = true) := fun j => by
    unfold InsB
    constructor
    · rintro ⟨h0, h1, h2⟩
      by_cases e : j = i
      · subst e; exact .inr ⟨rfl, hb.2 h2⟩
      · exact .inl ⟨by omega, h1, h2⟩
    · rintro (⟨h0, h1, h2⟩ | ⟨rfl, hh⟩)
      · exact ⟨by omega, h1, h2⟩
      · exact ⟨by omega, h, hb.1 hh⟩
  have hpu : ∀ j, PutB d w p a (i + 1) j ↔ PutB d w p a i j ∨ (j = i + 1 ∧ c = true) := fun j => by
    unfold PutB
    constructor
    · rintro ⟨k, hk, h0, rfl, h1, h2⟩
      by_cases e : k = i
      · subst e; exact .inr ⟨rfl, hc.2 ⟨hk, h2⟩⟩
      · exact .inl ⟨k, hk, by omega, rfl, h1, h2⟩
    · rintro (⟨k, hk, h0, rfl, h1, h2⟩ | ⟨rfl, hh⟩)
      · exact ⟨k, hk, by omega, rfl, h1, h2⟩
      · obtain ⟨hi, h2⟩ := hc.1 hh
        exact ⟨i, hi, by omega, rfl, h, h2⟩
  by_cases e1 : j = i + 1 ∧ c = true
  · rw [if_pos e1, behB_iff]
    exact .inr ((hpu j).2 (.inr e1))
  · rw [if_neg e1]
    by_cases e2 : j = i ∧ b = true
    · rw [if_pos e2, behB_iff]
      exact .inl ((hin j).2 (.inr e2))
    · rw [if_neg e2, Bool.eq_iff_iff, behB_iff, behB_iff, hin, hpu]
      constructor
      · rintro ((h | h) | (h | h))
        · exact .inl h
        · exact absurd h e2
        · exact .inr h
        · exact absurd h e1
      · rintro (h | h)
        · exact .inl (.inl h)
        · exact .inr (.inl h)
end Go.Proofs.Ytfiknbdpjnpkdaa.Me
