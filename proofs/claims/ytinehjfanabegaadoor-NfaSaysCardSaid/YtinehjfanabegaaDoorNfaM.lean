/- Plain mathematics of nfa: ways, sets of states, the subset construction. -/
import Derived.Test.YtinehjfanabegaaDoorSmallM
namespace Go.Proofs.YtinehjfanabegaaDoor.Nf
open Go.Proofs.YtinehjfanabegaaDoor.Df Go.Proofs.YtinehjfanabegaaDoor.Wo Go.Proofs.YtinehjfanabegaaDoor.Rc Go.Proofs.YtinehjfanabegaaDoor.Sm

structure Nfa where
  L : Int
  n : Int
  st : List Int
  mv : List (Int × Int × Int)
  fin : List Int
def isQ (a : Nfa) (x : Int) : Prop := 0 ≤ x ∧ x < a.n
instance (a : Nfa) (x : Int) : Decidable (isQ a x) := inferInstanceAs (Decidable (0 ≤ x ∧ x < a.n))
def isMv (a : Nfa) (m : Int × Int × Int) : Prop := isQ a m.1 ∧ isQ a m.2.2 ∧ -1 ≤ m.2.1 ∧ m.2.1 < a.L
instance (a : Nfa) (m : Int × Int × Int) : Decidable (isMv a m) := inferInstanceAs (Decidable (isQ a m.1 ∧ isQ a m.2.2 ∧ -1 ≤ m.2.1 ∧ m.2.1 < a.L))
/-- What is wrong. -/
def nchk (a : Nfa) : Nat :=
  if (a.L < 1 ∨ 6 < a.L) ∨ (a.n < 1 ∨ 40 < a.n) then 1 else if (40 < a.st.length ∨ 40 < a.fin.length) ∨ 240 < a.mv.length then 4
  else if (∀ x ∈ a.st, isQ a x) ∧ (∀ x ∈ a.fin, isQ a x) ∧ ∀ m ∈ a.mv, isMv a m then 0 else 1
structure Good (a : Nfa) : Prop where
  l1 : 1 ≤ a.L
  l6 : a.L ≤ 6
  n1 : 1 ≤ a.n
  n40 : a.n ≤ 40
  s40 : a.st.length ≤ 40
  f40 : a.fin.length ≤ 40
  m240 : a.mv.length ≤ 240
  st : ∀ x ∈ a.st, isQ a x
  fin : ∀ x ∈ a.fin, isQ a x
  mv : ∀ m ∈ a.mv, isMv a m
theorem nchk_iff {a : Nfa} : nchk a = 0 ↔ Good a := by
  unfold nchk
  constructor
  · intro h
    split at h
    · cases h
    · rename_i h1
      split at h
      · cases h
      · rename_i h2
        split at h
        · rename_i h3
          exact ⟨by omega, by omega, by omega, by omega, by omega, by omega, by omega, h3.1, h3.2.1, h3.2.2⟩
        · cases h
  · intro g
    have := g.l1; have := g.l6; have := g.n1; have := g.n40; have := g.s40; have := g.f40; have := g.m240
    rw [if_neg (by omega), if_neg (by omega), if_pos ⟨g.st, g.fin, g.mv⟩]

/-! ### ways -/
/-- Reading a word can lead from s there. -/
inductive Way (a : Nfa) (s : Nat) : List Int → Nat → Prop
  | nil : Way a s [] s
  | eps {w : List Int} {t u : Nat} : Way a s w t → ((t : Int), -1, (u : Int)) ∈ a.mv → Way a s w u
  | one {w : List Int} {t u : Nat} {c : Int} : Way a s w t → ((t : Int), c, (u : Int)) ∈ a.mv → 0 ≤ c → Way a s (w ++ [c]) u
theorem Way.eps_head {a : Nfa} {s u t : Nat} {w : List Int} (hm : ((s : Int), -1, (u : Int)) ∈ a.mv) (h : Way a u w t) : Way a s w t := by
  induction h with
  | nil => exact .eps .nil hm
  | eps _ h2 ih => exact .eps ih h2
  | one _ h2 h3 ih => exact .one ih h2 h3
theorem Way.one_head {a : Nfa} {s u t : Nat} {c : Int} {w : List Int} (hm : ((s : Int), c, (u : Int)) ∈ a.mv) (hc : 0 ≤ c) (h : Way a u w t) : Way a s (c :: w) t := by
  induction h with
  | nil => exact .one (w := []) .nil hm hc
  | eps _ h2 ih => exact .eps ih h2
  | one _ h2 h3 ih => exact .one (w := c :: _) ih h2 h3
theorem Way.snoc {a : Nfa} {s t : Nat} {v : List Int} (h : Way a s v t) : ∀ {w : List Int} {c : Int}, v = w ++ [c] → ∃ u z : Nat, Way a s w u ∧ ((u : Int), c, (z : Int)) ∈ a.mv ∧ 0 ≤ c ∧ Way a z [] t := by
  induction h with
  | nil => intro w c e; simp at e
  | eps _ h2 ih =>
    intro w c e
    obtain ⟨u, z, p1, p2, p3, p4⟩ := ih e
    exact ⟨u, z, p1, p2, p3, .eps p4 h2⟩
  | one h1 h2 h3 _ =>
    intro w c e
    obtain ⟨e1, e2⟩ := List.append_inj' e rfl
    obtain rfl := e1
    obtain rfl : _ = c := by simpa using e2
    exact ⟨_, _, h1, h2, h3, .nil⟩
theorem Way.then_eps {a : Nfa} {s u t : Nat} {w v : List Int} (h : Way a s w u) (h2 : Way a u v t) : Way a s (w ++ v) t := by
  induction h2 with
  | nil => rw [List.append_nil]; exact h
  | eps _ h2 ih => exact .eps ih h2
  | one _ h2 h3 ih => rw [← List.append_assoc]; exact .one ih h2 h3

/-! ### sets of states -/
def epsS (a : Nfa) (q : Nat) : List Nat := (a.mv.filter fun m => decide (m.1 = (q : Int)) && decide (m.2.1 = -1)).map fun m => m.2.2.toNat
theorem mem_epsS {a : Nfa} (g : Good a) {q u : Nat} : u ∈ epsS a q ↔ ((q : Int), -1, (u : Int)) ∈ a.mv := by
  unfold epsS
  rw [List.mem_map]
  constructor
  · rintro ⟨⟨x, c, y⟩, hm, e⟩
    obtain ⟨h1, h2⟩ := List.mem_filter.1 hm
    have h3 := (g.mv _ h1).2.1.1
    simp only [Bool.and_eq_true, decide_eq_true_eq] at h2 h3 e
    obtain ⟨rfl, rfl⟩ := h2
    have : (u : Int) = y := by omega
    rw [this]; exact h1
  · intro h
    exact ⟨_, List.mem_filter.2 ⟨h, by simp⟩, by simp⟩
theorem eps_lt {a : Nfa} (g : Good a) {q u : Nat} (h : u ∈ epsS a q) : u < a.n.toNat := by
  have := (g.mv _ ((mem_epsS g).1 h)).2.1
  have h1 := this.1; have h2 := this.2
  simp only at h1 h2
  omega
theorem rchE_lt {a : Nfa} (g : Good a) {s t : Nat} (hs : s < a.n.toNat) (h : Rch (epsS a) s t) : t < a.n.toNat := by
  cases h with
  | base => exact hs
  | next _ ht => exact eps_lt g ht
theorem foundE {a : Nfa} (g : Good a) {s : Nat} (hs : s < a.n.toNat) : ∃ l, found (epsS a) s = some l := by
  rcases found_cases (epsS a) s with ⟨m, h, _⟩ | ⟨_, m, h1, h2, h3⟩
  · exact ⟨m, h⟩
  · have := nodup_le_of h1 id (fun x _ y _ e => e) (fun x hx => rchE_lt g hs (h3 x hx))
    have := g.n40
    omega
def eset (a : Nfa) (s : Nat) : List Nat := (found (epsS a) s).getD []
theorem mem_eset {a : Nfa} (g : Good a) {s t : Nat} (hs : s < a.n.toNat) : t ∈ eset a s ↔ Rch (epsS a) s t := by
  obtain ⟨l, hl⟩ := foundE g hs
  unfold eset
  rw [hl]
  exact (found_whole hl).mem_iff
theorem way_eps {a : Nfa} (g : Good a) {s t : Nat} : Way a s [] t ↔ Rch (epsS a) s t := by
  constructor
  · have key : ∀ {w t}, Way a s w t → w = [] → Rch (epsS a) s t := by
      intro w t h
      induction h with
      | nil => intro _; exact .base
      | eps _ h2 ih => intro e; exact .next (ih e) ((mem_epsS g).2 h2)
      | one _ _ _ => intro e; simp at e
    intro h
    exact key h rfl
  · intro h
    induction h with
    | base => exact .nil
    | next _ ht ih => exact .eps ih ((mem_epsS g).1 ht)
/-- A set, in the order of its states. -/
def setQ (a : Nfa) (p : Nat → Bool) : List Nat := (List.range a.n.toNat).filter p
theorem mem_setQ {a : Nfa} {p : Nat → Bool} {t : Nat} : t ∈ setQ a p ↔ t < a.n.toNat ∧ p t = true := by
  unfold setQ; rw [List.mem_filter, List.mem_range]
theorem setQ_ext {a : Nfa} {p q : Nat → Bool} (h : ∀ t, t < a.n.toNat → (p t = true ↔ q t = true)) : setQ a p = setQ a q := by
  refine List.filter_congr fun t ht => ?_
  exact Bool.eq_iff_iff.2 (h t (List.mem_range.1 ht))
def clo (a : Nfa) (X : List Nat) : List Nat := setQ a fun t => X.any fun s => decide (t ∈ eset a s)
theorem mem_clo {a : Nfa} (g : Good a) {X : List Nat} (hX : ∀ s ∈ X, s < a.n.toNat) {t : Nat} : t ∈ clo a X ↔ ∃ s ∈ X, Way a s [] t := by
  unfold clo
  rw [mem_setQ, List.any_eq_true]
  constructor
  · rintro ⟨_, s, hs, h⟩
    exact ⟨s, hs, (way_eps g).2 ((mem_eset g (hX s hs)).1 (of_decide_eq_true h))⟩
  · rintro ⟨s, hs, h⟩
    have h' := (way_eps g).1 h
    exact ⟨rchE_lt g (hX s hs) h', s, hs, decide_eq_true ((mem_eset g (hX s hs)).2 h')⟩
def to (a : Nfa) (X : List Nat) (c : Int) : List Nat := (a.mv.filter fun m => decide (m.2.1 = c) && decide (m.1.toNat ∈ X)).map fun m => m.2.2.toNat
theorem mem_to {a : Nfa} (g : Good a) {X : List Nat} {c : Int} {t : Nat} : t ∈ to a X c ↔ ∃ s ∈ X, ((s : Int), c, (t : Int)) ∈ a.mv := by
  unfold to
  rw [List.mem_map]
  constructor
  · rintro ⟨⟨x, d, y⟩, hm, e⟩
    obtain ⟨h1, h2⟩ := List.mem_filter.1 hm
    have h3 := (g.mv _ h1).2.1.1
    have h4 := (g.mv _ h1).1.1
    simp only [Bool.and_eq_true, decide_eq_true_eq] at h2 h3 h4 e
    obtain ⟨rfl, h5⟩ := h2
    have e1 : (t : Int) = y := by omega
    have e2 : ((x.toNat : Nat) : Int) = x := by omega
    exact ⟨x.toNat, h5, by rw [e1, e2]; exact h1⟩
  · rintro ⟨s, hs, h⟩
    exact ⟨_, List.mem_filter.2 ⟨h, by simpa using hs⟩, by simp⟩
theorem to_lt {a : Nfa} (g : Good a) {X : List Nat} {c : Int} {t : Nat} (h : t ∈ to a X c) : t < a.n.toNat := by
  obtain ⟨s, _, h⟩ := (mem_to g).1 h
  have := (g.mv _ h).2.1
  have h1 := this.1; have h2 := this.2
  simp only at h1 h2
  omega
def goN (a : Nfa) (X : List Nat) (c : Int) : List Nat := clo a (to a X c)
def beg (a : Nfa) : List Nat := clo a (a.st.map Int.toNat)
def runN (a : Nfa) (X : List Nat) (w : List Int) : List Nat := w.foldl (goN a) X
def finN (a : Nfa) (X : List Nat) : Bool := X.any fun t => decide ((t : Int) ∈ a.fin)
def accN (a : Nfa) (w : List Int) : Bool := finN a (runN a (beg a) w)
theorem st_lt {a : Nfa} (g : Good a) {s : Nat} (h : s ∈ a.st.map Int.toNat) : s < a.n.toNat := by
  obtain ⟨x, hx, rfl⟩ := List.mem_map.1 h
  have := g.st x hx
  have h1 := this.1; have h2 := this.2
  omega
theorem mem_st {a : Nfa} (g : Good a) {s : Nat} : s ∈ a.st.map Int.toNat ↔ (s : Int) ∈ a.st := by
  rw [List.mem_map]
  constructor
  · rintro ⟨x, hx, rfl⟩
    have := (g.st x hx).1
    rw [Int.toNat_of_nonneg this]; exact hx
  · intro h; exact ⟨_, h, by simp⟩
/-- The state that is reached by a word in many ways: all at once. -/
theorem mem_run {a : Nfa} (g : Good a) {w : List Int} (hw : ∀ c ∈ w, 0 ≤ c) : ∀ {t : Nat}, t ∈ runN a (beg a) w ↔ ∃ s : Nat, (s : Int) ∈ a.st ∧ Way a s w t := by
  have key : ∀ (n : Nat) (w : List Int), w.length = n → (∀ c ∈ w, 0 ≤ c) → ∀ {t : Nat}, t ∈ runN a (beg a) w ↔ ∃ s : Nat, (s : Int) ∈ a.st ∧ Way a s w t := by
    intro n
    induction n with
    | zero =>
      intro w hl _ t
      obtain rfl := List.eq_nil_of_length_eq_zero hl
      show t ∈ clo a (a.st.map Int.toNat) ↔ _
      rw [mem_clo g fun s hs => st_lt g hs]
      constructor
      · rintro ⟨s, hs, h⟩; exact ⟨s, (mem_st g).1 hs, h⟩
      · rintro ⟨s, hs, h⟩; exact ⟨s, (mem_st g).2 hs, h⟩
    | succ n ih =>
      intro w hl hw t
      have hne : w ≠ [] := fun e => by rw [e] at hl; simp at hl
      obtain ⟨v, c, rfl⟩ : ∃ v c, w = v ++ [c] := ⟨w.dropLast, w.getLast hne, (List.dropLast_concat_getLast hne).symm⟩
      have hl' : v.length = n := by simpa using hl
      have hv : ∀ c ∈ v, 0 ≤ c := fun e he => hw e (List.mem_append_left _ he)
      have hc : 0 ≤ c := hw c (by simp)
      have e : runN a (beg a) (v ++ [c]) = goN a (runN a (beg a) v) c := by unfold runN; rw [List.foldl_append]; rfl
      rw [e]
      unfold goN
      rw [mem_clo g fun s hs => to_lt g hs]
      constructor
      · rintro ⟨z, hz, h⟩
        obtain ⟨u, hu, hm⟩ := (mem_to g).1 hz
        obtain ⟨s, hs, h2⟩ := (ih v hl' hv).1 hu
        refine ⟨s, hs, ?_⟩
        have := (Way.one h2 hm hc).then_eps h
        rwa [List.append_nil] at this
      · rintro ⟨s, hs, h⟩
        obtain ⟨u, z, p1, p2, _, p4⟩ := h.snoc rfl
        exact ⟨z, (mem_to g).2 ⟨u, (ih v hl' hv).2 ⟨s, hs, p1⟩, p2⟩, p4⟩
  intro t
  exact key w.length w rfl hw
theorem accN_iff {a : Nfa} (g : Good a) {w : List Int} (hw : ∀ c ∈ w, 0 ≤ c) : accN a w = true ↔ ∃ s t : Nat, (s : Int) ∈ a.st ∧ Way a s w t ∧ (t : Int) ∈ a.fin := by
  unfold accN finN
  rw [List.any_eq_true]
  constructor
  · rintro ⟨t, ht, h⟩
    obtain ⟨s, hs, h2⟩ := (mem_run g hw).1 ht
    exact ⟨s, t, hs, h2, of_decide_eq_true h⟩
  · rintro ⟨s, t, hs, h, ht⟩
    exact ⟨t, (mem_run g hw).2 ⟨s, hs, h⟩, decide_eq_true ht⟩

/-! ### one state at a time -/
def T (a : Nfa) (X : List Nat) : List (List Nat) := (List.range a.L.toNat).map fun (c : Nat) => goN a X (c : Int)
theorem T_len {a : Nfa} (g : Good a) (X : List Nat) : ((T a X).length : Int) = a.L := by
  have := g.l1
  unfold T
  rw [List.length_map, List.length_range]; omega
def makeA (a : Nfa) (l : List (List Nat)) : Aut := autOf a.L (T a) l (finN a)
theorem viaN {a : Nfa} {w : List Int} (hw : Word a.L w) (X : List Nat) : viaAll (T a) X w = runN a X w := by
  induction w generalizing X with
  | nil => rfl
  | cons c w ih =>
    have hc := hw c List.mem_cons_self
    show viaAll _ (via _ _ _) w = runN a (goN a X c) w
    have e : via (T a) X c.toNat = goN a X c := by
      unfold via T
      rw [List.getElem?_map, List.getElem?_range (by omega)]
      show goN a X ((c.toNat : Nat) : Int) = _
      rw [Int.toNat_of_nonneg hc.1]
    rw [e, ih fun d hd => hw d (List.mem_cons_of_mem _ hd)]
theorem make_good {a : Nfa} (g : Good a) {l : List (List Nat)} (hl : found (T a) (beg a) = some l) : Df.Good (makeA a l) := autOf_good (found_whole hl) g.l1 g.l6 fun x _ => T_len g x
/-- Rabin, Scott. -/
theorem make_acc {a : Nfa} (g : Good a) {l : List (List Nat)} (hl : found (T a) (beg a) = some l) {w : List Int} (hw : Word a.L w) : accA (makeA a l) w = accN a w := by
  unfold makeA
  rw [autOf_acc (found_whole hl) (fun x _ => T_len g x) hw, viaN hw]; rfl
end Go.Proofs.YtinehjfanabegaaDoor.Nf
