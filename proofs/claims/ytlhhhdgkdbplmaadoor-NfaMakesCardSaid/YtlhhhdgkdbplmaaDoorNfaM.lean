/- Plain mathematics of nfa: ways, sets of states, the subset construction. Plain mathematics of nfa: mirrors; automata seen so; Brzozowski. Plain mathematics of nfa: what moves by no letter lead to, by passes over the moves. Sets of states as the bits of one number, and as rows of bools; what is found is found alike under another name, or not at all; what the subset construction gives. -/
import Derived.Test.YtlhhhdgkdbplmaaDoorSmallM

namespace Go.Proofs.YtlhhhdgkdbplmaaDoor.Nf
open Go.Proofs.YtlhhhdgkdbplmaaDoor.Df Go.Proofs.YtlhhhdgkdbplmaaDoor.Wo Go.Proofs.YtlhhhdgkdbplmaaDoor.Rc Go.Proofs.YtlhhhdgkdbplmaaDoor.Sm

structure Nfa where
  L : Int
  n : Int
  st : List Int
  mv : List (Int × Int × Int)
  fin : List Int
def isQ (a : Nfa) (x : Int) : Prop := 0 ≤ x ∧ x < a.n
instance (a : Nfa) (x : Int) : Decidable (isQ a x) := inferInstanceAs (Decidable (0 ≤ x ∧ x < a.n))
def isMv (a : Nfa) (m : Int × Int × Int) : Prop := isQ a m.1 ∧ isQ a m.2.2 ∧ -1 ≤ m.2.1 ∧ m.2.1 < a.L
instance (a : Nfa) (m : Int × Int × Int) : Decidable (isMv a m) := inferInstanceAs (Decidable (isQ a m.1 ∧ isQ a m.2.2 ∧ -1 ≤ m.2.1 ∧ m.2.1 < a.L))
/-- What is wrong. -/
def nchk (a : Nfa) : Nat :=
  if (a.L < 1 ∨ 6 < a.L) ∨ (a.n < 1 ∨ 40 < a.n) then 1 else if (40 < a.st.length ∨ 40 < a.fin.length) ∨ 240 < a.mv.length then 4
  else if (∀ x ∈ a.st, isQ a x) ∧ (∀ x ∈ a.fin, isQ a x) ∧ ∀ m ∈ a.mv, isMv a m then 0 else 1
structure Good (a : Nfa) : Prop where
  l1 : 1 ≤ a.L
  l6 : a.L ≤ 6
  n1 : 1 ≤ a.n
  n40 : a.n ≤ 40
  s40 : a.st.length ≤ 40
  f40 : a.fin.length ≤ 40
  m240 : a.mv.length ≤ 240
  st : ∀ x ∈ a.st, isQ a x
  fin : ∀ x ∈ a.fin, isQ a x
  mv : ∀ m ∈ a.mv, isMv a m
theorem nchk_iff {a : Nfa} : nchk a = 0 ↔ Good a := by
  unfold nchk
  constructor
  · intro h
    split at h
    · cases h
    · rename_i h1
      split at h
      · cases h
      · rename_i h2
        split at h
        · rename_i h3
          exact ⟨by omega, by omega, by omega, by omega, by omega, by omega, by omega, h3.1, h3.2.1, h3.2.2⟩
        · cases h
  · intro g
    have := g.l1; have := g.l6; have := g.n1; have := g.n40; have := g.s40; have := g.f40; have := g.m240
    rw [if_neg (by omega), if_neg (by omega), if_pos ⟨g.st, g.fin, g.mv⟩]

/-! ### ways -/
/-- Reading a word can lead from s there. -/
inductive Way (a : Nfa) (s : Nat) : List Int → Nat → Prop
  | nil : Way a s [] s
  | eps {w : List Int} {t u : Nat} : Way a s w t → ((t : Int), -1, (u : Int)) ∈ a.mv → Way a s w u
  | one {w : List Int} {t u : Nat} {c : Int} : Way a s w t → ((t : Int), c, (u : Int)) ∈ a.mv → 0 ≤ c → Way a s (w ++ [c]) u
theorem Way.eps_head {a : Nfa} {s u t : Nat} {w : List Int} (hm : ((s : Int), -1, (u : Int)) ∈ a.mv) (h : Way a u w t) : Way a s w t := by
  induction h with
  | nil => exact .eps .nil hm
  | eps _ h2 ih => exact .eps ih h2
  | one _ h2 h3 ih => exact .one ih h2 h3
theorem Way.one_head {a : Nfa} {s u t : Nat} {c : Int} {w : List Int} (hm : ((s : Int), c, (u : Int)) ∈ a.mv) (hc : 0 ≤ c) (h : Way a u w t) : Way a s (c :: w) t := by
  induction h with
  | nil => exact .one (w := []) .nil hm hc
  | eps _ h2 ih => exact .eps ih h2
  | one _ h2 h3 ih => exact .one (w := c :: _) ih h2 h3
theorem Way.snoc {a : Nfa} {s t : Nat} {v : List Int} (h : Way a s v t) : ∀ {w : List Int} {c : Int}, v = w ++ [c] → ∃ u z : Nat, Way a s w u ∧ ((u : Int), c, (z : Int)) ∈ a.mv ∧ 0 ≤ c ∧ Way a z [] t := by
  induction h with
  | nil => intro w c e; simp at e
  | eps _ h2 ih =>
    intro w c e
    obtain ⟨u, z, p1, p2, p3, p4⟩ := ih e
    exact ⟨u, z, p1, p2, p3, .eps p4 h2⟩
  | one h1 h2 h3 _ =>
    intro w c e
    obtain ⟨e1, e2⟩ := List.append_inj' e rfl
    obtain rfl := e1
    obtain rfl : _ = c := by simpa using e2
    exact ⟨_, _, h1, h2, h3, .nil⟩
theorem Way.then_eps {a : Nfa} {s u t : Nat} {w v : List Int} (h : Way a s w u) (h2 : Way a u v t) : Way a s (w ++ v) t := by
  induction h2 with
  | nil => rw [List.append_nil]; exact h
  | eps _ h2 ih => exact .eps ih h2
  | one _ h2 h3 ih => rw [← List.append_assoc]; exact .one ih h2 h3

/-! ### sets of states -/
def epsS (a : Nfa) (q : Nat) : List Nat := (a.mv.filter fun m => decide (m.1 = (q : Int)) && decide (m.2.1 = -1)).map fun m => m.2.2.toNat
theorem mem_epsS {a : Nfa} (g : Good a) {q u : Nat} : u ∈ epsS a q ↔ ((q : Int), -1, (u : Int)) ∈ a.mv := by
  unfold epsS
  rw [List.mem_map]
  constructor
  · rintro ⟨⟨x, c, y⟩, hm, e⟩
    obtain ⟨h1, h2⟩ := List.mem_filter.1 hm
    have h3 := (g.mv _ h1).2.1.1
    simp only [Bool.and_eq_true, decide_eq_true_eq] at h2 h3 e
    obtain ⟨rfl, rfl⟩ := h2
    have : (u : Int) = y := by omega
    rw [this]; exact h1
  · intro h
    exact ⟨_, List.mem_filter.2 ⟨h, by simp⟩, by simp⟩
theorem eps_lt {a : Nfa} (g : Good a) {q u : Nat} (h : u ∈ epsS a q) : u < a.n.toNat := by
  have := (g.mv _ ((mem_epsS g).1 h)).2.1
  have h1 := this.1; have h2 := this.2
  simp only at h1 h2
  omega
theorem rchE_lt {a : Nfa} (g : Good a) {s t : Nat} (hs : s < a.n.toNat) (h : Rch (epsS a) s t) : t < a.n.toNat := by
  cases h with
  | base => exact hs
  | next _ ht => exact eps_lt g ht
theorem foundE {a : Nfa} (g : Good a) {s : Nat} (hs : s < a.n.toNat) : ∃ l, found (epsS a) s = some l := by
  rcases found_cases (epsS a) s with ⟨m, h, _⟩ | ⟨_, m, h1, h2, h3⟩
  · exact ⟨m, h⟩
  · have := nodup_le_of h1 id (fun x _ y _ e => e) (fun x hx => rchE_lt g hs (h3 x hx))
    have := g.n40
    omega
def eset (a : Nfa) (s : Nat) : List Nat := (found (epsS a) s).getD []
theorem mem_eset {a : Nfa} (g : Good a) {s t : Nat} (hs : s < a.n.toNat) : t ∈ eset a s ↔ Rch (epsS a) s t := by
  obtain ⟨l, hl⟩ := foundE g hs
  unfold eset
  rw [hl]
  exact (found_whole hl).mem_iff
theorem way_eps {a : Nfa} (g : Good a) {s t : Nat} : Way a s [] t ↔ Rch (epsS a) s t := by
  constructor
  · have key : ∀ {w t}, Way a s w t → w = [] → Rch (epsS a) s t := by
      intro w t h
      induction h with
      | nil => intro _; exact .base
      | eps _ h2 ih => intro e; exact .next (ih e) ((mem_epsS g).2 h2)
      | one _ _ _ => intro e; simp at e
    intro h
    exact key h rfl
  · intro h
    induction h with
    | base => exact .nil
    | next _ ht ih => exact .eps ih ((mem_epsS g).1 ht)
/-- A set, in the order of its states. -/
def setQ (a : Nfa) (p : Nat → Bool) : List Nat := (List.range a.n.toNat).filter p
theorem mem_setQ {a : Nfa} {p : Nat → Bool} {t : Nat} : t ∈ setQ a p ↔ t < a.n.toNat ∧ p t = true := by
  unfold setQ; rw [List.mem_filter, List.mem_range]
theorem setQ_ext {a : Nfa} {p q : Nat → Bool} (h : ∀ t, t < a.n.toNat → (p t = true ↔ q t = true)) : setQ a p = setQ a q := by
  refine List.filter_congr fun t ht => ?_
  exact Bool.eq_iff_iff.2 (h t (List.mem_range.1 ht))
def clo (a : Nfa) (X : List Nat) : List Nat := setQ a fun t => X.any fun s => decide (t ∈ eset a s)
theorem mem_clo {a : Nfa} (g : Good a) {X : List Nat} (hX : ∀ s ∈ X, s < a.n.toNat) {t : Nat} : t ∈ clo a X ↔ ∃ s ∈ X, Way a s [] t := by
  unfold clo
  rw [mem_setQ, List.any_eq_true]
  constructor
  · rintro ⟨_, s, hs, h⟩
    exact ⟨s, hs, (way_eps g).2 ((mem_eset g (hX s hs)).1 (of_decide_eq_true h))⟩
  · rintro ⟨s, hs, h⟩
    have h' := (way_eps g).1 h
    exact ⟨rchE_lt g (hX s hs) h', s, hs, decide_eq_true ((mem_eset g (hX s hs)).2 h')⟩
def to (a : Nfa) (X : List Nat) (c : Int) : List Nat := (a.mv.filter fun m => decide (m.2.1 = c) && decide (m.1.toNat ∈ X)).map fun m => m.2.2.toNat
theorem mem_to {a : Nfa} (g : Good a) {X : List Nat} {c : Int} {t : Nat} : t ∈ to a X c ↔ ∃ s ∈ X, ((s : Int), c, (t : Int)) ∈ a.mv := by
  unfold to
  rw [List.mem_map]
  constructor
  · rintro ⟨⟨x, d, y⟩, hm, e⟩
    obtain ⟨h1, h2⟩ := List.mem_filter.1 hm
    have h3 := (g.mv _ h1).2.1.1
    have h4 := (g.mv _ h1).1.1
    simp only [Bool.and_eq_true, decide_eq_true_eq] at h2 h3 h4 e
    obtain ⟨rfl, h5⟩ := h2
    have e1 : (t : Int) = y := by omega
    have e2 : ((x.toNat : Nat) : Int) = x := by omega
    exact ⟨x.toNat, h5, by rw [e1, e2]; exact h1⟩
  · rintro ⟨s, hs, h⟩
    exact ⟨_, List.mem_filter.2 ⟨h, by simpa using hs⟩, by simp⟩
theorem to_lt {a : Nfa} (g : Good a) {X : List Nat} {c : Int} {t : Nat} (h : t ∈ to a X c) : t < a.n.toNat := by
  obtain ⟨s, _, h⟩ := (mem_to g).1 h
  have := (g.mv _ h).2.1
  have h1 := this.1; have h2 := this.2
  simp only at h1 h2
  omega
def goN (a : Nfa) (X : List Nat) (c : Int) : List Nat := clo a (to a X c)
def beg (a : Nfa) : List Nat := clo a (a.st.map Int.toNat)
def runN (a : Nfa) (X : List Nat) (w : List Int) : List Nat := w.foldl (goN a) X
def finN (a : Nfa) (X : List Nat) : Bool := X.any fun t => decide ((t : Int) ∈ a.fin)
def accN (a : Nfa) (w : List Int) : Bool := finN a (runN a (beg a) w)
theorem st_lt {a : Nfa} (g : Good a) {s : Nat} (h : s ∈ a.st.map Int.toNat) : s < a.n.toNat := by
  obtain ⟨x, hx, rfl⟩ := List.mem_map.1 h
  have := g.st x hx
  have h1 := this.1; have h2 := this.2
  omega
theorem mem_st {a : Nfa} (g : Good a) {s : Nat} : s ∈ a.st.map Int.toNat ↔ (s : Int) ∈ a.st := by
  rw [List.mem_map]
  constructor
  · rintro ⟨x, hx, rfl⟩
    have := (g.st x hx).1
    rw [Int.toNat_of_nonneg this]; exact hx
  · intro h; exact ⟨_, h, by simp⟩
/-- The state that is reached by a word in many ways: all at once. -/
theorem mem_run {a : Nfa} (g : Good a) {w : List Int} (hw : ∀ c ∈ w, 0 ≤ c) : ∀ {t : Nat}, t ∈ runN a (beg a) w ↔ ∃ s : Nat, (s : Int) ∈ a.st ∧ Way a s w t := by
  have key : ∀ (n : Nat) (w : List Int), w.length = n → (∀ c ∈ w, 0 ≤ c) → ∀ {t : Nat}, t ∈ runN a (beg a) w ↔ ∃ s : Nat, (s : Int) ∈ a.st ∧ Way a s w t := by
    intro n
    induction n with
    | zero =>
      intro w hl _ t
      obtain rfl := List.eq_nil_of_length_eq_zero hl
      show t ∈ clo a (a.st.map Int.toNat) ↔ _
      rw [mem_clo g fun s hs => st_lt g hs]
      constructor
      · rintro ⟨s, hs, h⟩; exact ⟨s, (mem_st g).1 hs, h⟩
      · rintro ⟨s, hs, h⟩; exact ⟨s, (mem_st g).2 hs, h⟩
    | succ n ih =>
      intro w hl hw t
      have hne : w ≠ [] := fun e => by rw [e] at hl; simp at hl
      obtain ⟨v, c, rfl⟩ : ∃ v c, w = v ++ [c] := ⟨w.dropLast, w.getLast hne, (List.dropLast_concat_getLast hne).symm⟩
      have hl' : v.length = n := by simpa using hl
      have hv : ∀ c ∈ v, 0 ≤ c := fun e he => hw e (List.mem_append_left _ he)
      have hc : 0 ≤ c := hw c (by simp)
      have e : runN a (beg a) (v ++ [c]) = goN a (runN a (beg a) v) c := by unfold runN; rw [List.foldl_append]; rfl
      rw [e]
      unfold goN
      rw [mem_clo g fun s hs => to_lt g hs]
      constructor
      · rintro ⟨z, hz, h⟩
        obtain ⟨u, hu, hm⟩ := (mem_to g).1 hz
        obtain ⟨s, hs, h2⟩ := (ih v hl' hv).1 hu
        refine ⟨s, hs, ?_⟩
        have := (Way.one h2 hm hc).then_eps h
        rwa [List.append_nil] at this
      · rintro ⟨s, hs, h⟩
        obtain ⟨u, z, p1, p2, _, p4⟩ := h.snoc rfl
        exact ⟨z, (mem_to g).2 ⟨u, (ih v hl' hv).2 ⟨s, hs, p1⟩, p2⟩, p4⟩
  intro t
  exact key w.length w rfl hw
theorem accN_iff {a : Nfa} (g : Good a) {w : List Int} (hw : ∀ c ∈ w, 0 ≤ c) : accN a w = true ↔ ∃ s t : Nat, (s : Int) ∈ a.st ∧ Way a s w t ∧ (t : Int) ∈ a.fin := by
  unfold accN finN
  rw [List.any_eq_true]
  constructor
  · rintro ⟨t, ht, h⟩
    obtain ⟨s, hs, h2⟩ := (mem_run g hw).1 ht
    exact ⟨s, t, hs, h2, of_decide_eq_true h⟩
  · rintro ⟨s, t, hs, h, ht⟩
    exact ⟨t, (mem_run g hw).2 ⟨s, hs, h⟩, decide_eq_true ht⟩

/-! ### one state at a time -/
def T (a : Nfa) (X : List Nat) : List (List Nat) := (List.range a.L.toNat).map fun (c : Nat) => goN a X (c : Int)
theorem T_len {a : Nfa} (g : Good a) (X : List Nat) : ((T a X).length : Int) = a.L := by
  have := g.l1
  unfold T
  rw [List.length_map, List.length_range]; omega
def makeA (a : Nfa) (l : List (List Nat)) : Aut := autOf a.L (T a) l (finN a)
theorem viaN {a : Nfa} {w : List Int} (hw : Word a.L w) (X : List Nat) : viaAll (T a) X w = runN a X w := by
  induction w generalizing X with
  | nil => rfl
  | cons c w ih =>
    have hc := hw c List.mem_cons_self
    show viaAll _ (via _ _ _) w = runN a (goN a X c) w
    have e : via (T a) X c.toNat = goN a X c := by
      unfold via T
      rw [List.getElem?_map, List.getElem?_range (by omega)]
      show goN a X ((c.toNat : Nat) : Int) = _
      rw [Int.toNat_of_nonneg hc.1]
    rw [e, ih fun d hd => hw d (List.mem_cons_of_mem _ hd)]
theorem make_good {a : Nfa} (g : Good a) {l : List (List Nat)} (hl : found (T a) (beg a) = some l) : Df.Good (makeA a l) := autOf_good (found_whole hl) g.l1 g.l6 fun x _ => T_len g x
/-- Rabin, Scott. -/
theorem make_acc {a : Nfa} (g : Good a) {l : List (List Nat)} (hl : found (T a) (beg a) = some l) {w : List Int} (hw : Word a.L w) : accA (makeA a l) w = accN a w := by
  unfold makeA
  rw [autOf_acc (found_whole hl) (fun x _ => T_len g x) hw, viaN hw]; rfl
end Go.Proofs.YtlhhhdgkdbplmaaDoor.Nf

namespace Go.Proofs.YtlhhhdgkdbplmaaDoor.Nf
open Go.Proofs.YtlhhhdgkdbplmaaDoor.Df Go.Proofs.YtlhhhdgkdbplmaaDoor.Wo Go.Proofs.YtlhhhdgkdbplmaaDoor.Rc Go.Proofs.YtlhhhdgkdbplmaaDoor.Sm

/-! ### mirrors -/
def turn (m : Int × Int × Int) : Int × Int × Int := (m.2.2, m.2.1, m.1)
def mir (a : Nfa) : Nfa := ⟨a.L, a.n, a.fin, a.mv.map turn, a.st⟩
theorem mir_mir (a : Nfa) : mir (mir a) = a := by
  unfold mir
  simp only [List.map_map]
  have : a.mv.map (turn ∘ turn) = a.mv := by
    conv => rhs; rw [← List.map_id a.mv]
    rfl
  rw [this]
theorem mem_mir {a : Nfa} {x c y : Int} : (x, c, y) ∈ (mir a).mv ↔ (y, c, x) ∈ a.mv := by
  show (x, c, y) ∈ a.mv.map turn ↔ _
  rw [List.mem_map]
  constructor
  · rintro ⟨⟨p, q, r⟩, hm, e⟩
    have e : (r, q, p) = (x, c, y) := e
    obtain ⟨rfl, e2⟩ := Prod.mk.inj e
    obtain ⟨rfl, rfl⟩ := Prod.mk.inj e2
    exact hm
  · intro h; exact ⟨_, h, rfl⟩
theorem mir_good {a : Nfa} (g : Good a) : Good (mir a) := by
  refine ⟨g.l1, g.l6, g.n1, g.n40, g.f40, g.s40, by show (a.mv.map turn).length ≤ 240; rw [List.length_map]; exact g.m240, g.fin, g.st, fun m hm => ?_⟩
  obtain ⟨m', hm', rfl⟩ := List.mem_map.1 hm
  obtain ⟨h1, h2, h3, h4⟩ := g.mv m' hm'
  exact ⟨h2, h1, h3, h4⟩
theorem way_mir1 {a : Nfa} {s t : Nat} {w : List Int} (h : Way a s w t) : Way (mir a) t w.reverse s := by
  induction h with
  | nil => exact .nil
  | eps _ h2 ih => exact Way.eps_head (mem_mir.2 h2) ih
  | one _ h2 h3 ih =>
    rw [List.reverse_append]
    exact Way.one_head (mem_mir.2 h2) h3 ih
theorem way_mir {a : Nfa} {s t : Nat} {w : List Int} : Way (mir a) t w.reverse s ↔ Way a s w t := by
  constructor
  · intro h
    have := way_mir1 h
    rwa [mir_mir, List.reverse_reverse] at this
  · exact way_mir1
theorem mir_acc {a : Nfa} (g : Good a) {w : List Int} (hw : ∀ c ∈ w, 0 ≤ c) : accN (mir a) w.reverse = accN a w := by
  refine Bool.eq_iff_iff.2 ?_
  rw [accN_iff (mir_good g) fun c hc => hw c (List.mem_reverse.1 hc), accN_iff g hw]
  constructor
  · rintro ⟨s, t, hs, h, ht⟩
    exact ⟨t, s, ht, way_mir.1 h, hs⟩
  · rintro ⟨s, t, hs, h, ht⟩
    exact ⟨t, s, ht, way_mir.2 h, hs⟩

/-! ### a deterministic one -/
def ofA (d : Aut) : Nfa := ⟨d.L, (d.next.length : Int), [d.s], (List.range d.next.length).flatMap fun (q : Nat) => (List.range d.L.toNat).map fun (c : Nat) => ((q : Int), (c : Int), ((step d q c : Nat) : Int)),
  ((List.range d.next.length).filter (finA d)).map fun (q : Nat) => (q : Int)⟩
theorem mem_of {d : Aut} {x c y : Int} : (x, c, y) ∈ (ofA d).mv ↔ ∃ q k : Nat, q < d.next.length ∧ (k : Int) < d.L ∧ x = q ∧ c = k ∧ y = (step d q k : Nat) := by
  show (x, c, y) ∈ (List.range d.next.length).flatMap _ ↔ _
  rw [List.mem_flatMap]
  constructor
  · rintro ⟨q, hq, h⟩
    obtain ⟨k, hk, e⟩ := List.mem_map.1 h
    obtain ⟨rfl, e2⟩ := Prod.mk.inj e
    obtain ⟨rfl, rfl⟩ := Prod.mk.inj e2
    have := List.mem_range.1 hk
    exact ⟨q, k, List.mem_range.1 hq, by omega, rfl, rfl, rfl⟩
  · rintro ⟨q, k, hq, hk, rfl, rfl, rfl⟩
    exact ⟨q, List.mem_range.2 hq, List.mem_map.2 ⟨k, List.mem_range.2 (by omega), rfl⟩⟩
theorem of_moves (d : Aut) : (ofA d).mv.length = d.next.length * d.L.toNat := by
  show ((List.range d.next.length).flatMap _).length = _
  generalize d.next.length = n
  induction n with
  | zero => simp
  | succ n ih =>
    rw [List.range_succ, List.flatMap_append, List.length_append, ih, Nat.succ_mul]
    simp
theorem mem_fin {d : Aut} {t : Nat} : (t : Int) ∈ (ofA d).fin ↔ t < d.next.length ∧ finA d t = true := by
  show (t : Int) ∈ ((List.range d.next.length).filter (finA d)).map _ ↔ _
  rw [List.mem_map]
  constructor
  · rintro ⟨q, hq, e⟩
    obtain rfl : q = t := by omega
    obtain ⟨h1, h2⟩ := List.mem_filter.1 hq
    exact ⟨List.mem_range.1 h1, h2⟩
  · rintro ⟨h1, h2⟩
    exact ⟨t, List.mem_filter.2 ⟨List.mem_range.2 h1, h2⟩, rfl⟩
theorem of_good {d : Aut} (g : Df.Good d) : Good (ofA d) := by
  have h1 := g.n1; have h2 := g.n40; have h3 := g.l6; have h4 := g.l1
  refine ⟨g.l1, g.l6, ?_, ?_, ?_, ?_, ?_, ?_, ?_, ?_⟩
  · show (1 : Int) ≤ (d.next.length : Int); omega
  · show (d.next.length : Int) ≤ 40; omega
  · show [d.s].length ≤ 40; simp
  · show (((List.range d.next.length).filter (finA d)).map fun (q : Nat) => (q : Int)).length ≤ 40
    have := List.length_filter_le (finA d) (List.range d.next.length)
    rw [List.length_range] at this
    rw [List.length_map]; omega
  · rw [of_moves]
    have : d.next.length * d.L.toNat ≤ 40 * 6 := Nat.mul_le_mul h2 (by omega)
    omega
  · intro x hx
    have : x = d.s := by simpa [ofA] using hx
    rw [this]; exact g.st
  · intro x hx
    obtain ⟨q, hq, rfl⟩ := List.mem_map.1 hx
    have := List.mem_range.1 (List.mem_filter.1 hq).1
    exact ⟨by omega, by show (q : Int) < (d.next.length : Int); omega⟩
  · rintro ⟨x, c, y⟩ hm
    obtain ⟨q, k, hq, hk, rfl, rfl, rfl⟩ := mem_of.1 hm
    have := g.step_lt hq hk
    refine ⟨⟨?_, ?_⟩, ⟨?_, ?_⟩, ?_, ?_⟩
    · show (0 : Int) ≤ (q : Int); omega
    · show (q : Int) < (d.next.length : Int); omega
    · show (0 : Int) ≤ ((step d q k : Nat) : Int); omega
    · show ((step d q k : Nat) : Int) < (d.next.length : Int); omega
    · show (-1 : Int) ≤ (k : Int); omega
    · exact hk
theorem of_way1 {d : Aut} {s t : Nat} {w : List Int} (h : Way (ofA d) s w t) : Word d.L w ∧ t = runA d s w := by
  induction h with
  | nil => exact ⟨by intro a ha; simp at ha, rfl⟩
  | eps _ h2 _ =>
    obtain ⟨q, k, _, _, _, e, _⟩ := mem_of.1 h2
    omega
  | one _ h2 _ ih =>
    obtain ⟨q, k, hq, hk, e1, rfl, e3⟩ := mem_of.1 h2
    obtain ⟨i1, i2⟩ := ih
    refine ⟨fun a ha => ?_, ?_⟩
    · rcases List.mem_append.1 ha with ha | ha
      · exact i1 a ha
      · simp at ha; subst ha; exact ⟨by omega, hk⟩
    · rw [runA_append, ← i2]
      show _ = step d _ ((k : Int)).toNat
      have e4 : ((k : Int)).toNat = k := by simp
      rw [e4]
      rename_i t' u' _ _
      have : q = t' := by omega
      subst this
      omega
theorem of_way {d : Aut} (g : Df.Good d) {s t : Nat} (hs : s < d.next.length) {w : List Int} : Way (ofA d) s w t ↔ Word d.L w ∧ t = runA d s w := by
  refine ⟨of_way1, ?_⟩
  rintro ⟨hw, rfl⟩
  induction w generalizing s with
  | nil => exact .nil
  | cons c w ih =>
    have hc := hw c List.mem_cons_self
    have hcc : ((c.toNat : Nat) : Int) = c := Int.toNat_of_nonneg hc.1
    have hk : ((c.toNat : Nat) : Int) < d.L := by rw [hcc]; exact hc.2
    exact Way.one_head (u := step d s c.toNat) (mem_of.2 ⟨s, c.toNat, hs, hk, rfl, hcc.symm, rfl⟩) hc.1 (ih (g.step_lt hs hk) fun e he => hw e (List.mem_cons_of_mem _ he))
theorem nn {L : Int} {w : List Int} (hw : Word L w) : ∀ c ∈ w, 0 ≤ c := fun c hc => (hw c hc).1
theorem of_acc {d : Aut} (g : Df.Good d) {w : List Int} (hw : Word d.L w) : accN (ofA d) w = accA d w := by
  refine Bool.eq_iff_iff.2 ?_
  rw [accN_iff (of_good g) (nn hw)]
  constructor
  · rintro ⟨s, t, hs, h, ht⟩
    have e : (s : Int) = d.s := by simpa [ofA] using hs
    have e2 : s = d.s.toNat := by omega
    obtain ⟨_, rfl⟩ := of_way1 h
    rw [e2] at ht
    exact (mem_fin.1 ht).2
  · intro h
    refine ⟨d.s.toNat, runA d d.s.toNat w, ?_, (of_way g g.s_lt).2 ⟨hw, rfl⟩, mem_fin.2 ⟨g.run_lt hw g.s_lt, h⟩⟩
    rw [g.s_eq]; simp [ofA]

/-! ### one by one it is as trimmed -/
theorem setQ_one {a : Nfa} {q : Nat} (h : q < a.n.toNat) : setQ a (fun t => decide (t = q)) = [q] := by
  unfold setQ
  generalize a.n.toNat = n at h
  induction n with
  | zero => omega
  | succ n ih =>
    rw [List.range_succ, List.filter_append]
    rcases Nat.lt_or_eq_of_le (Nat.le_of_lt_succ h) with h1 | rfl
    · rw [ih h1]
      have : decide (n = q) = false := decide_eq_false (by omega)
      simp [this]
    · have : (List.range q).filter (fun t => decide (t = q)) = [] := List.filter_eq_nil_iff.2 fun t ht => by
        have := List.mem_range.1 ht
        simp; omega
      rw [this]; simp
theorem clo_set (a : Nfa) (X : List Nat) : clo a X = setQ a fun t => decide (t ∈ clo a X) := by
  have : ∀ t, t ∈ clo a X ↔ t < a.n.toNat ∧ t ∈ clo a X := fun t => ⟨fun h => ⟨(mem_setQ.1 h).1, h⟩, fun h => h.2⟩
  conv => lhs; unfold clo
  refine setQ_ext fun t ht => ?_
  rw [decide_eq_true_iff]
  unfold clo
  rw [mem_setQ]
  exact ⟨fun h => ⟨ht, h⟩, fun h => h.2⟩
/-- Two sets that hold the same are the same. -/
theorem clo_ext {a : Nfa} {X Y : List Nat} (h : ∀ t, t < a.n.toNat → (t ∈ clo a X ↔ t ∈ clo a Y)) : clo a X = clo a Y := by
  rw [clo_set a X, clo_set a Y]
  exact setQ_ext fun t ht => by rw [decide_eq_true_iff, decide_eq_true_iff]; exact h t ht
theorem clo_one {a : Nfa} {X : List Nat} {q : Nat} (hq : q < a.n.toNat) (h : ∀ t, t < a.n.toNat → (t ∈ clo a X ↔ t = q)) : clo a X = [q] := by
  rw [clo_set a X, ← setQ_one hq]
  exact setQ_ext fun t ht => by rw [decide_eq_true_iff, decide_eq_true_iff]; exact h t ht
theorem of_n (d : Aut) : (ofA d).n.toNat = d.next.length := by show ((d.next.length : Nat) : Int).toNat = _; simp
theorem of_beg {d : Aut} (g : Df.Good d) : beg (ofA d) = [d.s.toNat] := by
  have go := of_good g
  have hs := g.s_lt
  unfold beg
  refine clo_one (by rw [of_n]; exact hs) fun t _ => ?_
  rw [mem_clo go fun s hs => st_lt go hs]
  constructor
  · rintro ⟨s, hs, h⟩
    have e : s = d.s.toNat := by simpa [ofA] using hs
    obtain ⟨_, e2⟩ := of_way1 h
    rw [e2, e]; rfl
  · rintro rfl
    exact ⟨_, by simp [ofA], .nil⟩
theorem of_go {d : Aut} (g : Df.Good d) {q c : Nat} (hq : q < d.next.length) (hc : (c : Int) < d.L) : goN (ofA d) [q] (c : Int) = [step d q c] := by
  have go := of_good g
  unfold goN
  refine clo_one (by rw [of_n]; exact g.step_lt hq hc) fun t _ => ?_
  rw [mem_clo go fun s hs => to_lt go hs]
  constructor
  · rintro ⟨s, hs, h⟩
    obtain ⟨u, hu, hm⟩ := (mem_to go).1 hs
    obtain ⟨q', k, _, _, e1, e2, e3⟩ := mem_of.1 hm
    obtain ⟨_, e4⟩ := of_way1 h
    have e5 : u = q := by simpa using hu
    have e6 : q' = q := by omega
    have e7 : k = c := by omega
    subst e6 e7
    rw [e4]
    show s = _
    omega
  · rintro rfl
    exact ⟨_, (mem_to go).2 ⟨q, by simp, mem_of.2 ⟨q, c, hq, hc, rfl, rfl, rfl⟩⟩, .nil⟩
/-- Made one state at a time again, an automaton is trimmed. -/
theorem make_of {d : Aut} (g : Df.Good d) : ∃ l, found (T (ofA d)) (beg (ofA d)) = some l ∧ makeA (ofA d) l = trimA d := by
  have hw := rset_whole g g.s_lt
  obtain ⟨l, hl⟩ := found1 g g.s_lt
  have hr : rset d d.s.toNat = l := by unfold rset; rw [hl]; rfl
  rw [hr] at hw
  have hlt : ∀ x ∈ l, x < d.next.length := fun x hx => rset_lt g g.s_lt (by rw [hr]; exact hx)
  have hi : ∀ x ∈ l, ∀ y ∈ l, (fun q : Nat => [q]) x = (fun q : Nat => [q]) y → x = y := fun x _ y _ e => by simpa using e
  have hT : ∀ x ∈ l, T (ofA d) ((fun q : Nat => [q]) x) = (S1 d x).map fun q => [q] := fun x hx => by
    unfold T S1
    rw [List.map_map]
    refine List.map_congr_left fun c hc => ?_
    have h1 := g.l1
    have hc' : c < d.L.toNat := List.mem_range.1 hc
    exact of_go g (hlt x hx) (by omega)
  have h1 := expl_as hw.closed hi hT 41 0 [d.s.toNat] hl (fun x hx => by simp at hx; subst hx; exact List.mem_of_getElem? hw.hd)
  have h2 : found (T (ofA d)) (beg (ofA d)) = some (l.map fun q => [q]) := by rw [of_beg g]; exact h1
  refine ⟨_, h2, ?_⟩
  unfold makeA trimA
  rw [hr]
  unfold autOf
  rw [List.map_map, List.map_map]
  congr 1
  · refine List.map_congr_left fun x hx => ?_
    show srow (T (ofA d)) (l.map fun q => [q]) [x] = srow (S1 d) l x
    unfold srow
    rw [show T (ofA d) [x] = (S1 d x).map fun q => [q] from hT x hx, List.map_map]
    refine List.map_congr_left fun t ht => ?_
    show ((num (l.map fun q => [q]) [t] : Nat) : Int) = _
    rw [num_map (φ := fun q : Nat => [q]) hi (hw.closed x hx t ht)]
  · refine List.map_congr_left fun x hx => ?_
    show finN (ofA d) [x] = finA d x
    refine Bool.eq_iff_iff.2 ?_
    unfold finN
    rw [List.any_eq_true]
    constructor
    · rintro ⟨t, ht, h⟩
      obtain rfl : t = x := by simpa using ht
      exact (mem_fin.1 (of_decide_eq_true h)).2
    · intro h
      exact ⟨x, by simp, decide_eq_true (mem_fin.2 ⟨hlt x hx, h⟩)⟩

/-! ### Brzozowski -/
theorem mir_of_acc {x : Aut} (gx : Df.Good x) {w : List Int} (hw : Word x.L w) : accN (mir (ofA x)) w = accA x w.reverse := by
  have go := of_good gx
  have hw' : Word x.L w.reverse := fun c hc => hw c (List.mem_reverse.1 hc)
  have := mir_acc go (nn hw')
  rw [List.reverse_reverse] at this
  rw [this, of_acc gx hw']
/-- The states of a set, by what a word leads to. -/
theorem mir_set {x : Aut} (gx : Df.Good x) {u : List Int} (hu : Word x.L u) {i : Nat} (hi : i < x.next.length) : i ∈ runN (mir (ofA x)) (beg (mir (ofA x))) u ↔ finA x (runA x i u.reverse) = true := by
  have go := of_good gx
  have gm := mir_good go
  have hu' : Word x.L u.reverse := fun c hc => hu c (List.mem_reverse.1 hc)
  rw [mem_run gm (nn hu)]
  constructor
  · rintro ⟨s, hs, hway⟩
    have h2 : Way (mir (ofA x)) s (u.reverse).reverse i := by rw [List.reverse_reverse]; exact hway
    obtain ⟨_, e⟩ := of_way1 (way_mir.1 h2)
    have hs' : (s : Int) ∈ (ofA x).fin := hs
    rw [← e]; exact (mem_fin.1 hs').2
  · intro hf
    refine ⟨runA x i u.reverse, mem_fin.2 ⟨gx.run_lt hu' hi, hf⟩, ?_⟩
    have h2 := way_mir.2 ((of_way gx hi).2 ⟨hu', rfl⟩)
    rw [List.reverse_reverse] at h2
    exact h2
theorem rch_run {a : Nfa} (g : Good a) {X : List Nat} (h : Rch (T a) (beg a) X) : ∃ u, Word a.L u ∧ X = runN a (beg a) u ∧ ∃ Z, X = clo a Z := by
  induction h with
  | base => exact ⟨[], by intro a ha; simp at ha, rfl, _, rfl⟩
  | next _ ht ih =>
    obtain ⟨u, hu, rfl, _⟩ := ih
    obtain ⟨c, hc, rfl⟩ := List.mem_map.1 ht
    have hcL : (c : Int) < a.L := by
      have := g.l1
      have : c < a.L.toNat := List.mem_range.1 hc
      omega
    refine ⟨u ++ [(c : Int)], fun b hb => ?_, ?_, _, rfl⟩
    · rcases List.mem_append.1 hb with hb | hb
      · exact hu b hb
      · simp at hb; subst hb; exact ⟨by omega, hcL⟩
    · unfold runN; rw [List.foldl_append]; rfl
/-- No two sets of the mirror of one all of whose states are reached are alike. -/
theorem mir_apart {x : Aut} (gx : Df.Good x) (hr : ∀ i, i < x.next.length → ∃ v, Word x.L v ∧ runA x x.s.toNat v = i) {X Y : List Nat} (hX : Rch (T (mir (ofA x))) (beg (mir (ofA x))) X) (hY : Rch (T (mir (ofA x))) (beg (mir (ofA x))) Y)
    (hXY : ∀ w, Word x.L w → finN (mir (ofA x)) (runN (mir (ofA x)) X w) = finN (mir (ofA x)) (runN (mir (ofA x)) Y w)) : X = Y := by
  have gm := mir_good (of_good gx)
  obtain ⟨u, hu, eX, Z, eZ⟩ := rch_run gm hX
  obtain ⟨u', hu', eY, Z', eZ'⟩ := rch_run gm hY
  have hu : Word x.L u := hu
  have hu' : Word x.L u' := hu'
  have hmn : (mir (ofA x)).n.toNat = x.next.length := of_n x
  have key : ∀ t, t < (mir (ofA x)).n.toNat → (t ∈ X ↔ t ∈ Y) := fun t ht => by
    rw [hmn] at ht
    obtain ⟨v, hv, e⟩ := hr t ht
    have hv' : Word x.L v.reverse := fun c hc => hv c (List.mem_reverse.1 hc)
    have h1 := hXY v.reverse hv'
    rw [eX, eY] at h1
    have h2 : ∀ u, Word x.L u → finN (mir (ofA x)) (runN (mir (ofA x)) (runN (mir (ofA x)) (beg (mir (ofA x))) u) v.reverse) = finA x (runA x t u.reverse) := fun u hu => by
      have e1 : runN (mir (ofA x)) (runN (mir (ofA x)) (beg (mir (ofA x))) u) v.reverse = runN (mir (ofA x)) (beg (mir (ofA x))) (u ++ v.reverse) := by unfold runN; rw [List.foldl_append]
      have hw2 : Word x.L (u ++ v.reverse) := fun a ha => by
        rcases List.mem_append.1 ha with ha | ha
        · exact hu a ha
        · exact hv' a ha
      rw [e1]
      have := mir_of_acc gx hw2
      rw [List.reverse_append, List.reverse_reverse] at this
      unfold accN at this
      rw [this]
      unfold accA
      rw [runA_append, e]
    rw [h2 u hu, h2 u' hu'] at h1
    rw [eX, eY, mir_set gx hu ht, mir_set gx hu' ht, h1]
  rw [eZ, eZ'] at key ⊢
  exact clo_ext key
/-- They are no more than another automaton of the mirror has states. -/
theorem mir_found {x d : Aut} (gx : Df.Good x) (gd : Df.Good d) (eL : d.L = x.L) (hr : ∀ i, i < x.next.length → ∃ v, Word x.L v ∧ runA x x.s.toNat v = i) (h : ∀ w, Word d.L w → accA d w = accA x w.reverse) :
    ∃ l, found (T (mir (ofA x))) (beg (mir (ofA x))) = some l := by
  have gm := mir_good (of_good gx)
  rcases found_cases (T (mir (ofA x))) (beg (mir (ofA x))) with ⟨m, hm, _⟩ | ⟨_, m, h1, h2, h3⟩
  · exact ⟨m, hm⟩
  · exfalso
    have hu : ∀ X : List Nat, ∃ u : List Int, X ∈ m → Word x.L u ∧ X = runN (mir (ofA x)) (beg (mir (ofA x))) u := fun X => by
      by_cases hX : X ∈ m
      · obtain ⟨u, p1, p2, _⟩ := rch_run gm (h3 X hX)
        exact ⟨u, fun _ => ⟨p1, p2⟩⟩
      · exact ⟨[], fun q => absurd q hX⟩
    have hc : ∃ U : List Nat → List Int, ∀ X, X ∈ m → Word x.L (U X) ∧ X = runN (mir (ofA x)) (beg (mir (ofA x))) (U X) := ⟨fun X => Classical.choose (hu X), fun X => Classical.choose_spec (hu X)⟩
    obtain ⟨U, hU⟩ := hc
    have hfin : ∀ X, X ∈ m → ∀ w, Word x.L w → finN (mir (ofA x)) (runN (mir (ofA x)) X w) = finA d (runA d (runA d d.s.toNat (U X)) w) := fun X hX w hw => by
      obtain ⟨p1, p2⟩ := hU X hX
      have hw2 : Word x.L (U X ++ w) := fun a ha => by
        rcases List.mem_append.1 ha with ha | ha
        · exact p1 a ha
        · exact hw a ha
      have e1 := mir_of_acc gx hw2
      rw [← h _ (by rw [eL]; exact hw2)] at e1
      have e2 : runN (mir (ofA x)) (beg (mir (ofA x))) (U X ++ w) = runN (mir (ofA x)) X w := by
        have : runN (mir (ofA x)) (beg (mir (ofA x))) (U X ++ w) = runN (mir (ofA x)) (runN (mir (ofA x)) (beg (mir (ofA x))) (U X)) w := by unfold runN; rw [List.foldl_append]
        rw [this, ← p2]
      unfold accN accA at e1
      rw [e2, runA_append] at e1
      exact e1
    have hle := nodup_le_of (n := d.next.length) h1 (fun X => runA d d.s.toNat (U X)) (fun X hX Y hY e => mir_apart gx hr (h3 X hX) (h3 Y hY) fun w hw => by
      have e : runA d d.s.toNat (U X) = runA d d.s.toNat (U Y) := e
      rw [hfin X hX w hw, hfin Y hY w hw, e]) (fun X hX => gd.run_lt (by rw [eL]; exact (hU X hX).1) gd.s_lt)
    have := gd.n40
    omega
/-- What is made of the mirror of an automaton all of whose states are reached, is the smallest. -/
theorem make_mir {x d : Aut} (gx : Df.Good x) (gd : Df.Good d) (eL : d.L = x.L) (hr : ∀ i, i < x.next.length → ∃ v, Word x.L v ∧ runA x x.s.toNat v = i) (h : ∀ w, Word d.L w → accA d w = accA x w.reverse)
    {l : List (List Nat)} (hl : found (T (mir (ofA x))) (beg (mir (ofA x))) = some l) : makeA (mir (ofA x)) l = minA d := by
  have gm := mir_good (of_good gx)
  have hw := found_whole hl
  unfold makeA
  refine autOf_min hl (fun X _ => T_len gm X) (fun X hX Y hY hXY => mir_apart gx hr (hw.rch X hX) (hw.rch Y hY) fun w hwx => ?_) gd eL fun w hwm => ?_
  · have := hXY w hwx
    have hwm : Word (mir (ofA x)).L w := hwx
    rwa [viaN hwm, viaN hwm] at this
  · have hwx : Word x.L w := hwm
    rw [viaN hwm, h w (by rw [eL]; exact hwx)]
    exact (mir_of_acc gx hwx).symm
theorem make_reached {a : Nfa} (g : Good a) {l : List (List Nat)} (hl : found (T a) (beg a) = some l) {i : Nat} (hi : i < (makeA a l).next.length) : ∃ v, Word a.L v ∧ runA (makeA a l) (makeA a l).s.toNat v = i := by
  have hw := found_whole hl
  have hn : (makeA a l).next.length = l.length := by unfold makeA autOf; simp
  rw [hn] at hi
  have hm := List.getElem_mem hi
  have key : ∀ X, Rch (T a) (beg a) X → ∃ v, Word a.L v ∧ viaAll (T a) (beg a) v = X := fun X hX => by
    induction hX with
    | base => exact ⟨[], by intro a ha; simp at ha, rfl⟩
    | next _ ht ih =>
      obtain ⟨v, hv, rfl⟩ := ih
      obtain ⟨c, hc, rfl⟩ := List.mem_map.1 ht
      have hcL : (c : Int) < a.L := by
        have := g.l1
        have : c < a.L.toNat := List.mem_range.1 hc
        omega
      have hv2 : Word a.L (v ++ [(c : Int)]) := fun b hb => by
        rcases List.mem_append.1 hb with hb | hb
        · exact hv b hb
        · simp at hb; subst hb; exact ⟨by omega, hcL⟩
      refine ⟨v ++ [(c : Int)], hv2, ?_⟩
      rw [viaN hv2, viaN hv]
      unfold runN; rw [List.foldl_append]; rfl
  obtain ⟨v, hv, e⟩ := key _ (hw.rch _ hm)
  obtain ⟨_, p2⟩ := autOf_run (f := finN a) hw (fun X _ => T_len g X) hv (List.mem_of_getElem? hw.hd)
  refine ⟨v, hv, ?_⟩
  rw [idx_of hw.nd hw.hd, e, idx_of hw.nd (List.getElem?_eq_getElem hi)] at p2
  exact p2
/-- Mirrored and made one state at a time, twice: the smallest one. -/
theorem twice {d : Aut} (g : Df.Good d) {l : List (List Nat)} (hl : found (T (mir (ofA d))) (beg (mir (ofA d))) = some l) {x : Aut} (hx : x = makeA (mir (ofA d)) l) :
    ∃ k, found (T (mir (ofA x))) (beg (mir (ofA x))) = some k ∧ makeA (mir (ofA x)) k = minA d := by
  have go := of_good g
  have gm := mir_good go
  have gx := make_good gm hl
  have hr := fun i (hi : i < (makeA (mir (ofA d)) l).next.length) => make_reached gm hl hi
  have hacc : ∀ w, Word d.L w → accA d w = accA (makeA (mir (ofA d)) l) w.reverse := fun w hw => by
    have hw' : Word d.L w.reverse := fun c hc => hw c (List.mem_reverse.1 hc)
    rw [make_acc gm hl hw', mir_acc go (nn hw), of_acc g hw]
  subst hx
  obtain ⟨k, hk⟩ := mir_found gx g rfl hr hacc
  exact ⟨k, hk, make_mir gx g rfl hr hacc hk⟩
end Go.Proofs.YtlhhhdgkdbplmaaDoor.Nf

namespace Go.Proofs.YtlhhhdgkdbplmaaDoor.Nf
open Go.Proofs.YtlhhhdgkdbplmaaDoor.Df Go.Proofs.YtlhhhdgkdbplmaaDoor.Wo Go.Proofs.YtlhhhdgkdbplmaaDoor.Rc Go.Proofs.YtlhhhdgkdbplmaaDoor.Sm

/-- One move. -/
def put1 (p : Nat → Bool) (m : Int × Int × Int) : Nat → Bool := fun t => p t || (decide (m.2.1 = -1) && p m.1.toNat && decide (t = m.2.2.toNat))
def passP (l : List (Int × Int × Int)) (p : Nat → Bool) : Nat → Bool := l.foldl put1 p
theorem put1_mono {p : Nat → Bool} {m : Int × Int × Int} {t : Nat} (h : p t = true) : put1 p m t = true := by unfold put1; rw [h]; rfl
theorem passP_mono : ∀ (l : List (Int × Int × Int)) {p : Nat → Bool} {t : Nat}, p t = true → passP l p t = true
  | [], _, _, h => h
  | m :: l, _, _, h => passP_mono l (put1_mono (m := m) h)
theorem passP_has : ∀ (l : List (Int × Int × Int)) {p : Nat → Bool} {x y : Int}, (x, -1, y) ∈ l → p x.toNat = true → passP l p y.toNat = true
  | [], _, _, _, h, _ => by cases h
  | m :: l, p, x, y, h, hp => by
    rcases List.mem_cons.1 h with e | h
    · subst e
      refine passP_mono l ?_
      unfold put1
      simp [hp]
    · exact passP_has l h (put1_mono hp)
/-- Nothing more to find. -/
def Shut (a : Nfa) (p : Nat → Bool) : Prop := ∀ x y : Int, (x, -1, y) ∈ a.mv → p x.toNat = true → p y.toNat = true
theorem passP_shut {a : Nfa} {p : Nat → Bool} (h : Shut a p) : ∀ (l : List (Int × Int × Int)), (∀ m ∈ l, m ∈ a.mv) → passP l p = p
  | [], _ => rfl
  | m :: l, hl => by
    have e : put1 p m = p := funext fun t => by
      unfold put1
      rcases m with ⟨x, c, y⟩
      by_cases h1 : c = -1 ∧ p x.toNat = true ∧ t = y.toNat
      · obtain ⟨rfl, h2, rfl⟩ := h1
        rw [h x y (hl _ List.mem_cons_self) h2]; rfl
      · have : (decide (c = -1) && p x.toNat && decide (t = y.toNat)) = false := by
          rcases hb : (decide (c = -1) && p x.toNat && decide (t = y.toNat)) with _ | _
          · rfl
          · simp only [Bool.and_eq_true, decide_eq_true_eq] at hb
            exact absurd ⟨hb.1.1, hb.1.2, hb.2⟩ h1
        simp only [this, Bool.or_false]
    show passP l (put1 p m) = p
    rw [e]
    exact passP_shut h l fun z hz => hl z (List.mem_cons_of_mem _ hz)
def itP (a : Nfa) : Nat → (Nat → Bool) → Nat → Bool
  | 0, p => p
  | k + 1, p => passP a.mv (itP a k p)
theorem itP_mono {a : Nfa} {p : Nat → Bool} {t k j : Nat} (h : itP a k p t = true) (hj : k ≤ j) : itP a j p t = true := by
  induction hj with
  | refl => exact h
  | step _ ih => exact passP_mono _ ih
theorem itP_shut {a : Nfa} {p : Nat → Bool} {k j : Nat} (h : Shut a (itP a k p)) (hj : k ≤ j) : itP a j p = itP a k p := by
  induction hj with
  | refl => rfl
  | @step m _ ih =>
    show passP a.mv (itP a m p) = _
    rw [ih]
    exact passP_shut h a.mv fun _ hm => hm
theorem passP_sound {a : Nfa} (g : Good a) {q : Nat → Bool} : ∀ (l : List (Int × Int × Int)) {p : Nat → Bool}, (∀ m ∈ l, m ∈ a.mv) → (∀ t, p t = true → ∃ s, q s = true ∧ Rch (epsS a) s t) → ∀ t, passP l p t = true → ∃ s, q s = true ∧ Rch (epsS a) s t
  | [], _, _, hp, t, h => hp t h
  | m :: l, p, hl, hp, t, h => by
    refine passP_sound g l (p := put1 p m) (fun z hz => hl z (List.mem_cons_of_mem _ hz)) (fun u hu => ?_) t h
    unfold put1 at hu
    rcases hpu : p u with _ | _
    · rw [hpu, Bool.false_or] at hu
      simp only [Bool.and_eq_true, decide_eq_true_eq] at hu
      obtain ⟨⟨h1, h2⟩, rfl⟩ := hu
      obtain ⟨s, hs, hr⟩ := hp _ h2
      have hm := hl m List.mem_cons_self
      have hg := g.mv m hm
      refine ⟨s, hs, .next hr ((mem_epsS g).2 ?_)⟩
      rw [Int.toNat_of_nonneg hg.1.1, Int.toNat_of_nonneg hg.2.1.1, ← h1]
      exact hm
    · exact hp u hpu
theorem itP_sound {a : Nfa} (g : Good a) {p : Nat → Bool} (k : Nat) : ∀ t, itP a k p t = true → ∃ s, p s = true ∧ Rch (epsS a) s t := by
  induction k with
  | zero => intro t h; exact ⟨t, h, .base⟩
  | succ k ih => exact passP_sound g a.mv (fun _ h => h) ih
/-- After as many passes as there are states nothing more is found. -/
theorem itP_end {a : Nfa} (g : Good a) (p : Nat → Bool) : Shut a (itP a a.n.toNat p) := by
  apply Classical.byContradiction
  intro hn
  have hall : ∀ k, k ≤ a.n.toNat → ¬ Shut a (itP a k p) := fun k hk h => hn (by rw [itP_shut h hk]; exact h)
  have hcnt : ∀ k, k ≤ a.n.toNat → k ≤ ((List.range a.n.toNat).filter (itP a k p)).length := by
    intro k
    induction k with
    | zero => intro _; omega
    | succ k ih =>
      intro hk
      have h1 := ih (by omega)
      have h2 := hall k (by omega)
      obtain ⟨x, h3⟩ := Classical.not_forall.1 h2
      obtain ⟨y, h4⟩ := Classical.not_forall.1 h3
      obtain ⟨hm, h5⟩ := Classical.not_imp.1 h4
      obtain ⟨h6, h7⟩ := Classical.not_imp.1 h5
      have hy := (g.mv _ hm).2.1
      have hy1 := hy.1; have hy2 := hy.2
      simp only at hy1 hy2
      have h8 : itP a k p y.toNat = false := by
        rcases e : itP a k p y.toNat with _ | _
        · rfl
        · exact absurd e h7
      have := filter_lt (l := List.range a.n.toNat) (p := itP a k p) (q := itP a (k + 1) p) (fun t _ ht => itP_mono ht (by omega)) (z := y.toNat) (List.mem_range.2 (by omega)) (passP_has a.mv hm h6) h8
      omega
  have h1 := hcnt a.n.toNat (Nat.le_refl _)
  have hfull : ∀ t, t < a.n.toNat → itP a a.n.toNat p t = true := fun t ht => by
    have h2 : ((List.range a.n.toNat).filter (itP a a.n.toNat p)).length = (List.range a.n.toNat).length := by
      have := List.length_filter_le (itP a a.n.toNat p) (List.range a.n.toNat)
      rw [List.length_range] at this ⊢
      omega
    exact List.length_filter_eq_length_iff.1 h2 t (List.mem_range.2 ht)
  refine hn fun x y hm _ => ?_
  have hy := (g.mv _ hm).2.1
  have hy1 := hy.1; have hy2 := hy.2
  simp only at hy1 hy2
  exact hfull _ (by omega)
/-- The passes find what the moves by no letter lead to. -/
theorem itP_iff {a : Nfa} (g : Good a) {p : Nat → Bool} {t : Nat} : itP a a.n.toNat p t = true ↔ ∃ s, p s = true ∧ Way a s [] t := by
  constructor
  · intro h
    obtain ⟨s, hs, hr⟩ := itP_sound g _ t h
    exact ⟨s, hs, (way_eps g).2 hr⟩
  · rintro ⟨s, hs, hw⟩
    have hr := (way_eps g).1 hw
    induction hr with
    | base => exact itP_mono (k := 0) hs (by omega)
    | next hz ht ih =>
      have hm := (mem_epsS g).1 ht
      have := itP_end g p _ _ hm (by simpa using ih ((way_eps g).2 hz))
      simpa using this
/-- A set as a row of bools. -/
def bits (a : Nfa) (p : Nat → Bool) : List Bool := (List.range a.n.toNat).map p
theorem clo_bits {a : Nfa} (g : Good a) {X : List Nat} (hX : ∀ s ∈ X, s < a.n.toNat) {t : Nat} : decide (t ∈ clo a X) = itP a a.n.toNat (fun s => decide (s ∈ X)) t := by
  refine Bool.eq_iff_iff.2 ?_
  rw [decide_eq_true_iff, mem_clo g hX, itP_iff g]
  constructor
  · rintro ⟨s, hs, h⟩; exact ⟨s, decide_eq_true hs, h⟩
  · rintro ⟨s, hs, h⟩; exact ⟨s, of_decide_eq_true hs, h⟩
end Go.Proofs.YtlhhhdgkdbplmaaDoor.Nf

namespace Go.Proofs.YtlhhhdgkdbplmaaDoor.Nf
open Go.Proofs.YtlhhhdgkdbplmaaDoor.Df Go.Proofs.YtlhhhdgkdbplmaaDoor.Wo Go.Proofs.YtlhhhdgkdbplmaaDoor.Rc Go.Proofs.YtlhhhdgkdbplmaaDoor.Sm

/-! ### found under another name -/
section
variable {α β : Type} {S : α → List α} {T : β → List β} {a : α} {φ : α → β}
theorem rch_as (hT : ∀ x, Rch S a x → T (φ x) = (S x).map φ) {x : α} (h : Rch S a x) : Rch T (φ a) (φ x) := by
  induction h with
  | base => exact .base
  | next hz ht ih => exact .next ih (by rw [hT _ hz]; exact List.mem_map_of_mem ht)
variable [DecidableEq α] [DecidableEq β]
theorem found_as (hi : ∀ x y, Rch S a x → Rch S a y → φ x = φ y → x = y) (hT : ∀ x, Rch S a x → T (φ x) = (S x).map φ) : found T (φ a) = (found S a).map (List.map φ) := by
  rcases found_cases S a with ⟨l, h, hw⟩ | ⟨h, m, h1, h2, h3⟩
  · rw [h]
    have hm := fun x (hx : x ∈ l) => hw.mem_iff.1 hx
    exact expl_as hw.closed (fun x hx y hy => hi x y (hm x hx) (hm y hy)) (fun x hx => hT x (hm x hx)) 41 0 [a] h (fun x hx => by simp at hx; subst hx; exact List.mem_of_getElem? hw.hd)
  · rw [h]
    rcases hf : found T (φ a) with _ | l'
    · rfl
    · exfalso
      have hw := found_whole hf
      have hm : ∀ x ∈ m, φ x ∈ l' := fun x hx => hw.mem_iff.2 (rch_as hT (h3 x hx))
      have := nodup_le_of (l := m) (n := l'.length) h1 (fun x => num l' (φ x)) (fun x hx y hy e => by
        have e1 := idx_get (hm x hx)
        have e2 := idx_get (hm y hy)
        rw [e, e2] at e1
        exact hi x y (h3 x hx) (h3 y hy) (Option.some.inj e1).symm) (fun x hx => idx_lt (hm x hx))
      have := hw.n40
      omega
theorem autOf_as {l : List α} (hw : Whole S a l) (hi : ∀ x y, Rch S a x → Rch S a y → φ x = φ y → x = y) (hT : ∀ x, Rch S a x → T (φ x) = (S x).map φ) {L : Int} {f : α → Bool} {f' : β → Bool} (hf : ∀ x, Rch S a x → f' (φ x) = f x) : autOf L T (l.map φ) f' = autOf L S l f := by
  have hm := fun x (hx : x ∈ l) => hw.mem_iff.1 hx
  unfold autOf
  rw [List.map_map, List.map_map]
  congr 1
  · refine List.map_congr_left fun x hx => ?_
    show srow T (l.map φ) (φ x) = srow S l x
    unfold srow
    rw [hT x (hm x hx), List.map_map]
    refine List.map_congr_left fun t ht => ?_
    show ((num (l.map φ) (φ t) : Nat) : Int) = _
    rw [num_map (fun x hx y hy => hi x y (hm x hx) (hm y hy)) (hw.closed x hx t ht)]
  · exact List.map_congr_left fun x hx => hf x (hm x hx)
end
theorem explOut_as {α β : Type} [DecidableEq α] [DecidableEq β] {S : α → List α} {T : β → List β} {a : α} {φ : α → β} (hi : ∀ x y, Rch S a x → Rch S a y → φ x = φ y → x = y) (hT : ∀ x, Rch S a x → T (φ x) = (S x).map φ) {L : Int} {f : α → Bool} {f' : β → Bool}
    (hf : ∀ x, Rch S a x → f' (φ x) = f x) : explOut L T (φ a) f' = explOut L S a f := by
  have h := found_as hi hT
  rcases hl : found S a with _ | l
  · rw [hl] at h
    rw [explOut_none hl, explOut_none h]
  · rw [hl] at h
    rw [explOut_some hl, explOut_some h, autOf_as (found_whole hl) hi hT hf]
/-- What Make gives. -/
def makeOut (a : Nfa) : Aut × Nat := if nchk a = 0 then explOut a.L (T a) (beg a) (finN a) else (zeroA, nchk a)

/-! ### the bits of a number -/
def enc (X : List Nat) : Nat := X.foldl (fun x s => x ||| 2 ^ s) 0
theorem enc_fold : ∀ (X : List Nat) (x t : Nat), (X.foldl (fun x s => x ||| 2 ^ s) x).testBit t = (x.testBit t || decide (t ∈ X))
  | [], x, t => by simp
  | s :: X, x, t => by
    rw [List.foldl_cons, enc_fold X, Nat.testBit_or, Nat.testBit_two_pow, Bool.or_assoc]
    congr 1
    by_cases h : s = t
    · subst h; simp
    · have h' : ¬ t = s := fun e => h e.symm
      simp [h, h']
theorem enc_bit (X : List Nat) (t : Nat) : (enc X).testBit t = decide (t ∈ X) := by unfold enc; rw [enc_fold]; simp
theorem enc_ext {X Y : List Nat} (h : ∀ t, t ∈ X ↔ t ∈ Y) : enc X = enc Y := Nat.eq_of_testBit_eq fun t => by rw [enc_bit, enc_bit]; exact decide_eq_decide.2 (h t)
theorem enc_mem {X Y : List Nat} (h : enc X = enc Y) (t : Nat) : t ∈ X ↔ t ∈ Y := by
  have := enc_bit X t
  rw [h, enc_bit] at this
  exact (decide_eq_decide.1 this).symm
theorem enc_nil : enc [] = 0 := rfl
theorem enc_snoc (X : List Nat) (s : Nat) : enc (X ++ [s]) = enc X ||| 2 ^ s := by unfold enc; rw [List.foldl_append]; rfl
theorem enc_append (X Y : List Nat) : enc (X ++ Y) = enc X ||| enc Y := Nat.eq_of_testBit_eq fun t => by
  rw [Nat.testBit_or, enc_bit, enc_bit, enc_bit]
  by_cases h1 : t ∈ X <;> by_cases h2 : t ∈ Y <;> simp [h1, h2]
theorem enc_lt {X : List Nat} (h : ∀ s ∈ X, s < 40) : enc X < 1099511627776 := by
  have : enc X < 2 ^ 40 := Nat.lt_pow_two_of_testBit _ fun t ht => by
    rw [enc_bit]
    exact decide_eq_false fun k => by have := h t k; omega
  simpa using this
theorem pow_lt {s : Nat} (h : s < 40) : 2 ^ s < 1099511627776 := by
  have : (2 : Nat) ^ s < 2 ^ 40 := Nat.pow_lt_pow_right (by omega) h
  simpa using this
theorem enc_shift (X : List Nat) (s : Nat) : (enc X / 2 ^ s) % 2 = if s ∈ X then 1 else 0 := by
  have h := enc_bit X s
  rw [Nat.testBit_eq_decide_div_mod_eq] at h
  have h2 := decide_eq_decide.1 h
  by_cases e : s ∈ X
  · rw [if_pos e]; exact h2.2 e
  · rw [if_neg e]
    have : ¬ enc X / 2 ^ s % 2 = 1 := fun k => e (h2.1 k)
    omega
theorem enc_and (X Y : List Nat) : (enc X &&& enc Y = 0) ↔ ∀ t ∈ X, t ∉ Y := by
  constructor
  · intro h t h1 h2
    have := congrArg (fun n => Nat.testBit n t) h
    simp only [Nat.testBit_and, enc_bit, Nat.zero_testBit] at this
    simp [h1, h2] at this
  · intro h
    refine Nat.eq_of_testBit_eq fun t => ?_
    rw [Nat.testBit_and, enc_bit, enc_bit, Nat.zero_testBit]
    by_cases h1 : t ∈ X
    · simp [h1, h t h1]
    · simp [h1]
theorem fin_and {a : Nfa} (g : Good a) (X : List Nat) : decide (enc X &&& enc (a.fin.map Int.toNat) ≠ 0) = finN a X := by
  unfold finN
  refine Bool.eq_iff_iff.2 ?_
  rw [decide_eq_true_iff, List.any_eq_true]
  constructor
  · intro h
    by_cases hx : ∃ t ∈ X, t ∈ a.fin.map Int.toNat
    · obtain ⟨t, h1, h2⟩ := hx
      obtain ⟨x, h3, rfl⟩ := List.mem_map.1 h2
      have := (g.fin x h3).1
      exact ⟨_, h1, decide_eq_true (by rw [Int.toNat_of_nonneg this]; exact h3)⟩
    · exact absurd ((enc_and X _).2 fun t h1 h2 => hx ⟨t, h1, h2⟩) h
  · rintro ⟨t, h1, h2⟩ h
    exact (enc_and X _).1 h t h1 (List.mem_map.2 ⟨_, of_decide_eq_true h2, by simp⟩)

/-! ### closing a set -/
theorem clo_fix {a : Nfa} (g : Good a) {X K : List Nat} (hX : ∀ s ∈ X, s < a.n.toNat) (h1 : ∀ t ∈ K, t ∈ clo a X) (h2 : ∀ t ∈ X, t ∈ K) (h3 : ∀ t ∈ to a K (-1), t ∈ K) : enc K = enc (clo a X) := by
  refine enc_ext fun t => ⟨h1 t, fun h => ?_⟩
  obtain ⟨s, hs, hw⟩ := (mem_clo g hX).1 h
  have hr := (way_eps g).1 hw
  clear h hw
  induction hr with
  | base => exact h2 s hs
  | next _ ht ih => exact h3 _ ((mem_to g).2 ⟨_, ih, (mem_epsS g).1 ht⟩)
theorem clo_more {a : Nfa} (g : Good a) {X K : List Nat} (hX : ∀ s ∈ X, s < a.n.toNat) (h1 : ∀ t ∈ K, t ∈ clo a X) : ∀ t ∈ to a K (-1), t ∈ clo a X := by
  intro t ht
  obtain ⟨s, hs, hm⟩ := (mem_to g).1 ht
  obtain ⟨z, hz, hw⟩ := (mem_clo g hX).1 (h1 s hs)
  exact (mem_clo g hX).2 ⟨z, hz, .eps hw hm⟩
theorem clo_self {a : Nfa} (g : Good a) {X : List Nat} (hX : ∀ s ∈ X, s < a.n.toNat) : ∀ t ∈ X, t ∈ clo a X := fun t ht => (mem_clo g hX).2 ⟨t, ht, .nil⟩
theorem clo_lt {a : Nfa} {X : List Nat} {t : Nat} (h : t ∈ clo a X) : t < a.n.toNat := (mem_setQ.1 h).1
theorem lt40 {a : Nfa} (g : Good a) {X : List Nat} (h : ∀ t ∈ X, t < a.n.toNat) : ∀ t ∈ X, t < 40 := fun t ht => by
  have := h t ht; have := g.n40; omega
theorem fins_lt {a : Nfa} (g : Good a) : ∀ t ∈ a.fin.map Int.toNat, t < a.n.toNat := fun t ht => by
  obtain ⟨x, hx, rfl⟩ := List.mem_map.1 ht
  have := g.fin x hx
  have h1 := this.1; have h2 := this.2
  omega

/-! ### the subset construction, of numbers and of rows of bools -/
theorem rch_canon {a : Nfa} (g : Good a) {X : List Nat} (h : Rch (T a) (beg a) X) : X = setQ a (fun t => decide (t ∈ X)) := by
  obtain ⟨_, _, _, Z, rfl⟩ := rch_run g h
  exact clo_set a Z
theorem rch_lt40 {a : Nfa} (g : Good a) {X : List Nat} (h : Rch (T a) (beg a) X) : ∀ t ∈ X, t < a.n.toNat := fun t ht => by
  rw [rch_canon g h] at ht; exact (mem_setQ.1 ht).1
def dec (a : Nfa) (x : Nat) : List Nat := setQ a fun t => x.testBit t
theorem dec_enc {a : Nfa} {X : List Nat} (h : X = setQ a (fun t => decide (t ∈ X))) : dec a (enc X) = X := by
  unfold dec
  rw [show (fun t => (enc X).testBit t) = fun t => decide (t ∈ X) from funext fun t => enc_bit X t]
  exact h.symm
def T64 (a : Nfa) (x : Nat) : List Nat := (T a (dec a x)).map enc
theorem make64 {a : Nfa} (g : Good a) : explOut a.L (T64 a) (enc (beg a)) (fun x => decide (x &&& enc (a.fin.map Int.toNat) ≠ 0)) = explOut a.L (T a) (beg a) (finN a) :=
  explOut_as (fun x y hx hy e => by
    have h1 := dec_enc (rch_canon g hx)
    have h2 := dec_enc (rch_canon g hy)
    rw [← h1, ← h2, e]) (fun x hx => by unfold T64; rw [dec_enc (rch_canon g hx)]) (fun x _ => fin_and g x)
def rowQ (a : Nfa) (X : List Nat) : List Bool := (List.range a.n.toNat).map fun t => decide (t ∈ X)
theorem rowQ_len (a : Nfa) (X : List Nat) : (rowQ a X).length = a.n.toNat := by simp [rowQ]
theorem rowQ_get {a : Nfa} (X : List Nat) {t : Nat} (h : t < a.n.toNat) : (rowQ a X)[t]? = some (decide (t ∈ X)) := by
  unfold rowQ; rw [List.getElem?_map, List.getElem?_range h]; rfl
def decB (a : Nfa) (r : List Bool) : List Nat := setQ a fun t => r[t]?.getD false
theorem decB_row {a : Nfa} {X : List Nat} (h : X = setQ a (fun t => decide (t ∈ X))) : decB a (rowQ a X) = X := by
  have e : decB a (rowQ a X) = setQ a (fun t => decide (t ∈ X)) := setQ_ext fun t ht => by rw [rowQ_get X ht]; rfl
  rw [e]; exact h.symm
def TB (a : Nfa) (r : List Bool) : List (List Bool) := (T a (decB a r)).map (rowQ a)
theorem makeB {a : Nfa} (g : Good a) (f : List Bool → Bool) (hf : ∀ X, Rch (T a) (beg a) X → f (rowQ a X) = finN a X) : explOut a.L (TB a) (rowQ a (beg a)) f = explOut a.L (T a) (beg a) (finN a) :=
  explOut_as (fun x y hx hy e => by
    have h1 := decB_row (rch_canon g hx)
    have h2 := decB_row (rch_canon g hy)
    rw [← h1, ← h2, e]) (fun x hx => by unfold TB; rw [decB_row (rch_canon g hx)]) hf
end Go.Proofs.YtlhhhdgkdbplmaaDoor.Nf
