/- Plain mathematics of reach for the laws: the first word is the least one; counts of Not, Both and Either; an automaton trimmed. -/
import Derived.Test.YtlhhhdgkdbplmaaDoorReachM
namespace Go.Proofs.YtlhhhdgkdbplmaaDoor.Rc
open Go.Proofs.YtlhhhdgkdbplmaaDoor.Df Go.Proofs.YtlhhhdgkdbplmaaDoor.Wo

/-! ### the first word -/
/-- The least one below n that is so. -/
def least (n : Nat) (p : Nat → Bool) : Option Nat := (List.range n).find? p
theorem least_some {n k : Nat} {p : Nat → Bool} (h : least n p = some k) : k < n ∧ p k = true ∧ ∀ j, j < k → p j = false := by
  unfold least at h
  have h1 := List.find?_some h
  have h2 := List.mem_of_find?_eq_some h
  rw [List.mem_range] at h2
  refine ⟨h2, h1, fun j hj => ?_⟩
  obtain ⟨h3, as, bs, h4, h5⟩ := List.find?_eq_some_iff_append.1 h
  have h6 : as.length = k := by
    have e : (List.range n)[as.length]? = some k := by rw [h4, List.getElem?_append_right (Nat.le_refl _)]; simp
    obtain ⟨h7, h8⟩ := List.getElem?_eq_some_iff.1 e
    simpa using h8
  have h9 : as[j]? = some j := by
    have e : (List.range n)[j]? = some j := List.getElem?_range (by omega)
    rw [h4, List.getElem?_append_left (by omega)] at e
    exact e
  have := h5 j (List.mem_of_getElem? h9)
  simpa using this
theorem least_none {n : Nat} {p : Nat → Bool} (h : least n p = none) {j : Nat} (hj : j < n) : p j = false := by
  unfold least at h
  have := List.find?_eq_none.1 h j (List.mem_range.2 hj)
  simpa using this
theorem least_is {n k : Nat} {p : Nat → Bool} (hk : k < n) (hp : p k = true) (hmin : ∀ j, j < k → p j = false) : least n p = some k := by
  rcases h : least n p with _ | m
  · rw [least_none h hk] at hp; cases hp
  · obtain ⟨h1, h2, h3⟩ := least_some h
    rcases Nat.lt_trichotomy m k with hlt | rfl | hlt
    · rw [hmin m hlt] at h2; cases h2
    · rfl
    · rw [h3 k hlt] at hp; cases hp
/-- The first of the words of k letters that are accepted from a state. -/
def pick (d : Aut) : Nat → Nat → List Int
  | 0, _ => []
  | k + 1, s => match least d.L.toNat (fun a => inK d k (step d s a)) with
    | none => []
    | some a => (a : Int) :: pick d k (step d s a)
theorem least_letter {d : Aut} {k s : Nat} (h : inK d (k + 1) s = true) : ∃ a, least d.L.toNat (fun a => inK d k (step d s a)) = some a := by
  rcases hl : least d.L.toNat (fun a => inK d k (step d s a)) with _ | a
  · have h' : ((List.range d.L.toNat).any fun a => inK d k (step d s a)) = true := h
    obtain ⟨a, ha, hp⟩ := List.any_eq_true.1 h'
    rw [List.mem_range] at ha
    have hz : inK d k (step d s a) = false := least_none hl ha
    rw [hz] at hp; cases hp
  · exact ⟨a, rfl⟩
theorem pick_succ {d : Aut} {k s a : Nat} (h : least d.L.toNat (fun a => inK d k (step d s a)) = some a) : pick d (k + 1) s = (a : Int) :: pick d k (step d s a) := by
  rw [pick, h]
theorem pick_ok {d : Aut} {k s : Nat} (h : inK d k s = true) : Word d.L (pick d k s) ∧ (pick d k s).length = k ∧ finA d (runA d s (pick d k s)) = true := by
  induction k generalizing s with
  | zero => exact ⟨by intro a ha; simp [pick] at ha, rfl, h⟩
  | succ k ih =>
    obtain ⟨a, ha⟩ := least_letter h
    obtain ⟨h1, h2, _⟩ := least_some ha
    obtain ⟨h3, h4, h5⟩ := ih h2
    rw [pick_succ ha]
    refine ⟨fun b hb => ?_, by simp [h4], h5⟩
    rcases List.mem_cons.1 hb with rfl | hb
    · exact ⟨by omega, by omega⟩
    · exact h3 b hb
theorem pick_least {d : Aut} {k s : Nat} (h : inK d k s = true) {v : List Int} (hv : Word d.L v) (hl : v.length = k) (hf : finA d (runA d s v) = true) : lx v (pick d k s) = false := by
  induction k generalizing s v with
  | zero =>
    obtain rfl := List.eq_nil_of_length_eq_zero hl
    rfl
  | succ k ih =>
    obtain ⟨a, ha⟩ := least_letter h
    obtain ⟨h1, h2, h3⟩ := least_some ha
    rcases v with _ | ⟨b, v⟩
    · simp at hl
    have hb := hv b List.mem_cons_self
    have hv' : Word d.L v := fun c hc => hv c (List.mem_cons_of_mem _ hc)
    have hl' : v.length = k := by simpa using hl
    have hf' : finA d (runA d (step d s b.toNat) v) = true := hf
    have hb2 : inK d k (step d s b.toNat) = true := inK_iff.2 ⟨v, hv', hl', hf'⟩
    rw [pick_succ ha, lx]
    by_cases e : b = (a : Int)
    · rw [if_pos e]
      subst e
      exact ih h2 hv' hl' hf'
    · rw [if_neg e]
      refine decide_eq_false (fun hlt => ?_)
      have := h3 b.toNat (by omega)
      rw [this] at hb2; cases hb2
/-- The first word that is accepted from a state: among those of at most as many letters as there are states. -/
def firstW (d : Aut) (s : Nat) : Option (List Int) := (least (d.next.length + 1) (fun k => inK d k s)).map (fun k => pick d k s)
theorem firstW_none {d : Aut} (g : Df.Good d) {s : Nat} (hs : s < d.next.length) (h : firstW d s = none) {v : List Int} (hv : Word d.L v) : finA d (runA d s v) = false := by
  have hn : least (d.next.length + 1) (fun k => inK d k s) = none := by
    unfold firstW at h
    simpa using h
  rcases hf : finA d (runA d s v) with _ | _
  · rfl
  · exfalso
    have h0 : inK d v.length s = true := inK_iff.2 ⟨v, hv, rfl, hf⟩
    obtain ⟨k, hk⟩ : ∃ k, least (v.length + 1) (fun k => inK d k s) = some k := by
      rcases hl : least (v.length + 1) (fun k => inK d k s) with _ | k
      · have hz : inK d v.length s = false := least_none hl (Nat.lt_succ_self _)
        rw [hz] at h0; cases h0
      · exact ⟨k, rfl⟩
    obtain ⟨_, h2, h3⟩ := least_some hk
    have := short g hs h2 h3
    have hz : inK d k s = false := least_none hn (by omega)
    rw [hz] at h2; cases h2
theorem firstW_some {d : Aut} (g : Df.Good d) {s : Nat} (hs : s < d.next.length) {w : List Int} (h : firstW d s = some w) :
    Word d.L w ∧ w.length < d.next.length ∧ finA d (runA d s w) = true ∧ ∀ v, Word d.L v → finA d (runA d s v) = true → lss v w = false := by
  unfold firstW at h
  obtain ⟨k, hk, rfl⟩ := Option.map_eq_some_iff.1 h
  obtain ⟨_, h2, h3⟩ := least_some hk
  obtain ⟨p1, p2, p3⟩ := pick_ok h2
  refine ⟨p1, by rw [p2]; exact short g hs h2 h3, p3, fun v hv hf => ?_⟩
  unfold lss
  rw [p2]
  by_cases e : v.length = k
  · rw [if_pos e]; exact pick_least h2 hv e hf
  · rw [if_neg e]
    refine decide_eq_false (fun hlt => ?_)
    have hz : inK d v.length s = false := h3 _ hlt
    rw [inK_iff.2 ⟨v, hv, rfl, hf⟩] at hz; cases hz
/-- There is one first word only. -/
theorem firstW_unique {d : Aut} (g : Df.Good d) {s : Nat} (hs : s < d.next.length) {w : List Int} (hw : Word d.L w) (hf : finA d (runA d s w) = true) (hmin : ∀ v, Word d.L v → finA d (runA d s v) = true → lss v w = false) : firstW d s = some w := by
  rcases h : firstW d s with _ | u
  · rw [firstW_none g hs h hw] at hf; cases hf
  · obtain ⟨h1, _, h3, h4⟩ := firstW_some g hs h
    rw [lss_total (h4 w hw hf) (hmin u h1 h3)]
theorem firstW_is_none {d : Aut} (g : Df.Good d) {s : Nat} (hs : s < d.next.length) (h : ∀ v, Word d.L v → finA d (runA d s v) = false) : firstW d s = none := by
  rcases hf : firstW d s with _ | u
  · rfl
  · obtain ⟨h1, _, h3, _⟩ := firstW_some g hs hf
    rw [h u h1] at h3; cases h3

/-! ### counts -/
theorem sum_add {α : Type} (l : List α) (f g : α → Nat) : (l.map fun x => f x + g x).sum = (l.map f).sum + (l.map g).sum := by
  induction l with
  | nil => rfl
  | cons x l ih => simp only [List.map_cons, List.sum_cons, ih]; omega
theorem sum_congr {α : Type} {l : List α} {f g : α → Nat} (h : ∀ x ∈ l, f x = g x) : (l.map f).sum = (l.map g).sum := by rw [List.map_congr_left h]
/-- What is in and what is out is all. -/
theorem cnt_not {d : Aut} (g : Df.Good d) (k : Nat) {s : Nat} (hs : s < d.next.length) : cnt d k s + cnt (notA d) k s = d.L.toNat ^ k := by
  induction k generalizing s with
  | zero =>
    show (if finA d s = true then 1 else 0) + (if finA (notA d) s = true then 1 else 0) = 1
    rw [notA_fin g hs]
    cases finA d s <;> rfl
  | succ k ih =>
    show ((List.range d.L.toNat).map fun a => cnt d k (step d s a)).sum + ((List.range d.L.toNat).map fun a => cnt (notA d) k (step d s a)).sum = _
    rw [← sum_add]
    rw [sum_congr (g := fun _ => d.L.toNat ^ k) (fun a ha => ih (g.step_lt hs (by rw [List.mem_range] at ha; omega)))]
    have : ∀ (n b : Nat), ((List.range n).map fun _ => b).sum = n * b := by
      intro n b
      induction n with
      | zero => simp
      | succ n ih => rw [List.range_succ, List.map_append, List.sum_append, ih, Nat.succ_mul]; simp
    rw [this, Nat.pow_succ, Nat.mul_comm]
/-- Counts of an automaton that is numbered by what is found. -/
def cntS {α : Type} (S : α → List α) (f : α → Bool) : Nat → α → Nat
  | 0, x => if f x = true then 1 else 0
  | k + 1, x => ((S x).map (cntS S f k)).sum
theorem cnt_autOf {α : Type} [DecidableEq α] {L : Int} {S : α → List α} {a : α} {l : List α} {f : α → Bool} (h : Whole S a l) (hS : ∀ x ∈ l, ((S x).length : Int) = L) (k : Nat) {x : α} (hx : x ∈ l) :
    cnt (autOf L S l f) k (num l x) = cntS S f k x := by
  induction k generalizing x with
  | zero =>
    show (if finA (autOf L S l f) (num l x) = true then 1 else 0) = if f x = true then 1 else 0
    have : finA (autOf L S l f) (num l x) = f x := by
      unfold finA autOf
      simp only [List.getElem?_map]
      rw [idx_get hx]; rfl
    rw [this]
  | succ k ih =>
    show ((List.range L.toNat).map fun c => cnt (autOf L S l f) k (step (autOf L S l f) (num l x) c)).sum = ((S x).map (cntS S f k)).sum
    have hl := hS x hx
    have e : (S x).map (cntS S f k) = (List.range L.toNat).map fun c => cntS S f k (via S x c) := by
      refine List.ext_getElem? fun c => ?_
      rw [List.getElem?_map, List.getElem?_map]
      by_cases hc : c < L.toNat
      · rw [List.getElem?_range hc]
        have hc' : c < (S x).length := by omega
        have : via S x c = (S x)[c] := by unfold via; rw [List.getElem?_eq_getElem hc']; rfl
        rw [List.getElem?_eq_getElem hc', Option.map_some, Option.map_some, this]
      · rw [List.getElem?_eq_none (by omega), List.getElem?_eq_none (by simp; omega)]; rfl
    rw [e]
    refine sum_congr fun c hc => ?_
    rw [List.mem_range] at hc
    obtain ⟨h1, h2⟩ := autOf_step (f := f) h hS hx (c := c) (by omega)
    rw [h2, ih h1]
theorem cntS_one {a b : Aut} (g : Good2 a b) (k : Nat) (p : Nat × Nat) : cntS (S2 a b) (fun p => finA a p.1) k p = cnt a k p.1 ∧ cntS (S2 a b) (fun p => finA b p.2) k p = cnt b k p.2 := by
  induction k generalizing p with
  | zero => exact ⟨rfl, rfl⟩
  | succ k ih =>
    constructor
    · show ((S2 a b p).map (cntS (S2 a b) (fun p => finA a p.1) k)).sum = ((List.range a.L.toNat).map fun c => cnt a k (step a p.1 c)).sum
      unfold S2
      rw [List.map_map]
      exact sum_congr fun c _ => (ih _).1
    · show ((S2 a b p).map (cntS (S2 a b) (fun p => finA b p.2) k)).sum = ((List.range b.L.toNat).map fun c => cnt b k (step b p.2 c)).sum
      rw [← g.eL]
      unfold S2
      rw [List.map_map]
      exact sum_congr fun c _ => (ih _).2
theorem cntS_add {α : Type} (S : α → List α) (f1 f2 f3 f4 : α → Bool) (h : ∀ x, (if f1 x = true then 1 else 0) + (if f2 x = true then 1 else 0) = (if f3 x = true then 1 else 0) + (if f4 x = true then 1 else 0 : Nat)) (k : Nat) (x : α) :
    cntS S f1 k x + cntS S f2 k x = cntS S f3 k x + cntS S f4 k x := by
  induction k generalizing x with
  | zero => exact h x
  | succ k ih =>
    show ((S x).map (cntS S f1 k)).sum + ((S x).map (cntS S f2 k)).sum = ((S x).map (cntS S f3 k)).sum + ((S x).map (cntS S f4 k)).sum
    rw [← sum_add, ← sum_add]
    exact sum_congr fun y _ => ih y
/-- Those of either, and of both, are those of the one and those of the other one. -/
theorem cnt_adds {a b : Aut} (g : Good2 a b) {l : List (Nat × Nat)} (hf : found (S2 a b) (start2 a b) = some l) (k : Nat) :
    cnt (autOf a.L (S2 a b) l (fun p => finA a p.1 && finA b p.2)) k 0 + cnt (autOf a.L (S2 a b) l (fun p => finA a p.1 || finA b p.2)) k 0 = cnt a k a.s.toNat + cnt b k b.s.toNat := by
  have hw := found_whole hf
  have hm : start2 a b ∈ l := List.mem_of_getElem? hw.hd
  have h0 : num l (start2 a b) = 0 := idx_of hw.nd hw.hd
  have h1 := cnt_autOf (L := a.L) (f := fun p => finA a p.1 && finA b p.2) hw (fun x _ => S2_len g x) k hm
  have h2 := cnt_autOf (L := a.L) (f := fun p => finA a p.1 || finA b p.2) hw (fun x _ => S2_len g x) k hm
  rw [h0] at h1 h2
  obtain ⟨h3, h4⟩ := cntS_one g k (start2 a b)
  rw [h1, h2, cntS_add (S2 a b) _ _ (fun p => finA a p.1) (fun p => finA b p.2) (fun p => by cases finA a p.1 <;> cases finA b p.2 <;> rfl), h3, h4]
  rfl

/-! ### trimmed -/
def trimA (d : Aut) : Aut := autOf d.L (S1 d) (rset d d.s.toNat) (finA d)
theorem S1_len {d : Aut} (g : Df.Good d) (q : Nat) : ((S1 d q).length : Int) = d.L := by rw [S1_length]; have := g.l1; omega
theorem trim_good {d : Aut} (g : Df.Good d) : Df.Good (trimA d) := autOf_good (rset_whole g g.s_lt) g.l1 g.l6 (fun x _ => S1_len g x)
theorem via1 {d : Aut} (q : Nat) {c : Nat} (hc : (c : Int) < d.L) : via (S1 d) q c = step d q c := by unfold via; rw [S1_get d q hc]; rfl
theorem viaAll1 {d : Aut} {w : List Int} (hw : Word d.L w) (q : Nat) : viaAll (S1 d) q w = runA d q w := by
  induction w generalizing q with
  | nil => rfl
  | cons x w ih =>
    have hx := hw x List.mem_cons_self
    show viaAll _ (via _ _ _) w = _
    rw [ih (fun y hy => hw y (List.mem_cons_of_mem _ hy)), via1 q (by omega)]; rfl
theorem trim_acc {d : Aut} (g : Df.Good d) {w : List Int} (hw : Word d.L w) : accA (trimA d) w = accA d w := by
  unfold trimA
  rw [autOf_acc (rset_whole g g.s_lt) (fun x _ => S1_len g x) hw, viaAll1 hw]; rfl
/-- What is numbered by what is found is found again in the order of its numbers. -/
theorem addTo_map {α β : Type} [DecidableEq α] [DecidableEq β] {l : List α} {t : α} {φ : α → β} {m : List α} (hi : ∀ x ∈ m, ∀ y ∈ m, φ x = φ y → x = y) (hl : ∀ x ∈ l, x ∈ m) (ht : t ∈ m) : addTo (l.map φ) (φ t) = (addTo l t).map φ := by
  unfold addTo
  by_cases h : t ∈ l
  · rw [if_pos h, if_pos (List.mem_map.2 ⟨t, h, rfl⟩)]
  · rw [if_neg h, if_neg (fun k => ?_), List.map_append]; rfl
    obtain ⟨y, hy, e⟩ := List.mem_map.1 k
    exact h (hi y (hl y hy) t ht e ▸ hy)
theorem addAll_map {α β : Type} [DecidableEq α] [DecidableEq β] {l ts : List α} {φ : α → β} {m : List α} (hi : ∀ x ∈ m, ∀ y ∈ m, φ x = φ y → x = y) (hl : ∀ x ∈ l, x ∈ m) (ht : ∀ t ∈ ts, t ∈ m) : addAll (l.map φ) (ts.map φ) = (addAll l ts).map φ := by
  induction ts generalizing l with
  | nil => rfl
  | cons t ts ih =>
    show addAll (addTo (l.map φ) (φ t)) (ts.map φ) = (addAll (addTo l t) ts).map φ
    rw [addTo_map hi hl (ht t List.mem_cons_self)]
    refine ih (fun x hx => ?_) (fun y hy => ht y (List.mem_cons_of_mem _ hy))
    rcases mem_addTo.1 hx with h | rfl
    · exact hl x h
    · exact ht _ List.mem_cons_self
theorem S1_autOf {α : Type} [DecidableEq α] {L : Int} {S : α → List α} {a : α} {l : List α} {f : α → Bool} (h : Whole S a l) (hS : ∀ x ∈ l, ((S x).length : Int) = L) {x : α} (hx : x ∈ l) : S1 (autOf L S l f) (num l x) = (S x).map (num l) := by
  have hl := hS x hx
  refine List.ext_getElem? fun c => ?_
  rw [List.getElem?_map]
  by_cases hc : (c : Int) < L
  · rw [S1_get (autOf L S l f) (num l x) (c := c) hc]
    obtain ⟨_, h2⟩ := autOf_step (f := f) h hS hx (c := c) hc
    have hc' : c < (S x).length := by omega
    have : via S x c = (S x)[c] := by unfold via; rw [List.getElem?_eq_getElem hc']; rfl
    rw [h2, this, List.getElem?_eq_getElem hc', Option.map_some]
  · rw [List.getElem?_eq_none (by rw [S1_length]; show L.toNat ≤ c; omega), List.getElem?_eq_none (by omega)]; rfl
theorem expl_map {α : Type} [DecidableEq α] {L : Int} {S : α → List α} {a : α} {l : List α} {f : α → Bool} (h : Whole S a l) (hS : ∀ x ∈ l, ((S x).length : Int) = L) :
    ∀ (n i : Nat) (k : List α), expl S n i k = some l → (∀ x ∈ k, x ∈ l) → expl (S1 (autOf L S l f)) n i (k.map (num l)) = some (l.map (num l)) := by
  have hi : ∀ x ∈ l, ∀ y ∈ l, num l x = num l y → x = y := fun x hx y hy e => by
    have h1 := idx_get hx
    rw [e, idx_get hy] at h1
    exact (Option.some.inj h1).symm
  intro n
  induction n with
  | zero =>
    intro i k e _
    rw [expl] at e ⊢
    obtain rfl := Option.some.inj e
    rfl
  | succ n ih =>
    intro i k e hk
    rcases hx : k[i]? with _ | x
    · rw [expl, hx] at e
      rw [expl, List.getElem?_map, hx]
      obtain rfl := Option.some.inj e
      rfl
    · have hm := hk x (List.mem_of_getElem? hx)
      rw [expl, hx] at e
      rw [expl, List.getElem?_map, hx]
      simp only [Option.map_some] at e ⊢
      rw [S1_autOf h hS hm, addAll_map hi hk (h.closed x hm), List.length_map]
      by_cases hl : 40 < (addAll k (S x)).length
      · rw [if_pos hl] at e; cases e
      · rw [if_neg hl] at e ⊢
        refine ih _ _ e (fun y hy => ?_)
        rcases mem_addAll.1 hy with hy | hy
        · exact hk y hy
        · exact h.closed x hm y hy
theorem map_num {α : Type} [DecidableEq α] {l : List α} (hn : l.Nodup) : l.map (num l) = List.range l.length := by
  refine List.ext_getElem? fun k => ?_
  rw [List.getElem?_map]
  by_cases hk : k < l.length
  · rw [List.getElem?_range hk, List.getElem?_eq_getElem hk, Option.map_some, idx_of hn (List.getElem?_eq_getElem hk)]
  · rw [List.getElem?_eq_none (by omega), List.getElem?_eq_none (by simp; omega)]; rfl
theorem rset_trim {d : Aut} (g : Df.Good d) : rset (trimA d) 0 = List.range (rset d d.s.toNat).length := by
  have hw := rset_whole g g.s_lt
  obtain ⟨l, hl⟩ := found1 g g.s_lt
  have hr : rset d d.s.toNat = l := by unfold rset; rw [hl]; rfl
  have he : expl (S1 d) 41 0 [d.s.toNat] = some l := hl
  have hs : d.s.toNat ∈ l := by rw [← hr]; exact List.mem_of_getElem? hw.hd
  rw [hr] at hw
  have h1 := expl_map (L := d.L) (f := finA d) hw (fun x _ => S1_len g x) 41 0 [d.s.toNat] he (fun x hx => by simp at hx; subst hx; exact hs)
  rw [List.map_singleton, idx_of hw.nd hw.hd, map_num hw.nd] at h1
  have h2 : found (S1 (trimA d)) 0 = some (List.range l.length) := by
    show expl (S1 (autOf d.L (S1 d) (rset d d.s.toNat) (finA d))) 41 0 [0] = _
    rw [hr]; exact h1
  unfold rset
  rw [h2]
  show List.range l.length = _
  unfold rset at hr
  rw [hr]
theorem num_range {n x : Nat} (h : x < n) : num (List.range n) x = x := idx_of List.nodup_range (List.getElem?_range h)
/-- An automaton, by its steps. -/
theorem good_form {d : Aut} (g : Df.Good d) : d.next = (List.range d.next.length).map (fun q => (S1 d q).map fun (t : Nat) => (t : Int)) ∧ d.fin = (List.range d.next.length).map (finA d) := by
  constructor
  · refine List.ext_getElem? fun q => ?_
    rw [List.getElem?_map]
    by_cases hq : q < d.next.length
    · rw [List.getElem?_range hq, List.getElem?_eq_getElem hq, Option.map_some]
      congr 1
      refine List.ext_getElem? fun c => ?_
      rw [List.getElem?_map]
      have hr := g.row _ (List.getElem_mem hq)
      by_cases hc : (c : Int) < d.L
      · obtain ⟨r, hr1, _, _, hr2, _⟩ := g.at_ hq hc
        rw [List.getElem?_eq_getElem hq] at hr1
        obtain rfl := Option.some.inj hr1
        rw [hr2, S1_get d q hc]; rfl
      · rw [List.getElem?_eq_none (by omega), List.getElem?_eq_none (by rw [S1_length]; omega)]; rfl
    · rw [List.getElem?_eq_none (by omega), List.getElem?_eq_none (by simp; omega)]; rfl
  · refine List.ext_getElem? fun q => ?_
    rw [List.getElem?_map]
    by_cases hq : q < d.next.length
    · rw [List.getElem?_range hq, g.fin_at hq]; rfl
    · rw [List.getElem?_eq_none (by rw [g.fin]; omega), List.getElem?_eq_none (by simp; omega)]; rfl
/-- Trimmed again it is as it was. -/
theorem trim_trim {d : Aut} (g : Df.Good d) : trimA (trimA d) = trimA d := by
  have gt := trim_good g
  have hn : (trimA d).next.length = (rset d d.s.toNat).length := by unfold trimA autOf; simp
  obtain ⟨h1, h2⟩ := good_form gt
  have hs : (trimA d).s.toNat = 0 := rfl
  have e : trimA (trimA d) = ⟨(trimA d).L, 0, (rset (trimA d) 0).map (srow (S1 (trimA d)) (rset (trimA d) 0)), (rset (trimA d) 0).map (finA (trimA d))⟩ := by
    show autOf (trimA d).L (S1 (trimA d)) (rset (trimA d) (trimA d).s.toNat) (finA (trimA d)) = _
    rw [hs]; rfl
  have hsr : ∀ q, q < (trimA d).next.length → srow (S1 (trimA d)) (List.range (trimA d).next.length) q = (S1 (trimA d) q).map fun (t : Nat) => (t : Int) := fun q hq => by
    unfold srow
    exact List.map_congr_left fun t ht => by rw [num_range (S1_lt gt hq ht)]
  rw [e, rset_trim g, ← hn]
  have e3 : (List.range (trimA d).next.length).map (srow (S1 (trimA d)) (List.range (trimA d).next.length)) = (trimA d).next := by
    conv => rhs; rw [h1]
    exact List.map_congr_left fun q hq => hsr q (List.mem_range.1 hq)
  rw [e3, ← h2]
  rfl
theorem trim_reached {d : Aut} (g : Df.Good d) : (upto (trimA d).next.length (isReached (trimA d) 0)).length = (trimA d).next.length := by
  have hn : (trimA d).next.length = (rset d d.s.toNat).length := by unfold trimA autOf; simp
  unfold upto
  rw [List.length_map, List.filter_eq_self.2 (fun t ht => ?_), List.length_range]
  unfold isReached
  rw [rset_trim g, ← hn]
  exact decide_eq_true ht
theorem reached_length {d : Aut} (g : Df.Good d) : (upto d.next.length (isReached d d.s.toNat)).length = (trimA d).next.length := by
  have hn : (trimA d).next.length = (rset d d.s.toNat).length := by unfold trimA autOf; simp
  unfold upto
  rw [List.length_map, hn]
  have hf : ((List.range d.next.length).filter (isReached d d.s.toNat)).Nodup := List.nodup_range.filter _
  refine Nat.le_antisymm (nodup_sub hf (fun x hx => ?_)) (nodup_sub (rset_whole g g.s_lt).nd (fun x hx => ?_))
  · have := (List.mem_filter.1 hx).2
    exact of_decide_eq_true this
  · exact List.mem_filter.2 ⟨List.mem_range.2 (rset_lt g g.s_lt hx), decide_eq_true hx⟩
end Go.Proofs.YtlhhhdgkdbplmaaDoor.Rc
