/- Plain mathematics of duels as the program and the document go about them: the check by its rounds, lists of what a function says, ranks round by round, moves. -/
import Derived.Test.YtkphdegelhlpeaaDuelM
namespace Go.Proofs.Ytkphdegelhlpeaa.Du
open Go.Proofs.Ytkphdegelhlpeaa.Rc

/-! ### the check, by its rounds -/
theorem toChk_next {a : Ar} {k : Nat} (h : toChk a k = 0) : toChk a (k + 1) = rowChk a.next.length (ownA a k) (rowA a k) := by
  rw [toChk, if_neg (fun q => q h)]
theorem toChk_stays {a : Ar} {k : Nat} (h : toChk a k ≠ 0) : ∀ j, toChk a (k + j) = toChk a k
  | 0 => rfl
  | j + 1 => by rw [← Nat.add_assoc, toChk, if_pos (by rw [toChk_stays h j]; exact h), toChk_stays h j]
theorem achk_at {a : Ar} (h1 : a.next.length ≠ 0) (h2 : a.own.length = a.next.length) (h3 : a.goal.length = a.next.length) (h4 : a.next.length ≤ 40) : achk a = toChk a a.next.length := by
  unfold achk
  rw [if_neg (by omega), if_neg (by omega)]
theorem achk_bad {a : Ar} (h1 : a.next.length ≠ 0) (h2 : a.own.length = a.next.length) (h3 : a.goal.length = a.next.length) (h4 : a.next.length ≤ 40) {k e : Nat} (hk : k < a.next.length) (h0 : toChk a k = 0) (he : rowChk a.next.length (ownA a k) (rowA a k) = e) (hz : e ≠ 0) : achk a = e := by
  rw [achk_at h1 h2 h3 h4]
  have h := toChk_next h0
  obtain ⟨j, hj⟩ : ∃ j, a.next.length = k + 1 + j := ⟨a.next.length - (k + 1), by omega⟩
  rw [hj, toChk_stays (by omega) j, h, he]
theorem rowChk_own {n : Nat} {o : Int} {r : List Int} (h : ¬ (0 ≤ o ∧ o ≤ 1)) : rowChk n o r = 1 := by
  unfold rowChk
  rw [if_pos (by omega)]
theorem rowChk_none {n : Nat} {o : Int} {r : List Int} (h : 0 ≤ o ∧ o ≤ 1) (hr : r.length = 0) : rowChk n o r = 3 := by
  unfold rowChk
  rw [if_neg (by omega), if_pos hr]
theorem rowChk_many {n : Nat} {o : Int} {r : List Int} (h : 0 ≤ o ∧ o ≤ 1) (hr : 40 < r.length) : rowChk n o r = 4 := by
  unfold rowChk
  rw [if_neg (by omega), if_neg (by omega), if_pos hr]
theorem rowChk_out {n : Nat} {o : Int} {r : List Int} (h : 0 ≤ o ∧ o ≤ 1) (hr : r.length ≠ 0) (h4 : r.length ≤ 40) {x : Int} (hx : x ∈ r) (hb : ¬ (0 ≤ x ∧ x ≤ (n : Int) - 1)) : rowChk n o r = 1 := by
  unfold rowChk
  rw [if_neg (by omega), if_neg hr, if_neg (by omega), if_neg]
  intro q
  have := List.all_eq_true.1 q x hx
  simp at this
  omega
theorem rowChk_well {n : Nat} {o : Int} {r : List Int} (h : 0 ≤ o ∧ o ≤ 1) (hr : r.length ≠ 0) (h4 : r.length ≤ 40) (hx : ∀ x ∈ r, 0 ≤ x ∧ x ≤ (n : Int) - 1) : rowChk n o r = 0 :=
  rowChk_iff.2 ⟨by omega, by omega, h4, fun x q => by have := hx x q; omega⟩

/-! ### lists of what a function says -/
/-- The list of what a function says of the first n. -/
def fT {α : Type} (n : Nat) (f : Nat → α) : List α := (List.range n).map f
theorem fT_length {α : Type} (n : Nat) (f : Nat → α) : (fT n f).length = n := by simp [fT]
theorem fT_get {α : Type} {n : Nat} (f : Nat → α) {t : Nat} (h : t < n) : (fT n f)[t]? = some (f t) := by simp [fT, h]
theorem fT_congr {α : Type} {n : Nat} {f g : Nat → α} (h : ∀ t, t < n → f t = g t) : fT n f = fT n g := by
  unfold fT
  exact List.map_congr_left fun t ht => h t (List.mem_range.1 ht)
theorem fT_set {α : Type} {n : Nat} (f : Nat → α) (i : Nat) (x : α) : (fT n f).set i x = fT n (fun t => if t = i then x else f t) := by
  apply List.ext_getElem?
  intro t
  by_cases ht : t < n
  · rw [fT_get _ ht, List.getElem?_set, fT_get _ ht, fT_length]
    by_cases e : i = t
    · rw [if_pos e, if_pos (e ▸ ht), if_pos e.symm]
    · rw [if_neg e, if_neg (fun q => e q.symm)]
  · rw [List.getElem?_eq_none (by rw [List.length_set, fT_length]; omega), List.getElem?_eq_none (by rw [fT_length]; omega)]
theorem fT_rep {α : Type} (n : Nat) (x : α) : List.replicate n x = fT n (fun _ => x) := by
  unfold fT; rw [List.map_const', List.length_range]
/-- The first p places anew. -/
def mix {α : Type} (f g : Nat → α) (p t : Nat) : α := if t < p then f t else g t
theorem mix_zero {α : Type} (n : Nat) (f g : Nat → α) : fT n (mix f g 0) = fT n g := fT_congr fun t _ => by unfold mix; rw [if_neg (by omega)]
theorem mix_all {α : Type} (n : Nat) (f g : Nat → α) : fT n (mix f g n) = fT n f := fT_congr fun t ht => by unfold mix; rw [if_pos ht]
theorem mix_at {α : Type} (f g : Nat → α) (p : Nat) : mix f g p p = g p := by unfold mix; rw [if_neg (by omega)]
theorem mix_done {α : Type} (f g : Nat → α) (p : Nat) : mix f g (p + 1) p = f p := by unfold mix; rw [if_pos (by omega)]
theorem mix_next {α : Type} (n : Nat) (f g : Nat → α) (p : Nat) {x : α} (h : f p = x) : (fT n (mix f g p)).set p x = fT n (mix f g (p + 1)) := by
  rw [fT_set]
  refine fT_congr fun t _ => ?_
  unfold mix
  by_cases e : t = p
  · subst e; rw [if_pos rfl, if_pos (by omega), h]
  · rw [if_neg e]
    by_cases e2 : t < p
    · rw [if_pos e2, if_pos (by omega)]
    · rw [if_neg e2, if_neg (by omega)]
theorem mix_same {α : Type} (n : Nat) (f g : Nat → α) (p : Nat) (h : f p = g p) : fT n (mix f g p) = fT n (mix f g (p + 1)) := by
  refine fT_congr fun t _ => ?_
  unfold mix
  by_cases e : t = p
  · subst e; rw [if_neg (by omega), if_pos (by omega), h]
  · by_cases e2 : t < p
    · rw [if_pos e2, if_pos (by omega)]
    · rw [if_neg e2, if_neg (by omega)]
theorem any_take {r : List Int} {f : Int → Bool} {i : Nat} (h : i < r.length) : (r.take (i + 1)).any f = ((r.take i).any f || f r[i]) := by
  rw [List.take_add_one, List.getElem?_eq_getElem h, List.any_append]; simp
theorem all_take {r : List Int} {f : Int → Bool} {i : Nat} (h : i < r.length) : (r.take (i + 1)).all f = ((r.take i).all f && f r[i]) := by
  rw [List.take_add_one, List.getElem?_eq_getElem h, List.all_append]; simp
theorem win_row (a : Ar) (k p : Nat) : win a (k + 1) p = (goalA a p || (ownA a p == 0 && (rowA a p).any fun x => win a k x.toNat) || (ownA a p == 1 && (rowA a p).all fun x => win a k x.toNat)) := by
  rw [win_succ]
  unfold succs
  rw [List.any_map, List.all_map]
  rfl

/-! ### moves, by the first letters -/
theorem fT_snoc {α : Type} (p : Nat) (f : Nat → α) {x : α} (h : f p = x) : fT (p + 1) f = fT p f ++ [x] := by unfold fT; rw [List.range_succ, List.map_append]; simp [h]
theorem moveTo_more {a : Ar} {p : Nat} {l : List Nat} (h : 0 ≤ moveTo a p l) (m : List Nat) : moveTo a p (l ++ m) = moveTo a p l := by
  unfold moveTo at *
  rw [List.find?_append]
  rcases e : l.find? (pickM a p) with _ | q
  · rw [e] at h
    exact absurd (show (0 : Int) ≤ -1 from h) (by decide)
  · rfl
theorem moveTo_neg {a : Ar} {p : Nat} {l : List Nat} (h : moveTo a p l < 0) : moveTo a p l = -1 := by
  unfold moveTo at *
  rcases e : l.find? (pickM a p) with _ | q
  · rfl
  · rw [e] at h
    have h : (q : Int) < 0 := h
    omega
theorem moveTo_end {a : Ar} {p j : Nat} (h : (succs a p).length ≤ j ∨ 0 ≤ moveTo a p ((succs a p).take j)) : moveTo a p ((succs a p).take j) = moveA a p := by
  unfold moveA
  rcases h with h | h
  · rw [List.take_of_length_le h]
  · conv => rhs; rw [← List.take_append_drop j (succs a p)]
    exact (moveTo_more h _).symm
theorem moveTo_at {a : Ar} {p j q : Nat} (h : (succs a p)[j]? = some q) (hm : moveTo a p ((succs a p).take j) < 0) : moveTo a p ((succs a p).take (j + 1)) = if pickM a p q = true then (q : Int) else -1 := by
  rw [List.take_add_one, h]
  show moveTo a p (_ ++ [q]) = _
  rw [moveTo_snoc, if_pos hm]
/-! ### the program's rounds -/
/-- The places that get their rank in round k + 1. -/
def fnd (a : Ar) (k p : Nat) : Bool := decide (rankTo a k p = -1) && win a (k + 1) p
theorem rankTo_ge (a : Ar) (k p : Nat) : -1 ≤ rankTo a k p := by
  by_cases h : rankTo a k p < 0
  · rw [rankTo_neg h]; omega
  · omega
theorem rankTo_one {a : Ar} {k p : Nat} : rankTo a k p = -1 ↔ win a k p = false := by
  rw [← rankTo_no]
  constructor
  · intro h; omega
  · exact rankTo_neg
theorem rankTo_has {a : Ar} {k p : Nat} : (rankTo a k p != -1) = win a k p := by
  rcases h : win a k p with _ | _
  · rw [rankTo_one.2 h]; rfl
  · have : rankTo a k p ≠ -1 := fun e => by rw [rankTo_one.1 e] at h; cases h
    exact bne_iff_ne.2 this
theorem rankTo_not {a : Ar} {k p : Nat} : (rankTo a k p == -1) = !win a k p := by
  have h := rankTo_has (a := a) (k := k) (p := p)
  rw [← h, bne]; simp
theorem rankTo_le (a : Ar) (k p : Nat) : rankTo a k p ≤ k := by
  by_cases h : rankTo a k p < 0
  · omega
  · obtain ⟨j, hj⟩ := Int.eq_ofNat_of_zero_le (show 0 ≤ rankTo a k p by omega)
    have := (rankTo_iff.1 hj).1
    omega
/-- Whether the owner of a place moves to one with a rank, as the program asks it. -/
def leadsB (o : Int) (r : List Int) (f : Int → Int) : Bool := if o = 0 then r.any (fun x => f x != -1) else !r.any (fun x => f x == -1)
theorem leads_win {a : Ar} (g : Good a) {k p : Nat} (hp : p < a.next.length) (h : rankTo a k p = -1) : leadsB (ownA a p) (rowA a p) (fun x => rankTo a k x.toNat) = win a (k + 1) p := by
  have hw := rankTo_one.1 h
  have hg : goalA a p = false := by
    rcases e : goalA a p with _ | _
    · rfl
    · rw [win_goal e] at hw; cases hw
  unfold leadsB
  rcases (g.fit p hp).own with o | o
  · rw [o, if_pos rfl, win_own0 hg o]
    unfold succs
    rw [List.any_map]
    congr 1
    funext x
    exact rankTo_has
  · rw [o, if_neg (by decide), win_own1 hg o]
    unfold succs
    rw [List.all_map, List.not_any_eq_all_not]
    congr 1
    funext x
    show (!(rankTo a k x.toNat == -1)) = win a k x.toNat
    rw [rankTo_not]; simp
theorem fnd_yes {a : Ar} (g : Good a) {k p : Nat} (hp : p < a.next.length) (h : rankTo a k p = -1) : fnd a k p = leadsB (ownA a p) (rowA a p) (fun x => rankTo a k x.toNat) := by
  unfold fnd
  rw [leads_win g hp h, decide_eq_true h, Bool.true_and]
theorem fnd_no {a : Ar} {k p : Nat} (h : rankTo a k p ≠ -1) : fnd a k p = false := by
  unfold fnd
  rw [decide_eq_false h, Bool.false_and]
theorem upto_hit {n : Nat} {p : Nat → Bool} (h : p n = true) : upto (n + 1) p = upto n p ++ [(n : Int)] := by rw [upto_succ, if_pos h]
theorem upto_miss {n : Nat} {p : Nat → Bool} (h : p n = false) : upto (n + 1) p = upto n p := by rw [upto_succ, if_neg (by rw [h]; decide), List.append_nil]
theorem mem_upto {n : Nat} {p : Nat → Bool} {x : Int} : x ∈ upto n p ↔ ∃ s : Nat, s < n ∧ p s = true ∧ x = (s : Int) := by
  unfold upto
  rw [List.mem_map]
  constructor
  · rintro ⟨s, hs, rfl⟩
    obtain ⟨h1, h2⟩ := List.mem_filter.1 hs
    exact ⟨s, List.mem_range.1 h1, h2, rfl⟩
  · rintro ⟨s, h1, h2, rfl⟩
    exact ⟨s, List.mem_filter.2 ⟨List.mem_range.2 h1, h2⟩, rfl⟩
theorem fnd_still {a : Ar} {k : Nat} (h : (upto a.next.length (fnd a k)).length = 0) : Still a k := fun p hp hw => by
  rcases e : win a k p with _ | _
  · have : (p : Int) ∈ upto a.next.length (fnd a k) := mem_upto.2 ⟨p, hp, by unfold fnd; rw [decide_eq_true (rankTo_one.2 e), hw]; rfl, rfl⟩
    rw [List.length_eq_zero_iff.1 h] at this
    simp at this
  · rfl
theorem still_rank {a : Ar} (g : Good a) {k p : Nat} (h : Still a k) (hp : p < a.next.length) : rankTo a k p = rank a p := by
  by_cases hn : rankTo a k p < 0
  · have hw := rankTo_no.1 hn
    rw [rankTo_neg hn, rank_neg ((rank_no g hp).2 fun m => by
      rcases e : win a m p with _ | _
      · rfl
      · rw [still_all g h hp e] at hw; cases hw)]
  · obtain ⟨j, hj⟩ := Int.eq_ofNat_of_zero_le (show 0 ≤ rankTo a k p by omega)
    obtain ⟨_, h2, h3⟩ := rankTo_iff.1 hj
    rw [hj]
    exact ((rank_iff g hp).2 ⟨h2, h3⟩).symm
theorem ranks_end {a : Ar} (g : Good a) {k : Nat} (h : (upto a.next.length (fnd a k)).length = 0) : fT a.next.length (rankTo a k) = fT a.next.length (rank a) :=
  fT_congr fun _ ht => still_rank g (fnd_still h) ht
/-- Where a round still finds some, it is not among the last ones. -/
theorem round_lt {a : Ar} (g : Good a) {k : Nat} (h : (upto a.next.length (fnd a k)).length ≠ 0) : k + 2 ≤ a.next.length := by
  obtain ⟨j, hj, hs⟩ := still_ex g
  by_cases e : k < j
  · omega
  · exfalso
    apply h
    have hk : Still a k := by
      obtain ⟨m, rfl⟩ : ∃ m, k = j + m := ⟨k - j, by omega⟩
      clear e h
      induction m with
      | zero => exact hs
      | succ m ih => exact still_next g ih
    rw [List.length_eq_zero_iff]
    apply List.eq_nil_iff_forall_not_mem.2
    intro x hx
    obtain ⟨s, h1, h2, _⟩ := mem_upto.1 hx
    unfold fnd at h2
    rw [Bool.and_eq_true, decide_eq_true_iff] at h2
    have := hk s h1 h2.2
    rw [rankTo_one.1 h2.1] at this
    cases this
/-- The first of a list get a number. -/
def lay (f : Nat → Int) (l : List Int) (x : Int) (i t : Nat) : Int := if (t : Int) ∈ l.take i then x else f t
theorem lay_zero (n : Nat) (f : Nat → Int) (l : List Int) (x : Int) : fT n (lay f l x 0) = fT n f := fT_congr fun t _ => by unfold lay; rw [if_neg (by simp)]
theorem lay_set {n : Nat} (f : Nat → Int) {l : List Int} (x : Int) {i q : Nat} (h : l[i]? = some (q : Int)) : (fT n (lay f l x i)).set q x = fT n (lay f l x (i + 1)) := by
  rw [fT_set]
  refine fT_congr fun t _ => ?_
  unfold lay
  rw [List.take_add_one, h]
  by_cases e : t = q
  · subst e; rw [if_pos rfl, if_pos (by simp)]
  · rw [if_neg e]
    by_cases e2 : (t : Int) ∈ l.take i
    · rw [if_pos e2, if_pos (List.mem_append_left _ e2)]
    · rw [if_neg e2, if_neg (fun h => by
        rcases List.mem_append.1 h with h | h
        · exact e2 h
        · simp at h; omega)]
theorem lay_end {a : Ar} {k i : Nat} (h : (upto a.next.length (fnd a k)).length ≤ i) : fT a.next.length (lay (rankTo a k) (upto a.next.length (fnd a k)) ((k + 1 : Nat) : Int) i) = fT a.next.length (rankTo a (k + 1)) := by
  refine fT_congr fun t ht => ?_
  unfold lay
  rw [List.take_of_length_le h, rankTo_succ]
  by_cases hm : (t : Int) ∈ upto a.next.length (fnd a k)
  · obtain ⟨s, h1, h2, h3⟩ := mem_upto.1 hm
    obtain rfl : t = s := by omega
    unfold fnd at h2
    rw [Bool.and_eq_true, decide_eq_true_iff] at h2
    rw [if_pos hm, if_pos (by omega), if_pos h2.2]
  · rw [if_neg hm]
    by_cases hn : rankTo a k t < 0
    · rw [if_pos hn, if_neg, rankTo_neg hn]
      intro hw
      exact hm (mem_upto.2 ⟨t, ht, by unfold fnd; rw [decide_eq_true (rankTo_neg hn), hw]; rfl, rfl⟩)
    · rw [if_neg hn]

/-! ### the program's moves -/
theorem find_map_nat {r : List Int} (hr : ∀ x ∈ r, 0 ≤ x) (p : Nat → Bool) {q : Nat} (h : (r.map Int.toNat).find? p = some q) : r.find? (fun x => p x.toNat) = some (q : Int) := by
  rw [List.find?_map, Option.map_eq_some_iff] at h
  obtain ⟨x, hx, rfl⟩ := h
  have h0 := hr x (List.mem_of_find?_eq_some hx)
  rw [Int.toNat_of_nonneg h0]
  exact hx
theorem move_is0 {a : Ar} (g : Good a) {p : Nat} (hp : p < a.next.length) (ho : ownA a p = 0) (h : 0 < rank a p) : (rowA a p).find? (fun x => rank a x.toNat == rank a p - 1) = some (moveA a p) := by
  obtain ⟨q, hq, _, _⟩ := move_force g hp ho h
  have e : (fun q => rank a q == rank a p - 1) = pickM a p := by
    funext q
    unfold pickM
    rw [ho]; simp [h]
  rw [hq]
  refine find_map_nat (fun x hx => ((g.fit p hp).go x hx).1) (fun q => rank a q == rank a p - 1) ?_
  rw [e]
  unfold moveA moveTo at hq
  have e2 : (rowA a p).map Int.toNat = succs a p := rfl
  rw [e2]
  rcases h2 : (succs a p).find? (pickM a p) with _ | m
  · rw [h2] at hq
    have hq : (-1 : Int) = (q : Int) := hq
    omega
  · rw [h2] at hq
    have hq : (m : Int) = (q : Int) := hq
    rw [show m = q by omega]
theorem move_is1 {a : Ar} (g : Good a) {p : Nat} (hp : p < a.next.length) (ho : ownA a p = 1) (h : rank a p = -1) : (rowA a p).find? (fun x => rank a x.toNat == -1) = some (moveA a p) := by
  obtain ⟨q, hq, _, _⟩ := move_hide g hp ho (by omega)
  have e : (fun q => rank a q == -1) = pickM a p := by
    funext q
    unfold pickM
    rw [ho, h]
    have := rank_ge a q
    rw [Bool.eq_iff_iff]
    simp
    omega
  rw [hq]
  refine find_map_nat (fun x hx => ((g.fit p hp).go x hx).1) (fun q => rank a q == -1) ?_
  rw [e]
  unfold moveA moveTo at hq
  have e2 : (rowA a p).map Int.toNat = succs a p := rfl
  rw [e2]
  rcases h2 : (succs a p).find? (pickM a p) with _ | m
  · rw [h2] at hq
    have hq : (-1 : Int) = (q : Int) := hq
    omega
  · rw [h2] at hq
    have hq : (m : Int) = (q : Int) := hq
    rw [show m = q by omega]
theorem move_no {a : Ar} {p : Nat} (h0 : ¬ (ownA a p = 0 ∧ 0 < rank a p)) (h1 : ¬ (ownA a p = 1 ∧ rank a p = -1)) : moveA a p = -1 := by
  have hb := rank_ge a p
  unfold moveA moveTo
  rcases h2 : (succs a p).find? (pickM a p) with _ | m
  · rfl
  · have := List.find?_some h2
    unfold pickM at this
    simp at this
    omega
end Go.Proofs.Ytkphdegelhlpeaa.Du
