/- Plain mathematics of package reach's search: what is found, each with a word; the words are the first that lead there. Plain mathematics of package small's search: pairs that are found, each with a word; the words are the first that lead there. Plain mathematics of package small's Minimal: states put into classes, finer and finer; one state of each class, numbered as they are found. -/
import Derived.Test.YtbciefeipiphiaaDoorDfaM

namespace Go.Proofs.YtbciefeipiphiaaDoor.Rc
open Go.Proofs.YtbciefeipiphiaaDoor.Df Go.Proofs.YtbciefeipiphiaaDoor.Wo

/-- One that is found, and a word that leads to it. -/
abbrev Fd := Nat × List Int
def known (l : List Fd) (t : Nat) : Prop := t ∈ l.map (·.1)
instance (l : List Fd) (t : Nat) : Decidable (known l t) := inferInstanceAs (Decidable (_ ∈ _))
/-- A state is added, with its word, if it is new. -/
def addW (l : List Fd) (t : Nat) (w : List Int) : List Fd := if known l t then l else l ++ [(t, w)]
/-- All that follow x, by the letters below c. -/
def addTo' (d : Aut) (l : List Fd) (x : Fd) : Nat → List Fd
  | 0 => l
  | c + 1 => addW (addTo' d l x c) (Df.step d x.1 c) (x.2 ++ [(c : Int)])
theorem addW_prefix (l : List Fd) (t : Nat) (w : List Int) : ∃ m, addW l t w = l ++ m := by
  unfold addW; split
  · exact ⟨[], by simp⟩
  · exact ⟨[(t, w)], rfl⟩
theorem addTo'_prefix (d : Aut) (l : List Fd) (x : Fd) (c : Nat) : ∃ m, addTo' d l x c = l ++ m := by
  induction c with
  | zero => exact ⟨[], by simp [addTo']⟩
  | succ c ih =>
    obtain ⟨m, hm⟩ := ih
    obtain ⟨m', hm'⟩ := addW_prefix (addTo' d l x c) (Df.step d x.1 c) (x.2 ++ [(c : Int)])
    exact ⟨m ++ m', by rw [addTo', hm', hm, List.append_assoc]⟩
theorem addTo'_length (d : Aut) (l : List Fd) (x : Fd) (c : Nat) : (addTo' d l x c).length ≤ l.length + c := by
  induction c with
  | zero => exact Nat.le_refl _
  | succ c ih =>
    have h : ∀ (m : List Fd) (t : Nat) (w : List Int), (addW m t w).length ≤ m.length + 1 := fun m t w => by
      unfold addW; split
      · omega
      · simp
    have := h (addTo' d l x c) (Df.step d x.1 c) (x.2 ++ [(c : Int)])
    rw [addTo']; omega
theorem addW_states (l : List Fd) (t : Nat) (w : List Int) : (addW l t w).map (·.1) = addTo (l.map (·.1)) t := by
  unfold addW addTo
  by_cases h : known l t
  · have h' : t ∈ l.map (·.1) := h
    rw [if_pos h, if_pos h']
  · have h' : ¬ t ∈ l.map (·.1) := h
    rw [if_neg h, if_neg h', List.map_append]; rfl
theorem addTo'_states (d : Aut) (l : List Fd) (x : Fd) {c : Nat} (hc : (c : Int) ≤ d.L) : (addTo' d l x c).map (·.1) = addAll (l.map (·.1)) ((S1 d x.1).take c) := by
  induction c with
  | zero => simp [addTo', addAll]
  | succ c ih =>
    rw [addTo', addW_states, ih (by omega), addAll_succ (S1_get d x.1 (by omega))]
theorem addTo'_all (d : Aut) (l : List Fd) (x : Fd) (h1 : 1 ≤ d.L) : (addTo' d l x d.L.toNat).map (·.1) = addAll (l.map (·.1)) (S1 d x.1) := by
  rw [addTo'_states d l x (by omega), List.take_of_length_le (by rw [S1_length]; exact Nat.le_refl _)]
/-- What is next to be looked at is ahead of all that is not found yet, and behind all that is. -/
def cand (l : List Fd) (i c : Nat) : List Int := (l[i]?.getD (0, [])).2 ++ [(c : Int)]
theorem lss_len {v w : List Int} (h : v.length < w.length) : lss v w = true := by
  unfold lss; rw [if_neg (by omega)]; exact decide_eq_true h
theorem lx_snoc : ∀ (v w : List Int) (a b : Int), v.length = w.length → lx v w = true → lx (v ++ [a]) (w ++ [b]) = true
  | [], [], _, _, _, h => by simp [lx] at h
  | [], _ :: _, _, _, hl, _ => by simp at hl
  | _ :: _, [], _, _, hl, _ => by simp at hl
  | x :: v, y :: w, a, b, hl, h => by
    rw [lx] at h
    rw [List.cons_append, List.cons_append, lx]
    by_cases e : x = y
    · rw [if_pos e] at h ⊢
      exact lx_snoc v w a b (by simpa using hl) h
    · rw [if_neg e] at h ⊢
      exact h
theorem lx_last : ∀ (v : List Int) (a b : Int), a < b → lx (v ++ [a]) (v ++ [b]) = true
  | [], a, b, h => by
    rw [List.nil_append, List.nil_append, lx, if_neg (by omega)]; exact decide_eq_true h
  | x :: v, a, b, h => by
    rw [List.cons_append, List.cons_append, lx, if_pos rfl]; exact lx_last v a b h
theorem lss_snoc {v w : List Int} (h : lss v w = true) (a b : Int) : lss (v ++ [a]) (w ++ [b]) = true := by
  unfold lss at h ⊢
  simp only [List.length_append, List.length_singleton]
  by_cases e : v.length = w.length
  · rw [if_pos e] at h
    rw [if_pos (by omega)]
    exact lx_snoc v w a b e h
  · rw [if_neg e] at h
    have := of_decide_eq_true h
    rw [if_neg (by omega)]
    exact decide_eq_true (by omega)
theorem lss_last (v : List Int) {a b : Int} (h : a < b) : lss (v ++ [a]) (v ++ [b]) = true := by
  unfold lss
  rw [if_pos (by simp)]
  exact lx_last v a b h
/-- Not behind. -/
def ahead (v w : List Int) : Prop := lss w v = false
theorem ahead_refl (v : List Int) : ahead v v := lss_irr v
theorem ahead_of {v w : List Int} (h : lss v w = true) : ahead v w := lss_asym h
theorem ahead_or {v w : List Int} (h : ahead v w) : v = w ∨ lss v w = true := by
  rcases e : lss v w with _ | _
  · exact .inl (lss_total e h)
  · exact .inr rfl
theorem ahead_trans {u v w : List Int} (h1 : ahead u v) (h2 : ahead v w) : ahead u w := by
  rcases ahead_or h1 with rfl | h1
  · exact h2
  · rcases ahead_or h2 with rfl | h2
    · exact ahead_of h1
    · exact ahead_of (lss_trans h1 h2)
theorem ahead_snoc {v w : List Int} (h : ahead v w) (a : Int) : ahead (v ++ [a]) (w ++ [a]) := by
  rcases ahead_or h with rfl | h
  · exact ahead_refl _
  · exact ahead_of (lss_snoc h a a)
/-- Midway: states below i are done, of state i all letters below c. -/
structure Srch (d : Aut) (s : Nat) (l : List Fd) (i c : Nat) : Prop where
  hd : l[0]? = some (s, [])
  ok : ∀ x ∈ l, Word d.L x.2 ∧ runA d s x.2 = x.1
  sort : l.Pairwise fun x y => lss x.2 y.2 = true
  len : ∀ (k : Nat) (x : Fd), l[k]? = some x → x.2.length ≤ k
  below : i < l.length → ∀ x ∈ l, lss x.2 (cand l i c) = true
  done : ∀ k x, l[k]? = some x → ∀ a : Nat, (a : Int) < d.L → (k < i ∨ k = i ∧ a < c) → ∃ w, (Df.step d x.1 a, w) ∈ l ∧ ahead w (x.2 ++ [(a : Int)])
theorem srch_start (d : Aut) (s : Nat) : Srch d s [(s, [])] 0 0 := by
  refine ⟨rfl, fun x hx => ?_, by simp, fun k x hx => ?_, fun _ x hx => ?_, fun k x _ a _ h => by omega⟩
  · simp at hx; subst hx
    exact ⟨by intro a ha; simp at ha, rfl⟩
  · have := List.mem_of_getElem? hx
    simp at this; subst this; simp
  · simp at hx; subst hx
    exact lss_len (by simp [cand])
theorem Srch.step {d : Aut} {s : Nat} {l : List Fd} {i c : Nat} (h : Srch d s l i c) {x : Fd} (hx : l[i]? = some x) (hc : (c : Int) < d.L) : Srch d s (addW l (Df.step d x.1 c) (x.2 ++ [(c : Int)])) i (c + 1) := by
  have hi := (List.getElem?_eq_some_iff.1 hx).1
  have hm : x ∈ l := List.mem_of_getElem? hx
  obtain ⟨hw, hr⟩ := h.ok x hm
  have hcand : cand l i c = x.2 ++ [(c : Int)] := by unfold cand; rw [hx]; rfl
  have hnext : ∀ (m : List Fd), cand (l ++ m) i (c + 1) = x.2 ++ [((c + 1 : Nat) : Int)] := fun m => by
    unfold cand; rw [List.getElem?_append_left hi, hx]; rfl
  have hlt : lss (x.2 ++ [(c : Int)]) (x.2 ++ [((c + 1 : Nat) : Int)]) = true := lss_last _ (by omega)
  unfold addW
  by_cases hk : known l (Df.step d x.1 c)
  · rw [if_pos hk]
    refine ⟨h.hd, h.ok, h.sort, h.len, fun hi y hy => ?_, fun k y hy a ha hp => ?_⟩
    · have h2 := h.below hi y hy
      rw [hcand] at h2
      have h3 := hnext []
      rw [List.append_nil] at h3
      rw [h3]
      exact lss_trans h2 hlt
    · by_cases e : k < i ∨ k = i ∧ a < c
      · exact h.done k y hy a ha e
      · obtain rfl : k = i := by omega
        obtain rfl : a = c := by omega
        obtain rfl := Option.some.inj (hx.symm.trans hy)
        obtain ⟨z, hz, e⟩ := List.mem_map.1 hk
        have h2 := h.below hi z hz
        rw [hcand] at h2
        refine ⟨z.2, ?_, ahead_of h2⟩
        rw [← e]; exact hz
  · rw [if_neg hk]
    have hb : ∀ y ∈ l, lss y.2 (x.2 ++ [(c : Int)]) = true := fun y hy => by
      have h2 := h.below hi y hy
      rwa [hcand] at h2
    refine ⟨?_, fun y hy => ?_, ?_, fun k y hy => ?_, fun _ y hy => ?_, fun k y hy a ha hp => ?_⟩
    · rw [List.getElem?_append_left (by omega)]; exact h.hd
    · rcases List.mem_append.1 hy with hy | hy
      · exact h.ok y hy
      · simp at hy; subst hy
        refine ⟨fun a ha => ?_, by show runA d s (x.2 ++ [(c : Int)]) = _; rw [runA_append, hr]; rfl⟩
        rcases List.mem_append.1 ha with ha | ha
        · exact hw a ha
        · simp at ha; subst ha; exact ⟨by omega, hc⟩
    · rw [List.pairwise_append]
      refine ⟨h.sort, by simp, fun y hy z hz => ?_⟩
      simp at hz; subst hz
      exact hb y hy
    · by_cases hkl : k < l.length
      · rw [List.getElem?_append_left hkl] at hy
        exact h.len k y hy
      · have h3 := (List.getElem?_eq_some_iff.1 hy).1
        rw [List.length_append, List.length_singleton] at h3
        obtain rfl : k = l.length := by omega
        rw [List.getElem?_append_right (Nat.le_refl _), Nat.sub_self] at hy
        simp at hy; subst hy
        have := h.len i x hx
        simp only [List.length_append, List.length_singleton]; omega
    · rw [hnext]
      rcases List.mem_append.1 hy with hy | hy
      · exact lss_trans (hb y hy) hlt
      · simp at hy; subst hy; exact hlt
    · have hkl : k < l.length := by
        rcases hp with hp | hp <;> omega
      rw [List.getElem?_append_left hkl] at hy
      by_cases e : k < i ∨ k = i ∧ a < c
      · obtain ⟨w, hw1, hw2⟩ := h.done k y hy a ha e
        exact ⟨w, List.mem_append_left _ hw1, hw2⟩
      · obtain rfl : k = i := by omega
        obtain rfl : a = c := by omega
        obtain rfl := Option.some.inj (hx.symm.trans hy)
        exact ⟨_, List.mem_append_right _ (List.mem_singleton.2 rfl), ahead_refl _⟩
theorem Srch.row {d : Aut} {s : Nat} {l : List Fd} {i c : Nat} (h : Srch d s l i c) (hi : i < l.length) (hc : d.L ≤ (c : Int)) : Srch d s l (i + 1) 0 := by
  refine ⟨h.hd, h.ok, h.sort, h.len, fun hi' y hy => ?_, fun k y hy a ha hp => h.done k y hy a ha (by omega)⟩
  have h2 := h.below hi y hy
  refine lss_trans h2 ?_
  unfold cand
  have hlt : lss (l[i]).2 (l[i + 1]).2 = true := (List.pairwise_iff_getElem.1 h.sort) i (i + 1) hi hi' (by omega)
  rw [List.getElem?_eq_getElem hi, List.getElem?_eq_getElem hi']
  exact lss_snoc hlt _ _
/-- At the end: every word has one that is not behind it and leads to the same state. -/
theorem Srch.all {d : Aut} {s : Nat} {l : List Fd} {i : Nat} (h : Srch d s l i 0) (hi : l.length ≤ i) {v : List Int} (hv : Word d.L v) : ∃ w, (runA d s v, w) ∈ l ∧ ahead w v := by
  have key : ∀ (n : Nat) (v : List Int), v.length = n → Word d.L v → ∃ w, (runA d s v, w) ∈ l ∧ ahead w v := by
    intro n
    induction n with
    | zero =>
      intro v hl _
      obtain rfl := List.eq_nil_of_length_eq_zero hl
      exact ⟨[], List.mem_of_getElem? h.hd, ahead_refl _⟩
    | succ n ih =>
      intro v hl hv
      have hne : v ≠ [] := by intro e; subst e; simp at hl
      obtain ⟨u, a, rfl⟩ : ∃ u a, v = u ++ [a] := ⟨v.dropLast, v.getLast hne, (List.dropLast_concat_getLast hne).symm⟩
      have hu : Word d.L u := fun b hb => hv b (List.mem_append_left _ hb)
      have ha := hv a (List.mem_append_right _ (List.mem_singleton.2 rfl))
      obtain ⟨w, hw1, hw2⟩ := ih u (by simpa using hl) hu
      obtain ⟨k, hk, hk2⟩ := List.getElem_of_mem hw1
      obtain ⟨b, rfl⟩ := Int.eq_ofNat_of_zero_le ha.1
      obtain ⟨z, hz1, hz2⟩ := h.done k _ (by rw [List.getElem?_eq_getElem hk, hk2]) b ha.2 (.inl (by omega))
      refine ⟨z, ?_, ahead_trans hz2 (ahead_snoc hw2 _)⟩
      rw [runA_append]; exact hz1
  exact key _ v rfl hv
/-- The first of them that is final has the first word. -/
theorem Srch.first {d : Aut} (g : Df.Good d) {s : Nat} (hs : s < d.next.length) {l : List Fd} {i : Nat} (h : Srch d s l i 0) (hi : l.length ≤ i) {k : Nat} {x : Fd} (hk : l[k]? = some x) (hf : finA d x.1 = true) (hn : ∀ j y, j < k → l[j]? = some y → finA d y.1 = false) :
    firstW d s = some x.2 := by
  obtain ⟨hw, hr⟩ := h.ok x (List.mem_of_getElem? hk)
  refine firstW_unique g hs hw (by rw [hr]; exact hf) (fun v hv hfv => ?_)
  obtain ⟨w, hw1, hw2⟩ := h.all hi hv
  obtain ⟨j, hj, hj2⟩ := List.getElem_of_mem hw1
  have hj3 : l[j]? = some (runA d s v, w) := by rw [List.getElem?_eq_getElem hj, hj2]
  have hkj : k ≤ j := by
    rcases Nat.lt_or_ge j k with hlt | hge
    · rw [hn j _ hlt hj3] at hfv; cases hfv
    · exact hge
  obtain ⟨hkl, hkx⟩ := List.getElem?_eq_some_iff.1 hk
  have hxw : ahead x.2 w := by
    rcases Nat.lt_or_ge k j with hlt | hge
    · have := (List.pairwise_iff_getElem.1 h.sort) k j hkl hj hlt
      rw [hkx, hj2] at this
      exact ahead_of this
    · obtain rfl : k = j := by omega
      rw [hk] at hj3
      obtain rfl := Option.some.inj hj3
      exact ahead_refl _
  exact ahead_trans hxw hw2
theorem Srch.none {d : Aut} (g : Df.Good d) {s : Nat} (hs : s < d.next.length) {l : List Fd} {i : Nat} (h : Srch d s l i 0) (hi : l.length ≤ i) (hn : ∀ x ∈ l, finA d x.1 = false) : firstW d s = none := by
  refine firstW_is_none g hs (fun v hv => ?_)
  obtain ⟨w, hw1, _⟩ := h.all hi hv
  exact hn _ hw1
/-- Midway, with the states as they are found. -/
structure Hunt (d : Aut) (s : Nat) (l : List Fd) (i : Nat) : Prop where
  part : Part (S1 d) s i (l.map (·.1))
  srch : Srch d s l i 0
theorem hunt_start (d : Aut) (s : Nat) : Hunt d s [(s, [])] 0 := ⟨part_zero (S1 d) s, srch_start d s⟩
theorem srch_letters {d : Aut} {s : Nat} {l : List Fd} {i : Nat} (h : Srch d s l i 0) {x : Fd} (hx : l[i]? = some x) {c : Nat} (hc : (c : Int) ≤ d.L) : Srch d s (addTo' d l x c) i c := by
  induction c with
  | zero => exact h
  | succ c ih =>
    have h2 := ih (by omega)
    obtain ⟨m, hm⟩ := addTo'_prefix d l x c
    have hx2 : (addTo' d l x c)[i]? = some x := by
      rw [hm, List.getElem?_append_left (List.getElem?_eq_some_iff.1 hx).1]; exact hx
    exact h2.step hx2 (by omega)
theorem Hunt.next {d : Aut} (g : Df.Good d) {s : Nat} (hs : s < d.next.length) {l : List Fd} {i : Nat} (h : Hunt d s l i) {x : Fd} (hx : l[i]? = some x) : Hunt d s (addTo' d l x d.L.toNat) (i + 1) := by
  have hx1 : (l.map (·.1))[i]? = some x.1 := by rw [List.getElem?_map, hx]; rfl
  obtain ⟨h1, h2⟩ := h.part.step hx1
  have hall := addTo'_all d l x g.l1
  have hn : ¬ 40 < (addAll (l.map (·.1)) (S1 d x.1)).length := by
    have hnd : (addAll (l.map (·.1)) (S1 d x.1)).Nodup := nodup_addAll h.part.nd _
    have := nodup_le _ _ hnd (fun t ht => by
      rcases mem_addAll.1 ht with ht | ht
      · exact rch_lt1 g hs (h.part.rch t ht)
      · exact S1_lt g (rch_lt1 g hs (h.part.rch _ (List.mem_of_getElem? hx1))) ht)
    have := g.n40
    omega
  have h3 := h2 hn
  rw [← hall] at h3
  refine ⟨h3, (srch_letters h.srch hx (c := d.L.toNat) (by have := g.l1; omega)).row ?_ (by omega)⟩
  obtain ⟨m, hm⟩ := addTo'_prefix d l x d.L.toNat
  have := (List.getElem?_eq_some_iff.1 hx).1
  rw [hm, List.length_append]; omega
theorem Hunt.lt {d : Aut} (g : Df.Good d) {s : Nat} (hs : s < d.next.length) {l : List Fd} {i : Nat} (h : Hunt d s l i) {x : Fd} (hx : x ∈ l) : x.1 < d.next.length :=
  rch_lt1 g hs (h.part.rch _ (List.mem_map.2 ⟨x, hx, rfl⟩))
theorem Hunt.rset {d : Aut} {s : Nat} {l : List Fd} {i : Nat} (h : Hunt d s l i) (hi : l.length ≤ i) : rset d s = l.map (·.1) := by
  unfold Rc.rset
  rw [h.part.stop (by simpa using hi)]; rfl
end Go.Proofs.YtbciefeipiphiaaDoor.Rc

namespace Go.Proofs.YtbciefeipiphiaaDoor.Sm
open Go.Proofs.YtbciefeipiphiaaDoor.Df Go.Proofs.YtbciefeipiphiaaDoor.Wo Go.Proofs.YtbciefeipiphiaaDoor.Rc

section
variable {α : Type}
def runG (σ : α → Nat → α) (s : α) (w : List Int) : α := w.foldl (fun x c => σ x c.toNat) s
theorem runG_append (σ : α → Nat → α) (s : α) (v w : List Int) : runG σ s (v ++ w) = runG σ (runG σ s v) w := List.foldl_append
/-- One that is found, and a word that leads to it. -/
abbrev Fg (α : Type) := α × List Int
/-- What is next to be looked at is ahead of all that is not found yet, and behind all that is. -/
def candG (l : List (Fg α)) (i c : Nat) : List Int := ((l[i]?.map (·.2)).getD []) ++ [(c : Int)]
/-- Midway: states below i are done, of state i all letters below c. -/
structure SrchG (σ : α → Nat → α) (L : Int) (s : α) (l : List (Fg α)) (i c : Nat) : Prop where
  hd : l[0]? = some (s, [])
  ok : ∀ x ∈ l, Word L x.2 ∧ runG σ s x.2 = x.1
  sort : l.Pairwise fun x y => lss x.2 y.2 = true
  len : ∀ (k : Nat) (x : Fg α), l[k]? = some x → x.2.length ≤ k
  below : i < l.length → ∀ x ∈ l, lss x.2 (candG l i c) = true
  done : ∀ k x, l[k]? = some x → ∀ a : Nat, (a : Int) < L → (k < i ∨ k = i ∧ a < c) → ∃ w, (σ x.1 a, w) ∈ l ∧ ahead w (x.2 ++ [(a : Int)])
theorem srchG_start (σ : α → Nat → α) (L : Int) (s : α) : SrchG σ L s [(s, [])] 0 0 := by
  refine ⟨rfl, fun x hx => ?_, by simp, fun k x hx => ?_, fun _ x hx => ?_, fun k x _ a _ h => by omega⟩
  · simp at hx; subst hx
    exact ⟨by intro a ha; simp at ha, rfl⟩
  · have := List.mem_of_getElem? hx
    simp at this; subst this; simp
  · simp at hx; subst hx
    exact lss_len (by simp [candG])
theorem SrchG.row {σ : α → Nat → α} {L : Int} {s : α} {l : List (Fg α)} {i c : Nat} (h : SrchG σ L s l i c) (hi : i < l.length) (hc : L ≤ (c : Int)) : SrchG σ L s l (i + 1) 0 := by
  refine ⟨h.hd, h.ok, h.sort, h.len, fun hi' y hy => ?_, fun k y hy a ha hp => h.done k y hy a ha (by omega)⟩
  have h2 := h.below hi y hy
  refine lss_trans h2 ?_
  unfold candG
  have hlt : lss (l[i]).2 (l[i + 1]).2 = true := (List.pairwise_iff_getElem.1 h.sort) i (i + 1) hi hi' (by omega)
  rw [List.getElem?_eq_getElem hi, List.getElem?_eq_getElem hi']
  exact lss_snoc hlt _ _
/-- At the end: every word has one that is not behind it and leads to the same state. -/
theorem SrchG.all {σ : α → Nat → α} {L : Int} {s : α} {l : List (Fg α)} {i : Nat} (h : SrchG σ L s l i 0) (hi : l.length ≤ i) {v : List Int} (hv : Word L v) : ∃ w, (runG σ s v, w) ∈ l ∧ ahead w v := by
  have key : ∀ (n : Nat) (v : List Int), v.length = n → Word L v → ∃ w, (runG σ s v, w) ∈ l ∧ ahead w v := by
    intro n
    induction n with
    | zero =>
      intro v hl _
      obtain rfl := List.eq_nil_of_length_eq_zero hl
      exact ⟨[], List.mem_of_getElem? h.hd, ahead_refl _⟩
    | succ n ih =>
      intro v hl hv
      have hne : v ≠ [] := by intro e; subst e; simp at hl
      obtain ⟨u, a, rfl⟩ : ∃ u a, v = u ++ [a] := ⟨v.dropLast, v.getLast hne, (List.dropLast_concat_getLast hne).symm⟩
      have hu : Word L u := fun b hb => hv b (List.mem_append_left _ hb)
      have ha := hv a (List.mem_append_right _ (List.mem_singleton.2 rfl))
      obtain ⟨w, hw1, hw2⟩ := ih u (by simpa using hl) hu
      obtain ⟨k, hk, hk2⟩ := List.getElem_of_mem hw1
      obtain ⟨b, rfl⟩ := Int.eq_ofNat_of_zero_le ha.1
      obtain ⟨z, hz1, hz2⟩ := h.done k _ (by rw [List.getElem?_eq_getElem hk, hk2]) b ha.2 (.inl (by omega))
      refine ⟨z, ?_, ahead_trans hz2 (ahead_snoc hw2 _)⟩
      rw [runG_append]; exact hz1
  exact key _ v rfl hv
/-- What is next: all words that are not behind it lead to what is found. -/
theorem SrchG.upto {σ : α → Nat → α} {L : Int} {s : α} {l : List (Fg α)} {i : Nat} (h : SrchG σ L s l i 0) {x : Fg α} (hx : l[i]? = some x) {v : List Int} (hv : Word L v) (hb : ahead v x.2) : ∃ w, (runG σ s v, w) ∈ l ∧ ahead w v := by
  obtain ⟨hi, hxi⟩ := List.getElem?_eq_some_iff.1 hx
  have key : ∀ (n : Nat) (v : List Int), v.length = n → Word L v → ahead v x.2 → ∃ w, (runG σ s v, w) ∈ l ∧ ahead w v := by
    intro n
    induction n with
    | zero =>
      intro v hl _ _
      obtain rfl := List.eq_nil_of_length_eq_zero hl
      exact ⟨[], List.mem_of_getElem? h.hd, ahead_refl _⟩
    | succ n ih =>
      intro v hl hv hb
      have hne : v ≠ [] := by intro e; subst e; simp at hl
      obtain ⟨u, a, rfl⟩ : ∃ u a, v = u ++ [a] := ⟨v.dropLast, v.getLast hne, (List.dropLast_concat_getLast hne).symm⟩
      have hu : Word L u := fun b hb => hv b (List.mem_append_left _ hb)
      have ha := hv a (List.mem_append_right _ (List.mem_singleton.2 rfl))
      have hlu : lss u (u ++ [a]) = true := lss_len (by simp)
      have hux : lss u x.2 = true := by
        rcases ahead_or hb with e | e
        · rw [← e]; exact hlu
        · exact lss_trans hlu e
      obtain ⟨w, hw1, hw2⟩ := ih u (by simpa using hl) hu (ahead_of hux)
      obtain ⟨k, hk, hk2⟩ := List.getElem_of_mem hw1
      obtain ⟨b, rfl⟩ := Int.eq_ofNat_of_zero_le ha.1
      have hki : k < i := by
        rcases Nat.lt_or_ge k i with hlt | hge
        · exact hlt
        · exfalso
          have hxw : ahead x.2 w := by
            rcases Nat.lt_or_ge i k with h2 | h2
            · have := (List.pairwise_iff_getElem.1 h.sort) i k hi hk h2
              rw [hxi, hk2] at this
              exact ahead_of this
            · obtain rfl : i = k := by omega
              rw [hxi] at hk2; subst hk2; exact ahead_refl _
          have := ahead_trans hxw hw2
          unfold ahead at this
          rw [hux] at this; cases this
      obtain ⟨z, hz1, hz2⟩ := h.done k _ (by rw [List.getElem?_eq_getElem hk, hk2]) b ha.2 (.inl hki)
      refine ⟨z, ?_, ahead_trans hz2 (ahead_snoc hw2 _)⟩
      rw [runG_append]; exact hz1
  exact key _ v rfl hv hb
/-- The first one that is so, all ahead of it not: its word is the first of those that lead to such. -/
theorem SrchG.early {σ : α → Nat → α} {L : Int} {s : α} {l : List (Fg α)} {i : Nat} (h : SrchG σ L s l i 0) {x : Fg α} (hx : l[i]? = some x) {φ : α → Prop} (hn : ∀ j y, j < i → l[j]? = some y → ¬ φ y.1) {v : List Int} (hv : Word L v) (hf : φ (runG σ s v)) : lss v x.2 = false := by
  rcases e : lss v x.2 with _ | _
  · rfl
  · exfalso
    obtain ⟨w, hw1, hw2⟩ := h.upto hx hv (ahead_of e)
    obtain ⟨j, hj, hj2⟩ := List.getElem_of_mem hw1
    obtain ⟨hi, hxi⟩ := List.getElem?_eq_some_iff.1 hx
    have hji : j < i := by
      rcases Nat.lt_or_ge j i with hlt | hge
      · exact hlt
      · exfalso
        have hxw : ahead x.2 w := by
          rcases Nat.lt_or_ge i j with h2 | h2
          · have := (List.pairwise_iff_getElem.1 h.sort) i j hi hj h2
            rw [hxi, hj2] at this
            exact ahead_of this
          · obtain rfl : i = j := by omega
            rw [hxi] at hj2; subst hj2; exact ahead_refl _
        have := ahead_trans hxw hw2
        unfold ahead at this
        rw [e] at this; cases this
    exact hn j _ hji (by rw [List.getElem?_eq_getElem hj, hj2]) hf
end
section
variable {α : Type} [DecidableEq α]
def knownG (l : List (Fg α)) (t : α) : Prop := t ∈ l.map (·.1)
instance (l : List (Fg α)) (t : α) : Decidable (knownG l t) := inferInstanceAs (Decidable (_ ∈ _))
def addG (l : List (Fg α)) (t : α) (w : List Int) : List (Fg α) := if knownG l t then l else l ++ [(t, w)]
def addGs (σ : α → Nat → α) (l : List (Fg α)) (x : Fg α) : Nat → List (Fg α)
  | 0 => l
  | c + 1 => addG (addGs σ l x c) (σ x.1 c) (x.2 ++ [(c : Int)])
theorem addG_prefix (l : List (Fg α)) (t : α) (w : List Int) : ∃ m, addG l t w = l ++ m := by
  unfold addG; split
  · exact ⟨[], by simp⟩
  · exact ⟨[(t, w)], rfl⟩
theorem addGs_prefix (σ : α → Nat → α) (l : List (Fg α)) (x : Fg α) (c : Nat) : ∃ m, addGs σ l x c = l ++ m := by
  induction c with
  | zero => exact ⟨[], by simp [addGs]⟩
  | succ c ih =>
    obtain ⟨m, hm⟩ := ih
    obtain ⟨m', hm'⟩ := addG_prefix (addGs σ l x c) (σ x.1 c) (x.2 ++ [(c : Int)])
    exact ⟨m ++ m', by rw [addGs, hm', hm, List.append_assoc]⟩
theorem addGs_length (σ : α → Nat → α) (l : List (Fg α)) (x : Fg α) (c : Nat) : (addGs σ l x c).length ≤ l.length + c := by
  induction c with
  | zero => exact Nat.le_refl _
  | succ c ih =>
    have h : ∀ (m : List (Fg α)) (t : α) (w : List Int), (addG m t w).length ≤ m.length + 1 := fun m t w => by
      unfold addG; split
      · omega
      · simp
    have := h (addGs σ l x c) (σ x.1 c) (x.2 ++ [(c : Int)])
    rw [addGs]; omega
theorem SrchG.step {σ : α → Nat → α} {L : Int} {s : α} {l : List (Fg α)} {i c : Nat} (h : SrchG σ L s l i c) {x : Fg α} (hx : l[i]? = some x) (hc : (c : Int) < L) : SrchG σ L s (addG l (σ x.1 c) (x.2 ++ [(c : Int)])) i (c + 1) := by
  have hi := (List.getElem?_eq_some_iff.1 hx).1
  have hm : x ∈ l := List.mem_of_getElem? hx
  obtain ⟨hw, hr⟩ := h.ok x hm
  have hcand : candG l i c = x.2 ++ [(c : Int)] := by unfold candG; rw [hx]; rfl
  have hnext : ∀ (m : List (Fg α)), candG (l ++ m) i (c + 1) = x.2 ++ [((c + 1 : Nat) : Int)] := fun m => by
    unfold candG; rw [List.getElem?_append_left hi, hx]; rfl
  have hlt : lss (x.2 ++ [(c : Int)]) (x.2 ++ [((c + 1 : Nat) : Int)]) = true := lss_last _ (by omega)
  unfold addG
  by_cases hk : knownG l (σ x.1 c)
  · rw [if_pos hk]
    refine ⟨h.hd, h.ok, h.sort, h.len, fun hi y hy => ?_, fun k y hy a ha hp => ?_⟩
    · have h2 := h.below hi y hy
      rw [hcand] at h2
      have h3 := hnext []
      rw [List.append_nil] at h3
      rw [h3]
      exact lss_trans h2 hlt
    · by_cases e : k < i ∨ k = i ∧ a < c
      · exact h.done k y hy a ha e
      · obtain rfl : k = i := by omega
        obtain rfl : a = c := by omega
        obtain rfl := Option.some.inj (hx.symm.trans hy)
        obtain ⟨z, hz, e⟩ := List.mem_map.1 hk
        have h2 := h.below hi z hz
        rw [hcand] at h2
        refine ⟨z.2, ?_, ahead_of h2⟩
        rw [← e]; exact hz
  · rw [if_neg hk]
    have hb : ∀ y ∈ l, lss y.2 (x.2 ++ [(c : Int)]) = true := fun y hy => by
      have h2 := h.below hi y hy
      rwa [hcand] at h2
    refine ⟨?_, fun y hy => ?_, ?_, fun k y hy => ?_, fun _ y hy => ?_, fun k y hy a ha hp => ?_⟩
    · rw [List.getElem?_append_left (by omega)]; exact h.hd
    · rcases List.mem_append.1 hy with hy | hy
      · exact h.ok y hy
      · simp at hy; subst hy
        refine ⟨fun a ha => ?_, by show runG σ s (x.2 ++ [(c : Int)]) = _; rw [runG_append, hr]; rfl⟩
        rcases List.mem_append.1 ha with ha | ha
        · exact hw a ha
        · simp at ha; subst ha; exact ⟨by omega, hc⟩
    · rw [List.pairwise_append]
      refine ⟨h.sort, by simp, fun y hy z hz => ?_⟩
      simp at hz; subst hz
      exact hb y hy
    · by_cases hkl : k < l.length
      · rw [List.getElem?_append_left hkl] at hy
        exact h.len k y hy
      · have h3 := (List.getElem?_eq_some_iff.1 hy).1
        rw [List.length_append, List.length_singleton] at h3
        obtain rfl : k = l.length := by omega
        rw [List.getElem?_append_right (Nat.le_refl _), Nat.sub_self] at hy
        simp at hy; subst hy
        have := h.len i x hx
        simp only [List.length_append, List.length_singleton]; omega
    · rw [hnext]
      rcases List.mem_append.1 hy with hy | hy
      · exact lss_trans (hb y hy) hlt
      · simp at hy; subst hy; exact hlt
    · have hkl : k < l.length := by
        rcases hp with hp | hp <;> omega
      rw [List.getElem?_append_left hkl] at hy
      by_cases e : k < i ∨ k = i ∧ a < c
      · obtain ⟨w, hw1, hw2⟩ := h.done k y hy a ha e
        exact ⟨w, List.mem_append_left _ hw1, hw2⟩
      · obtain rfl : k = i := by omega
        obtain rfl : a = c := by omega
        obtain rfl := Option.some.inj (hx.symm.trans hy)
        exact ⟨_, List.mem_append_right _ (List.mem_singleton.2 rfl), ahead_refl _⟩
theorem srchG_letters {σ : α → Nat → α} {L : Int} {s : α} {l : List (Fg α)} {i : Nat} (h : SrchG σ L s l i 0) {x : Fg α} (hx : l[i]? = some x) {c : Nat} (hc : (c : Int) ≤ L) : SrchG σ L s (addGs σ l x c) i c := by
  induction c with
  | zero => exact h
  | succ c ih =>
    have h2 := ih (by omega)
    obtain ⟨m, hm⟩ := addGs_prefix σ l x c
    have hx2 : (addGs σ l x c)[i]? = some x := by
      rw [hm, List.getElem?_append_left (List.getElem?_eq_some_iff.1 hx).1]; exact hx
    exact h2.step hx2 (by omega)
theorem addG_nodup {l : List (Fg α)} (h : (l.map (·.1)).Nodup) (t : α) (w : List Int) : ((addG l t w).map (·.1)).Nodup := by
  unfold addG
  by_cases hk : knownG l t
  · rw [if_pos hk]; exact h
  · rw [if_neg hk, List.map_append]
    rw [List.nodup_append]
    refine ⟨h, by simp, fun x hx y hy => ?_⟩
    simp at hy; subst hy
    intro e; subst e
    exact hk hx
theorem addGs_nodup {σ : α → Nat → α} {l : List (Fg α)} (h : (l.map (·.1)).Nodup) (x : Fg α) (c : Nat) : ((addGs σ l x c).map (·.1)).Nodup := by
  induction c with
  | zero => exact h
  | succ c ih => exact addG_nodup ih _ _
end

/-! ### pairs -/
abbrev Pr := Nat × Nat
def go2 (a b : Aut) (p : Pr) (c : Nat) : Pr := (step a p.1 c, step b p.2 c)
theorem run_go2 (a b : Aut) (w : List Int) : ∀ p : Pr, runG (go2 a b) p w = (runA a p.1 w, runA b p.2 w) := by
  induction w with
  | nil => intro p; rfl
  | cons c w ih => intro p; exact ih (go2 a b p c.toNat)
def fin2 (a b : Aut) (p : Pr) : Prop := finA a p.1 ≠ finA b p.2
/-- The search, i of them done; none of these is told apart. -/
structure Hunt2 (a b : Aut) (s : Pr) (l : List (Fg Pr)) (i : Nat) : Prop where
  srch : SrchG (go2 a b) a.L s l i 0
  nd : (l.map (·.1)).Nodup
  lt : ∀ x ∈ l, x.1.1 < a.next.length ∧ x.1.2 < b.next.length
  no : ∀ j y, j < i → l[j]? = some y → ¬ fin2 a b y.1
  le : i ≤ l.length
theorem addGs_lt {a b : Aut} (g : Good2 a b) {l : List (Fg Pr)} (h : ∀ x ∈ l, x.1.1 < a.next.length ∧ x.1.2 < b.next.length) {x : Fg Pr} (hx : x ∈ l) {c : Nat} (hc : (c : Int) ≤ a.L) :
    ∀ y ∈ addGs (go2 a b) l x c, y.1.1 < a.next.length ∧ y.1.2 < b.next.length := by
  induction c with
  | zero => exact h
  | succ c ih =>
    intro y hy
    rw [addGs] at hy
    unfold addG at hy
    by_cases hk : knownG (addGs (go2 a b) l x c) (go2 a b x.1 c)
    · rw [if_pos hk] at hy; exact ih (by omega) y hy
    · rw [if_neg hk] at hy
      rcases List.mem_append.1 hy with hy | hy
      · exact ih (by omega) y hy
      · simp at hy; subst hy
        have h1 := h x hx
        exact ⟨g.ga.step_lt h1.1 (by omega), g.gb.step_lt h1.2 (by rw [← g.eL]; omega)⟩
theorem Hunt2.n {a b : Aut} (g : Good2 a b) {s : Pr} {l : List (Fg Pr)} {i : Nat} (h : Hunt2 a b s l i) : l.length ≤ 1600 := by
  have h1 := nodup_le_of (l := l.map (·.1)) (n := a.next.length * b.next.length) h.nd (fun p => p.1 * b.next.length + p.2) (fun x hx y hy e => ?_) (fun x hx => ?_)
  · have h2 : a.next.length * b.next.length ≤ 40 * 40 := Nat.mul_le_mul g.ga.n40 g.gb.n40
    rw [List.length_map] at h1; omega
  · obtain ⟨x', hx', rfl⟩ := List.mem_map.1 hx
    obtain ⟨y', hy', rfl⟩ := List.mem_map.1 hy
    have h1 := (h.lt _ hx').2
    have h2 := (h.lt _ hy').2
    have e1 : x'.1.2 = y'.1.2 := by
      have := congrArg (· % b.next.length) e
      simp only [Nat.mul_add_mod_self_right] at this
      rwa [Nat.mod_eq_of_lt h1, Nat.mod_eq_of_lt h2] at this
    have e2 : x'.1.1 = y'.1.1 := by
      have e3 : x'.1.1 * b.next.length = y'.1.1 * b.next.length := by simp only [e1] at e; omega
      exact Nat.eq_of_mul_eq_mul_right (by omega) e3
    exact Prod.ext e2 e1
  · obtain ⟨x', hx', rfl⟩ := List.mem_map.1 hx
    have h1 := h.lt _ hx'
    have h2 : x'.1.1 * b.next.length + b.next.length ≤ a.next.length * b.next.length := by
      rw [← Nat.succ_mul]; exact Nat.mul_le_mul_right _ h1.1
    show x'.1.1 * b.next.length + x'.1.2 < _
    omega
theorem Hunt2.next {a b : Aut} (g : Good2 a b) {s : Pr} {l : List (Fg Pr)} {i : Nat} (h : Hunt2 a b s l i) {x : Fg Pr} (hx : l[i]? = some x) (hf : ¬ fin2 a b x.1) : Hunt2 a b s (addGs (go2 a b) l x a.L.toNat) (i + 1) := by
  obtain ⟨hi, hxi⟩ := List.getElem?_eq_some_iff.1 hx
  obtain ⟨m, hm⟩ := addGs_prefix (go2 a b) l x a.L.toNat
  have h1 := g.ga.l1
  refine ⟨(srchG_letters h.srch hx (c := a.L.toNat) (by omega)).row (by rw [hm, List.length_append]; omega) (by omega), addGs_nodup h.nd _ _, addGs_lt g h.lt (List.mem_of_getElem? hx) (by omega), fun j y hj hy => ?_, by rw [hm, List.length_append]; omega⟩
  rw [hm, List.getElem?_append_left (by omega)] at hy
  by_cases e : j = i
  · subst e
    rw [hx] at hy; obtain rfl := Option.some.inj hy
    exact hf
  · exact h.no j y (by omega) hy
theorem Hunt2.hit {a b : Aut} (g : Good2 a b) {s : Pr} (hs : s.1 < a.next.length ∧ s.2 < b.next.length) {l : List (Fg Pr)} {i : Nat} (h : Hunt2 a b s l i) {x : Fg Pr} (hx : l[i]? = some x) (hf : fin2 a b x.1) : diffW a b s.1 s.2 = some x.2 := by
  obtain ⟨hw, hr⟩ := h.srch.ok x (List.mem_of_getElem? hx)
  rw [run_go2] at hr
  refine diffW_unique g hs.1 hs.2 hw ?_ (fun v hv hfv => ?_)
  · have := hf; unfold fin2 at this; rw [← hr] at this; exact this
  · exact h.srch.early hx (φ := fin2 a b) h.no hv (by rw [run_go2]; exact hfv)
theorem Hunt2.miss {a b : Aut} (g : Good2 a b) {s : Pr} (hs : s.1 < a.next.length ∧ s.2 < b.next.length) {l : List (Fg Pr)} {i : Nat} (h : Hunt2 a b s l i) (hi : l.length ≤ i) : diffW a b s.1 s.2 = none := by
  refine (diffW_none g hs.1 hs.2).2 fun v hv => ?_
  obtain ⟨w, hw1, _⟩ := h.srch.all hi hv
  obtain ⟨j, hj, hj2⟩ := List.getElem_of_mem hw1
  have := h.no j _ (by omega) (by rw [List.getElem?_eq_getElem hj, hj2])
  rw [run_go2] at this
  unfold fin2 at this
  exact Decidable.not_not.1 this
end Go.Proofs.YtbciefeipiphiaaDoor.Sm

namespace Go.Proofs.YtbciefeipiphiaaDoor.Sm
open Go.Proofs.YtbciefeipiphiaaDoor.Df Go.Proofs.YtbciefeipiphiaaDoor.Wo Go.Proofs.YtbciefeipiphiaaDoor.Rc

/-! ### lists of keys, numbered by their first places -/
section
variable {κ : Type} [DecidableEq κ]
def dst (ks : List κ) : List κ := addAll [] ks
def cls (ks : List κ) : List Nat := ks.map (num (dst ks))
theorem mem_dst {ks : List κ} {x : κ} : x ∈ dst ks ↔ x ∈ ks := by unfold dst; rw [mem_addAll]; simp
theorem dst_append (ks ls : List κ) : dst (ks ++ ls) = addAll (dst ks) ls := by unfold dst addAll; rw [List.foldl_append]
theorem dst_snoc (ks : List κ) (x : κ) : dst (ks ++ [x]) = addTo (dst ks) x := by rw [dst_append]; rfl
theorem dst_length (ks : List κ) : (dst ks).length ≤ ks.length := by
  have := addAll_length_le ([] : List κ) ks
  simpa [dst] using this
theorem cls_length (ks : List κ) : (cls ks).length = ks.length := by simp [cls]
theorem num_grow {ks ls : List κ} {x : κ} (h : x ∈ ks) : num (dst (ks ++ ls)) x = num (dst ks) x := by
  obtain ⟨m, hm⟩ := addAll_prefix (dst ks) ls
  rw [dst_append, hm]; exact idx_append (mem_dst.2 h)
theorem cls_snoc (ks : List κ) (x : κ) : cls (ks ++ [x]) = cls ks ++ [num (dst (ks ++ [x])) x] := by
  unfold cls
  rw [List.map_append]
  congr 1
  exact List.map_congr_left fun y hy => num_grow hy
theorem num_snoc (ks : List κ) (x : κ) : num (dst (ks ++ [x])) x = if x ∈ ks then num (dst ks) x else (dst ks).length := by
  by_cases h : x ∈ ks
  · rw [if_pos h, num_grow h]
  · rw [if_neg h, dst_snoc]
    unfold addTo
    rw [if_neg (fun q => h (mem_dst.1 q))]
    exact idx_new (fun q => h (mem_dst.1 q))
theorem num_inj {l : List κ} {x y : κ} (hx : x ∈ l) (hy : y ∈ l) (h : num l x = num l y) : x = y := by
  have h1 := idx_get hx
  rw [h, idx_get hy] at h1
  exact (Option.some.inj h1).symm
theorem cls_get {ks : List κ} {i : Nat} (hi : i < ks.length) : (cls ks)[i]? = some (num (dst ks) ks[i]) := by
  unfold cls; rw [List.getElem?_map, List.getElem?_eq_getElem hi]; rfl
theorem cls_eq {ks : List κ} {i j : Nat} (hi : i < ks.length) (hj : j < ks.length) : (cls ks)[i]? = (cls ks)[j]? ↔ ks[i]? = ks[j]? := by
  rw [cls_get hi, cls_get hj, List.getElem?_eq_getElem hi, List.getElem?_eq_getElem hj]
  constructor
  · intro h
    rw [num_inj (mem_dst.2 (List.getElem_mem hi)) (mem_dst.2 (List.getElem_mem hj)) (Option.some.inj h)]
  · intro h
    rw [Option.some.inj h]
theorem cls_lt {ks : List κ} {x : Nat} (h : x ∈ cls ks) : x < ks.length := by
  obtain ⟨k, hk, rfl⟩ := List.mem_map.1 h
  have := idx_lt (mem_dst.2 hk)
  have := dst_length ks
  omega
end
theorem cls_congr_take {κ μ : Type} [DecidableEq κ] [DecidableEq μ] {ks : List κ} {ls : List μ} (hl : ks.length = ls.length) (h : ∀ i j, i < ks.length → j < ks.length → (ks[i]? = ks[j]? ↔ ls[i]? = ls[j]?)) :
    ∀ n, n ≤ ks.length → cls (ks.take n) = cls (ls.take n) ∧ (dst (ks.take n)).length = (dst (ls.take n)).length := by
  intro n
  induction n with
  | zero => intro _; simp [cls, dst, addAll]
  | succ n ih =>
    intro hn
    obtain ⟨h1, h2⟩ := ih (by omega)
    have e1 : ks.take (n + 1) = ks.take n ++ [ks[n]] := (List.take_append_getElem (by omega)).symm
    have e2 : ls.take (n + 1) = ls.take n ++ [ls[n]] := (List.take_append_getElem (by omega)).symm
    have hm1 : ∀ i, i < n → ((ks.take n)[i]? = some ks[n] ↔ (ls.take n)[i]? = some ls[n]) := fun i hi => by
      rw [List.getElem?_take_of_lt hi, List.getElem?_take_of_lt hi]
      have := h i n (by omega) (by omega)
      rwa [List.getElem?_eq_getElem (show n < ks.length by omega), List.getElem?_eq_getElem (show n < ls.length by omega)] at this
    have hmem : ks[n] ∈ ks.take n ↔ ls[n] ∈ ls.take n := by
      rw [List.mem_iff_getElem?, List.mem_iff_getElem?]
      constructor
      · rintro ⟨i, hi⟩
        have hin : i < n := by have := (List.getElem?_eq_some_iff.1 hi).1; rw [List.length_take] at this; omega
        exact ⟨i, (hm1 i hin).1 hi⟩
      · rintro ⟨i, hi⟩
        have hin : i < n := by have := (List.getElem?_eq_some_iff.1 hi).1; rw [List.length_take] at this; omega
        exact ⟨i, (hm1 i hin).2 hi⟩
    have hnum : num (dst (ks.take n ++ [ks[n]])) ks[n] = num (dst (ls.take n ++ [ls[n]])) ls[n] := by
      rw [num_snoc, num_snoc]
      by_cases hk : ks[n] ∈ ks.take n
      · rw [if_pos hk, if_pos (hmem.1 hk)]
        obtain ⟨i, hi⟩ := List.mem_iff_getElem?.1 hk
        have hin : i < n := by have := (List.getElem?_eq_some_iff.1 hi).1; rw [List.length_take] at this; omega
        have hi2 := (hm1 i hin).1 hi
        obtain ⟨q1, q2⟩ := List.getElem?_eq_some_iff.1 hi
        obtain ⟨q3, q4⟩ := List.getElem?_eq_some_iff.1 hi2
        have c1 := cls_get q1
        have c2 := cls_get q3
        rw [h1, c2, q2, q4] at c1
        exact (Option.some.inj c1).symm
      · rw [if_neg hk, if_neg (fun q => hk (hmem.2 q))]; exact h2
    rw [e1, e2]
    refine ⟨by rw [cls_snoc, cls_snoc, h1, hnum], ?_⟩
    rw [dst_snoc, dst_snoc]
    unfold addTo
    by_cases hk : ks[n] ∈ ks.take n
    · rw [if_pos (mem_dst.2 hk), if_pos (mem_dst.2 (hmem.1 hk))]; exact h2
    · rw [if_neg (fun q => hk (mem_dst.1 q)), if_neg (fun q => hk (hmem.2 (mem_dst.1 q)))]
      simp [h2]
theorem cls_congr {κ μ : Type} [DecidableEq κ] [DecidableEq μ] {ks : List κ} {ls : List μ} (hl : ks.length = ls.length) (h : ∀ i j, i < ks.length → j < ks.length → (ks[i]? = ks[j]? ↔ ls[i]? = ls[j]?)) : cls ks = cls ls := by
  have := (cls_congr_take hl h ks.length (Nat.le_refl _)).1
  rwa [List.take_length, hl, List.take_length] at this

/-! ### classes of states, finer and finer -/
def atC (cl : List Nat) (x : Nat) : Nat := cl[x]?.getD 0
/-- What tells a state from others. -/
def kindL (d : Aut) (cl : List Nat) (x : Nat) : List Nat := atC cl x :: (S1 d x).map (atC cl)
def clsA (d : Aut) : Nat → List Nat
  | 0 => cls d.fin
  | k + 1 => cls ((List.range d.next.length).map (kindL d (clsA d k)))
theorem clsA_length {d : Aut} (g : Df.Good d) (k : Nat) : (clsA d k).length = d.next.length := by
  cases k with
  | zero => rw [clsA, cls_length, g.fin]
  | succ k => rw [clsA, cls_length]; simp
theorem clsA_lt {d : Aut} (g : Df.Good d) {k x : Nat} (h : x ∈ clsA d k) : x < d.next.length := by
  cases k with
  | zero => have := cls_lt h; rw [g.fin] at this; exact this
  | succ k => have := cls_lt h; simpa using this
theorem atC_get {d : Aut} (g : Df.Good d) (k : Nat) {x : Nat} (hx : x < d.next.length) : (clsA d k)[x]? = some (atC (clsA d k) x) := by
  have h : x < (clsA d k).length := by rw [clsA_length g]; exact hx
  unfold atC; rw [List.getElem?_eq_getElem h]; rfl
theorem kind_eq {d : Aut} {cl : List Nat} {x y : Nat} : kindL d cl x = kindL d cl y ↔ atC cl x = atC cl y ∧ ∀ c : Nat, (c : Int) < d.L → atC cl (step d x c) = atC cl (step d y c) := by
  unfold kindL
  rw [List.cons.injEq]
  refine and_congr Iff.rfl ⟨fun h c hc => ?_, fun h => ?_⟩
  · have := congrArg (fun l => l[c]?) h
    simp only [List.getElem?_map] at this
    rw [S1_get d x hc, S1_get d y hc] at this
    simpa using this
  · refine List.ext_getElem? fun c => ?_
    rw [List.getElem?_map, List.getElem?_map]
    by_cases hc : (c : Int) < d.L
    · rw [S1_get d x hc, S1_get d y hc]
      simp [h c hc]
    · rw [List.getElem?_eq_none (by rw [S1_length]; omega), List.getElem?_eq_none (by rw [S1_length]; omega)]
abbrev rel (d : Aut) (k x y : Nat) : Bool := relF d.L.toNat (step d) (finA d) k x y
theorem rel_zero {d : Aut} {x y : Nat} : rel d 1 x y = true ↔ finA d x = finA d y := by
  rw [relF_iff]
  constructor
  · intro h
    have := (apF_false.1 (h 0 (by omega))) [] (by simp) rfl
    exact this
  · intro h j hj
    obtain rfl : j = 0 := by omega
    refine apF_false.2 fun w _ hl => ?_
    obtain rfl := List.eq_nil_of_length_eq_zero hl
    exact h
theorem rel_succ {d : Aut} {k x y : Nat} : rel d (k + 2) x y = true ↔ rel d (k + 1) x y = true ∧ ∀ c : Nat, (c : Int) < d.L → rel d (k + 1) (step d x c) (step d y c) = true := by
  constructor
  · intro h
    refine ⟨relF_less h (by omega), fun c hc => relF_iff.2 fun j hj => apF_false.2 fun w hw hl => ?_⟩
    have := (apF_false.1 (relF_iff.1 h (j + 1) (by omega))) (c :: w) (fun a ha => by
      rcases List.mem_cons.1 ha with rfl | ha
      · omega
      · exact hw a ha) (by simp [hl])
    exact this
  · rintro ⟨h1, h2⟩
    refine relF_iff.2 fun j hj => ?_
    rcases j with _ | j
    · exact relF_iff.1 h1 0 (by omega)
    · refine apF_false.2 fun w hw hl => ?_
      rcases w with _ | ⟨c, w⟩
      · simp at hl
      · have hc := hw c List.mem_cons_self
        exact (apF_false.1 (relF_iff.1 (h2 c (by omega)) j (by omega))) w (fun a ha => hw a (List.mem_cons_of_mem _ ha)) (by simpa using hl)
/-- Of one class just if no word of at most k letters tells them apart. -/
theorem clsA_iff {d : Aut} (g : Df.Good d) (k : Nat) : ∀ {x y : Nat}, x < d.next.length → y < d.next.length → (atC (clsA d k) x = atC (clsA d k) y ↔ rel d (k + 1) x y = true) := by
  induction k with
  | zero =>
    intro x y hx hy
    have h1 := cls_eq (ks := d.fin) (i := x) (j := y) (by rw [g.fin]; exact hx) (by rw [g.fin]; exact hy)
    have e1 := atC_get g 0 hx
    have e2 := atC_get g 0 hy
    rw [clsA] at e1 e2
    rw [e1, e2, g.fin_at hx, g.fin_at hy] at h1
    rw [rel_zero, clsA]
    simpa using h1
  | succ k ih =>
    intro x y hx hy
    have h1 := cls_eq (ks := (List.range d.next.length).map (kindL d (clsA d k))) (i := x) (j := y) (by simpa using hx) (by simpa using hy)
    have e1 := atC_get g (k + 1) hx
    have e2 := atC_get g (k + 1) hy
    rw [clsA] at e1 e2
    rw [e1, e2, List.getElem?_map, List.getElem?_map, List.getElem?_range hx, List.getElem?_range hy] at h1
    have h2 : atC (clsA d (k + 1)) x = atC (clsA d (k + 1)) y ↔ kindL d (clsA d k) x = kindL d (clsA d k) y := by
      rw [clsA]; simpa using h1
    rw [h2, kind_eq, rel_succ, ih hx hy]
    refine and_congr Iff.rfl ⟨fun h c hc => (ih (g.step_lt hx hc) (g.step_lt hy hc)).1 (h c hc), fun h c hc => (ih (g.step_lt hx hc) (g.step_lt hy hc)).2 (h c hc)⟩
/-- Once they are no finer they tell all apart that a word tells apart. -/
theorem clsA_stop {d : Aut} (g : Df.Good d) {k : Nat} (h : clsA d (k + 1) = clsA d k) {x y : Nat} (hx : x < d.next.length) (hy : y < d.next.length) : atC (clsA d k) x = atC (clsA d k) y ↔ Alike d d x y := by
  have h2 : ∀ {x y : Nat}, x < d.next.length → y < d.next.length → rel d (k + 1) x y = true → rel d (k + 2) x y = true := fun hx hy hr => by
    rw [← clsA_iff g (k + 1) hx hy, h, clsA_iff g k hx hy]; exact hr
  have h3 : ∀ (m : Nat) {x y : Nat}, x < d.next.length → y < d.next.length → rel d (k + 1) x y = true → rel d (k + 1 + m) x y = true := by
    intro m
    induction m with
    | zero => intro x y _ _ hr; exact hr
    | succ m ih =>
      intro x y hx hy hr
      have h4 := (rel_succ.1 (h2 hx hy hr)).2
      have e : k + 1 + (m + 1) = (k + m) + 2 := by omega
      rw [e, rel_succ]
      have e2 : k + m + 1 = k + 1 + m := by omega
      rw [e2]
      exact ⟨ih hx hy hr, fun c hc => ih (g.step_lt hx hc) (g.step_lt hy hc) (h4 c hc)⟩
  rw [clsA_iff g k hx hy]
  constructor
  · intro hr w hw
    have h5 := ap2_false (a := d) (b := d) (k := w.length) (x := x) (y := y)
    refine h5.1 ?_ w hw rfl
    rw [ap2_self]
    exact relF_iff.1 (h3 (w.length + 1) hx hy hr) w.length (by omega)
  · intro ha
    refine relF_iff.2 fun j _ => ?_
    rw [← ap2_self]
    exact ap2_false.2 fun w hw _ => ha w hw
def kindsN (d : Aut) (k : Nat) : Nat := kinds d.L.toNat (step d) (finA d) d.next.length k
theorem kindsN_pos {d : Aut} (g : Df.Good d) (k : Nat) : 1 ≤ kindsN d k := by
  unfold kindsN kinds
  refine List.length_pos_iff.2 fun e => ?_
  have : (0 : Nat) ∈ (List.range d.next.length).filter (repF d.L.toNat (step d) (finA d) k) := List.mem_filter.2 ⟨List.mem_range.2 g.n1, repF_iff.2 fun y hy => by omega⟩
  rw [e] at this; simp at this
theorem kindsN_le (d : Aut) (k : Nat) : kindsN d k ≤ d.next.length := kinds_le _ _
/-- As long as they become finer there are more of them. -/
theorem clsA_more {d : Aut} (g : Df.Good d) {k : Nat} (h : clsA d (k + 1) ≠ clsA d k) : kindsN d (k + 1) < kindsN d (k + 2) := by
  have hex : ∃ x y, x < d.next.length ∧ y < d.next.length ∧ rel d (k + 1) x y = true ∧ ¬ rel d (k + 2) x y = true := by
    refine Classical.byContradiction fun hn => h ?_
    have h2 : ∀ {x y : Nat}, x < d.next.length → y < d.next.length → (atC (clsA d (k + 1)) x = atC (clsA d (k + 1)) y ↔ atC (clsA d k) x = atC (clsA d k) y) := fun {x y} hx hy => by
      rw [clsA_iff g (k + 1) hx hy, clsA_iff g k hx hy]
      refine ⟨fun hr => relF_less hr (by omega), fun hr => ?_⟩
      refine Classical.byContradiction fun hc => hn ⟨x, y, hx, hy, hr, hc⟩
    have h3 : ∀ {κ μ : Type} [DecidableEq κ] [DecidableEq μ] (ks : List κ) (ls : List μ), clsA d (k + 1) = cls ks → clsA d k = cls ls → ks.length = d.next.length → ls.length = d.next.length → clsA d (k + 1) = clsA d k := by
      intro κ μ _ _ ks ls e1 e2 l1 l2
      rw [e1, e2]
      refine cls_congr (by omega) fun i j hi hj => ?_
      rw [← cls_eq hi hj, ← cls_eq (ks := ls) (by omega) (by omega), ← e1, ← e2, atC_get g _ (by omega), atC_get g _ (by omega), atC_get g _ (by omega), atC_get g _ (by omega)]
      simpa using h2 (x := i) (y := j) (by omega) (by omega)
    rcases k with _ | k
    · exact h3 _ _ rfl rfl (by simp) (by rw [g.fin])
    · exact h3 _ _ rfl rfl (by simp) (by simp)
  obtain ⟨x, y, hx, hy, hr, hn⟩ := hex
  refine kinds_step (N := d.next.length) (k := k + 1) hx hy hr ?_
  rcases ha : apF d.L.toNat (step d) (finA d) (k + 1) x y with _ | _
  · exact absurd (relF_up hr ha) hn
  · rfl

/-! ### one state of each class -/
/-- The states below m that are the first of their class. -/
def firsts (d : Aut) (m : Nat) : List Nat := (List.range m).filter fun q => kin d d q == q
theorem firsts_succ (d : Aut) (m : Nat) : firsts d (m + 1) = firsts d m ++ (if kin d d m = m then [m] else []) := by
  unfold firsts
  rw [List.range_succ, List.filter_append]
  congr 1
  by_cases h : kin d d m = m <;> simp [h]
theorem mem_firsts {d : Aut} {m q : Nat} : q ∈ firsts d m ↔ q < m ∧ kin d d q = q := by unfold firsts; rw [List.mem_filter]; simp
theorem firsts_mono {d : Aut} {m n : Nat} (h : m ≤ n) : ∃ r, firsts d n = firsts d m ++ r := by
  induction n with
  | zero => obtain rfl : m = 0 := by omega
            exact ⟨[], by simp⟩
  | succ n ih =>
    by_cases e : m = n + 1
    · subst e; exact ⟨[], by simp⟩
    · obtain ⟨r, hr⟩ := ih (by omega)
      exact ⟨r ++ (if kin d d n = n then [n] else []), by rw [firsts_succ, hr, List.append_assoc]⟩
theorem firsts_length (d : Aut) (m : Nat) : (firsts d m).length ≤ m := by
  have := List.length_filter_le (fun q => kin d d q == q) (List.range m)
  simpa [firsts] using this
theorem firsts_get {d : Aut} {m q : Nat} (h : q < m) (hk : kin d d q = q) : (firsts d m)[(firsts d q).length]? = some q := by
  obtain ⟨r, hr⟩ := firsts_mono (d := d) (show q + 1 ≤ m by omega)
  rw [hr, firsts_succ, if_pos hk, List.append_assoc, List.getElem?_append_right (Nat.le_refl _), Nat.sub_self]; rfl
theorem firsts_nodup (d : Aut) (m : Nat) : (firsts d m).Nodup := List.nodup_range.filter _
theorem num_firsts {d : Aut} {m q : Nat} (h : q < m) (hk : kin d d q = q) : num (firsts d m) q = (firsts d q).length := idx_of (firsts_nodup d m) (firsts_get h hk)
theorem alike_kin {d : Aut} (g : Df.Good d) {x y : Nat} (hx : x < d.next.length) (hy : y < d.next.length) : Alike d d x y ↔ kin d d x = kin d d y := by
  constructor
  · intro h; exact kin_congr (Good2.self g) (Good2.self g) hx hy hx (Alike.refl d x) h
  · intro h
    have h1 := (stand_spec g hx).2.2
    have h2 := (stand_spec g hy).2.2
    rw [h] at h1
    exact h1.trans (h2.symm rfl) rfl
section
variable {d : Aut} {cl : List Nat}
/-- Classes that are numbered by their first places, and tell all apart that a word does. -/
structure Fine (d : Aut) (cl : List Nat) : Prop where
  len : cl.length = d.next.length
  form : ∃ (κ : Type) (_ : DecidableEq κ) (ks : List κ), cl = cls ks
  iff : ∀ {x y : Nat}, x < d.next.length → y < d.next.length → (atC cl x = atC cl y ↔ Alike d d x y)
theorem clsA_fine (g : Df.Good d) {k : Nat} (h : clsA d (k + 1) = clsA d k) : Fine d (clsA d k) :=
  ⟨clsA_length g k, by cases k with
    | zero => exact ⟨_, _, _, rfl⟩
    | succ k => exact ⟨_, _, _, rfl⟩, fun hx hy => clsA_stop g h hx hy⟩
theorem Fine.num (h : Fine d cl) (g : Df.Good d) {x : Nat} (hx : x < d.next.length) : atC cl x = (firsts d (kin d d x)).length := by
  obtain ⟨κ, _, ks, rfl⟩ := h.form
  have hl : ks.length = d.next.length := by have := h.len; rwa [cls_length] at this
  have hat : ∀ {y : Nat} (hy : y < d.next.length), atC (cls ks) y = Df.num (dst ks) (ks[y]'(by omega)) := fun hy => by
    unfold atC; rw [cls_get (by omega)]; rfl
  have heq : ∀ {x y : Nat} (hx : x < d.next.length) (hy : y < d.next.length), (ks[x]'(by omega) = ks[y]'(by omega)) ↔ kin d d x = kin d d y := fun {x y} hx hy => by
    rw [← alike_kin g hx hy, ← h.iff hx hy, hat hx, hat hy]
    exact ⟨fun e => by rw [e], fun e => num_inj (mem_dst.2 (List.getElem_mem _)) (mem_dst.2 (List.getElem_mem _)) e⟩
  have hold : ∀ {m : Nat} (hm : m < d.next.length), ks[m]'(by omega) ∈ ks.take m ↔ kin d d m ≠ m := fun {m} hm => by
    rw [List.mem_iff_getElem?]
    constructor
    · rintro ⟨i, hi⟩ e
      have him : i < m := by have := (List.getElem?_eq_some_iff.1 hi).1; rw [List.length_take] at this; omega
      rw [List.getElem?_take_of_lt him, List.getElem?_eq_getElem (by omega)] at hi
      have := (heq (x := i) (y := m) (by omega) hm).1 (Option.some.inj hi)
      have := (stand_spec g (x := i) (by omega)).1
      omega
    · intro e
      have h1 := stand_spec g hm
      refine ⟨kin d d m, ?_⟩
      rw [List.getElem?_take_of_lt (by omega), List.getElem?_eq_getElem (by omega)]
      congr 1
      exact (heq h1.2.1 hm).2 (stand_stand g hm)
  have hlen : ∀ m, m ≤ d.next.length → (dst (ks.take m)).length = (firsts d m).length := by
    intro m
    induction m with
    | zero => intro _; simp [dst, addAll, firsts]
    | succ m ih =>
      intro hm
      have e1 : ks.take (m + 1) = ks.take m ++ [ks[m]] := (List.take_append_getElem (by omega)).symm
      rw [e1, dst_snoc, firsts_succ]
      unfold addTo
      by_cases e : kin d d m = m
      · rw [if_pos e, if_neg (fun q => ((hold (by omega)).1 (mem_dst.1 q)) e)]
        simp [ih (by omega)]
      · rw [if_neg e, if_pos (mem_dst.2 ((hold (by omega)).2 e))]
        simp [ih (by omega)]
  have h1 := stand_spec g hx
  rw [hat hx, (heq hx h1.2.1).2 (stand_stand g hx).symm]
  have hk := h1.2.1
  have hn : ks[kin d d x]'(by omega) ∉ ks.take (kin d d x) := fun q => ((hold hk).1 q) (stand_stand g hx)
  have e : ks = (ks.take (kin d d x) ++ [ks[kin d d x]'(by omega)]) ++ ks.drop (kin d d x + 1) := by
    rw [List.take_append_getElem, List.take_append_drop]
  rw [← hlen _ (by omega)]
  have h3 : Df.num (dst ((ks.take (kin d d x) ++ [ks[kin d d x]'(by omega)]) ++ ks.drop (kin d d x + 1))) (ks[kin d d x]'(by omega)) = (dst (ks.take (kin d d x))).length := by
    rw [num_grow (List.mem_append_right _ (List.mem_singleton.2 rfl)), num_snoc, if_neg hn]
  rwa [← e] at h3
theorem Fine.skip (h : Fine d cl) (g : Df.Good d) {x : Nat} (hx : x < d.next.length) : atC cl x < (firsts d x).length ↔ kin d d x ≠ x := by
  rw [h.num g hx]
  have h1 := stand_spec g hx
  constructor
  · intro h2 e; rw [e] at h2; omega
  · intro e
    obtain ⟨r, hr⟩ := firsts_mono (d := d) (show kin d d x + 1 ≤ x by omega)
    rw [hr, firsts_succ, if_pos (stand_stand g hx)]
    simp
theorem Fine.num' (h : Fine d cl) (g : Df.Good d) {x : Nat} (hx : x < d.next.length) : atC cl x = Df.num (firsts d d.next.length) (kin d d x) := by
  have h1 := stand_spec g hx
  rw [h.num g hx, num_firsts h1.2.1 (stand_stand g hx)]
end
/-- What is merged of the states below m. -/
def mergedN (d : Aut) (cl : List Nat) (m : Nat) : Aut := ⟨d.L, 0, (firsts d m).map fun q => (S1 d q).map fun t => ((atC cl t : Nat) : Int), (firsts d m).map (finA d)⟩
theorem expl_prefix {α : Type} [DecidableEq α] {S : α → List α} : ∀ (f i : Nat) (l r : List α), expl S f i l = some r → ∃ m, r = l ++ m
  | 0, i, l, r, h => by rw [expl] at h; cases h; exact ⟨[], by simp⟩
  | f + 1, i, l, r, h => by
    rw [expl] at h
    rcases hx : l[i]? with _ | x
    · rw [hx] at h; cases h; exact ⟨[], by simp⟩
    · rw [hx] at h
      simp only at h
      by_cases hn : 40 < (addAll l (S x)).length
      · rw [if_pos hn] at h; cases h
      · rw [if_neg hn] at h
        obtain ⟨m, hm⟩ := expl_prefix f (i + 1) _ r h
        obtain ⟨m', hm'⟩ := addAll_prefix l (S x)
        exact ⟨m' ++ m, by rw [hm, hm', List.append_assoc]⟩
theorem prefix_range {n : Nat} {l m : List Nat} (h : List.range n = l ++ m) : l = List.range l.length := by
  have h1 : l = (List.range n).take l.length := by rw [h]; simp
  have h2 : l.length ≤ n := by have := congrArg List.length h; simp at this; omega
  rw [List.take_range, Nat.min_eq_left h2] at h1
  exact h1
theorem addAll_firsts {d : Aut} (g : Df.Good d) : ∀ (ts : List Nat) (k k' : Nat), (∀ t ∈ ts, t < d.next.length) → addAll (List.range k) ts = List.range k' → addAll (firsts d k) (ts.map (kin d d)) = firsts d k'
  | [], k, k', _, h => by
    have := congrArg List.length h
    simp [addAll] at this
    subst this; rfl
  | t :: ts, k, k', ht, h => by
    have htl := ht t List.mem_cons_self
    have h1 := stand_spec g htl
    have hs := stand_stand g htl
    have e1 : addAll (List.range k) (t :: ts) = addAll (addTo (List.range k) t) ts := rfl
    have e2 : addAll (firsts d k) ((t :: ts).map (kin d d)) = addAll (addTo (firsts d k) (kin d d t)) (ts.map (kin d d)) := rfl
    rw [e1] at h
    rw [e2]
    have ih := addAll_firsts g ts
    by_cases hk : t < k
    · have a1 : addTo (List.range k) t = List.range k := by unfold addTo; rw [if_pos (List.mem_range.2 hk)]
      have a2 : addTo (firsts d k) (kin d d t) = firsts d k := by unfold addTo; rw [if_pos (mem_firsts.2 ⟨by omega, hs⟩)]
      rw [a1] at h; rw [a2]
      exact ih k k' (fun x hx => ht x (List.mem_cons_of_mem _ hx)) h
    · have a1 : addTo (List.range k) t = List.range k ++ [t] := by unfold addTo; rw [if_neg (fun q => hk (List.mem_range.1 q))]
      rw [a1] at h
      obtain ⟨m, hm⟩ := addAll_prefix (List.range k ++ [t]) ts
      have h3 : List.range k' = (List.range k ++ [t]) ++ m := by rw [← h, hm]
      have h4 := prefix_range h3
      have h5 : t = k := by
        have := congrArg (fun l => l[k]?) h4
        simpa using this
      subst h5
      rw [← List.range_succ] at h
      have a2 : addTo (firsts d t) (kin d d t) = firsts d (t + 1) := by
        rw [firsts_succ]
        by_cases e : kin d d t = t
        · rw [if_pos e, e]; unfold addTo; rw [if_neg (fun q => by have := (mem_firsts.1 q).1; omega)]
        · rw [if_neg e]; unfold addTo; rw [if_pos (mem_firsts.2 ⟨by omega, hs⟩)]; simp
      rw [a2]
      exact ih (t + 1) k' (fun x hx => ht x (List.mem_cons_of_mem _ hx)) h
theorem addAll_old {α : Type} [DecidableEq α] {l : List α} : ∀ (ts : List α), (∀ t ∈ ts, t ∈ l) → addAll l ts = l
  | [], _ => rfl
  | t :: ts, h => by
    have e : addAll l (t :: ts) = addAll (addTo l t) ts := rfl
    have a : addTo l t = l := by unfold addTo; rw [if_pos (h t List.mem_cons_self)]
    rw [e, a]
    exact addAll_old ts fun x hx => h x (List.mem_cons_of_mem _ hx)
theorem quo_expl {d : Aut} (g : Df.Good d) : ∀ (f i k f' : Nat), f + i = 41 → f ≤ f' → i ≤ k → k ≤ d.next.length → (∀ r, r < i → ∀ t ∈ S1 d r, t < k) → expl (S1 d) f i (List.range k) = some (List.range d.next.length) →
    expl (S1 (quo d)) f' (firsts d i).length (firsts d k) = some (firsts d d.next.length) := by
  intro f
  induction f with
  | zero => intro i k f' h1 _ h2 h3 _ _; have := g.n40; omega
  | succ f ih =>
    intro i k f' h1 hf hik hkn hcl h
    rw [expl] at h
    obtain ⟨f', rfl⟩ : ∃ q, f' = q + 1 := ⟨f' - 1, by omega⟩
    by_cases hlt : i < k
    · rw [List.getElem?_range hlt] at h
      simp only at h
      by_cases hn : 40 < (addAll (List.range k) (S1 d i)).length
      · rw [if_pos hn] at h; cases h
      · rw [if_neg hn] at h
        obtain ⟨m, hm⟩ := expl_prefix _ _ _ _ h
        obtain ⟨k', hk'⟩ : ∃ k', addAll (List.range k) (S1 d i) = List.range k' := ⟨_, prefix_range hm⟩
        obtain ⟨m2, hm2⟩ := addAll_prefix (List.range k) (S1 d i)
        have hkk : k ≤ k' := by have := congrArg List.length (hk'.symm.trans hm2); simp at this; omega
        have hkn' : k' ≤ d.next.length := by rw [hk'] at hm; have := congrArg List.length hm; simp at this; omega
        rw [hk'] at h
        have hin : i < d.next.length := by omega
        have hfa := addAll_firsts g (S1 d i) k k' (fun t ht => S1_lt g hin ht) hk'
        have hcl' : ∀ r, r < i + 1 → ∀ t ∈ S1 d r, t < k' := fun r hr t ht => by
          by_cases e : r = i
          · subst e
            have : t ∈ addAll (List.range k) (S1 d r) := mem_addAll.2 (.inr ht)
            rw [hk'] at this; exact List.mem_range.1 this
          · have := hcl r (by omega) t ht; omega
        by_cases hrep : kin d d i = i
        · have h5 := ih (i + 1) k' f' (by omega) (by omega) (by omega) hkn' hcl' h
          rw [firsts_succ, if_pos hrep] at h5
          rw [expl, firsts_get hlt hrep]
          simp only
          rw [quo_S1 g hin, hfa]
          have hl5 := firsts_length d k'
          have := g.n40
          rw [if_neg (by omega)]
          simpa using h5
        · have h5 := ih (i + 1) k' (f' + 1) (by omega) (by omega) (by omega) hkn' hcl' h
          have hsame : firsts d k' = firsts d k := by
            rw [← hfa]
            refine addAll_old _ fun t ht => ?_
            obtain ⟨u, hu, rfl⟩ := List.mem_map.1 ht
            have hs1 := stand_spec g hin
            obtain ⟨c, hc, rfl⟩ := mem_S1.1 hu
            have hu2 := g.step_lt hin hc
            have hu3 := g.step_lt hs1.2.1 hc
            have e := (alike_kin g hu2 hu3).1 (hs1.2.2.step hc)
            have h6 := hcl (kin d d i) (by omega) _ (mem_S1.2 ⟨c, hc, rfl⟩)
            have h7 := (stand_spec g hu3).1
            exact mem_firsts.2 ⟨by omega, stand_stand g hu2⟩
          rw [firsts_succ, if_neg hrep, List.append_nil, hsame] at h5
          exact h5
    · obtain rfl : i = k := by omega
      rw [List.getElem?_eq_none (by simp)] at h
      have : i = d.next.length := by have := congrArg (Option.map List.length) h; simpa using this
      rw [expl, List.getElem?_eq_none (Nat.le_refl _)]
      simp only
      rw [this]
theorem quo_firsts {d : Aut} (g : Df.Good d) (h : rset d 0 = List.range d.next.length) : rset (quo d) 0 = firsts d d.next.length := by
  have h0 : kin d d 0 = 0 := by have := (stand_spec g g.n1).1; omega
  have h1 : found (S1 d) 0 = some (List.range d.next.length) := by
    obtain ⟨l, hl⟩ := found1 g g.n1
    rw [← h]; unfold rset; rw [hl]; rfl
  have h2 := quo_expl g 41 0 1 41 rfl (Nat.le_refl _) (by omega) g.n1 (fun r hr => by omega) h1
  have e1 : firsts d 1 = [0] := by rw [firsts_succ, if_pos h0]; rfl
  rw [e1] at h2
  have h3 : found (S1 (quo d)) 0 = some (firsts d d.next.length) := h2
  unfold rset; rw [h3]; rfl
theorem merged_min {d : Aut} (g : Df.Good d) {cl : List Nat} (hc : Fine d cl) (hs : d.s = 0) (h : rset d 0 = List.range d.next.length) : mergedN d cl d.next.length = minA d := by
  have h0 : kin d d 0 = 0 := by have := (stand_spec g g.n1).1; omega
  have e0 : (quo d).s = 0 := by show ((kin d d d.s.toNat : Nat) : Int) = 0; rw [hs]; simp [h0]
  unfold minA trimA
  rw [e0]
  show _ = autOf d.L (S1 (quo d)) (rset (quo d) 0) (finA (quo d))
  rw [quo_firsts g h]
  unfold mergedN autOf
  congr 1
  refine List.map_congr_left fun q hq => ?_
  have hq1 := (mem_firsts.1 hq).1
  unfold srow
  rw [quo_S1 g hq1, List.map_map]
  refine List.map_congr_left fun t ht => ?_
  show _ = ((Df.num _ (kin d d t) : Nat) : Int)
  rw [hc.num' g (S1_lt g hq1 ht)]
/-- Trimmed and merged: the smallest one. -/
theorem trimmed_min {d : Aut} (g : Df.Good d) {cl : List Nat} (hc : Fine (trimA d) cl) : mergedN (trimA d) cl (trimA d).next.length = minA d := by
  have g2 := trim_good g
  have hr := rset_trim g
  have hl : (rset d d.s.toNat).length = (trimA d).next.length := by simp [trimA, autOf]
  rw [hl] at hr
  rw [merged_min g2 hc rfl hr]
  exact min_unique (a := d) (b := trimA d) ⟨g, g2, rfl⟩ fun w hw => (trim_acc g hw).symm
end Go.Proofs.YtbciefeipiphiaaDoor.Sm
