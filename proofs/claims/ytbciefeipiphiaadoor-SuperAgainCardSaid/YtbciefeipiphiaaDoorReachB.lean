/- Plain mathematics of package reach's search: what is found, each with a word; the words are the first that lead there. -/
import Derived.Test.YtbciefeipiphiaaDoorDfaM
namespace Go.Proofs.YtbciefeipiphiaaDoor.Rc
open Go.Proofs.YtbciefeipiphiaaDoor.Df Go.Proofs.YtbciefeipiphiaaDoor.Wo

/-- One that is found, and a word that leads to it. -/
abbrev Fd := Nat × List Int
def known (l : List Fd) (t : Nat) : Prop := t ∈ l.map (·.1)
instance (l : List Fd) (t : Nat) : Decidable (known l t) := inferInstanceAs (Decidable (_ ∈ _))
/-- A state is added, with its word, if it is new. -/
def addW (l : List Fd) (t : Nat) (w : List Int) : List Fd := if known l t then l else l ++ [(t, w)]
/-- All that follow x, by the letters below c. -/
def addTo' (d : Aut) (l : List Fd) (x : Fd) : Nat → List Fd
  | 0 => l
  | c + 1 => addW (addTo' d l x c) (Df.step d x.1 c) (x.2 ++ [(c : Int)])
theorem addW_prefix (l : List Fd) (t : Nat) (w : List Int) : ∃ m, addW l t w = l ++ m := by
  unfold addW; split
  · exact ⟨[], by simp⟩
  · exact ⟨[(t, w)], rfl⟩
theorem addTo'_prefix (d : Aut) (l : List Fd) (x : Fd) (c : Nat) : ∃ m, addTo' d l x c = l ++ m := by
  induction c with
  | zero => exact ⟨[], by simp [addTo']⟩
  | succ c ih =>
    obtain ⟨m, hm⟩ := ih
    obtain ⟨m', hm'⟩ := addW_prefix (addTo' d l x c) (Df.step d x.1 c) (x.2 ++ [(c : Int)])
    exact ⟨m ++ m', by rw [addTo', hm', hm, List.append_assoc]⟩
theorem addTo'_length (d : Aut) (l : List Fd) (x : Fd) (c : Nat) : (addTo' d l x c).length ≤ l.length + c := by
  induction c with
  | zero => exact Nat.le_refl _
  | succ c ih =>
    have h : ∀ (m : List Fd) (t : Nat) (w : List Int), (addW m t w).length ≤ m.length + 1 := fun m t w => by
      unfold addW; split
      · omega
      · simp
    have := h (addTo' d l x c) (Df.step d x.1 c) (x.2 ++ [(c : Int)])
    rw [addTo']; omega
theorem addW_states (l : List Fd) (t : Nat) (w : List Int) : (addW l t w).map (·.1) = addTo (l.map (·.1)) t := by
  unfold addW addTo
  by_cases h : known l t
  · have h' : t ∈ l.map (·.1) := h
    rw [if_pos h, if_pos h']
  · have h' : ¬ t ∈ l.map (·.1) := h
    rw [if_neg h, if_neg h', List.map_append]; rfl
theorem addTo'_states (d : Aut) (l : List Fd) (x : Fd) {c : Nat} (hc : (c : Int) ≤ d.L) : (addTo' d l x c).map (·.1) = addAll (l.map (·.1)) ((S1 d x.1).take c) := by
  induction c with
  | zero => simp [addTo', addAll]
  | succ c ih =>
    rw [addTo', addW_states, ih (by omega), addAll_succ (S1_get d x.1 (by omega))]
theorem addTo'_all (d : Aut) (l : List Fd) (x : Fd) (h1 : 1 ≤ d.L) : (addTo' d l x d.L.toNat).map (·.1) = addAll (l.map (·.1)) (S1 d x.1) := by
  rw [addTo'_states d l x (by omega), List.take_of_length_le (by rw [S1_length]; exact Nat.le_refl _)]
/-- What is next to be looked at is ahead of all that is not found yet, and behind all that is. -/
def cand (l : List Fd) (i c : Nat) : List Int := (l[i]?.getD (0, [])).2 ++ [(c : Int)]
theorem lss_len {v w : List Int} (h : v.length < w.length) : lss v w = true := by
  unfold lss; rw [if_neg (by omega)]; exact decide_eq_true h
theorem lx_snoc : ∀ (v w : List Int) (a b : Int), v.length = w.length → lx v w = true → lx (v ++ [a]) (w ++ [b]) = true
  | [], [], _, _, _, h => by simp [lx] at h
  | [], _ :: _, _, _, hl, _ => by simp at hl
  | _ :: _, [], _, _, hl, _ => by simp at hl
  | x :: v, y :: w, a, b, hl, h => by
    rw [lx] at h
    rw [List.cons_append, List.cons_append, lx]
    by_cases e : x = y
    · rw [if_pos e] at h ⊢
      exact lx_snoc v w a b (by simpa using hl) h
    · rw [if_neg e] at h ⊢
      exact h
theorem lx_last : ∀ (v : List Int) (a b : Int), a < b → lx (v ++ [a]) (v ++ [b]) = true
  | [], a, b, h => by
    rw [List.nil_append, List.nil_append, lx, if_neg (by omega)]; exact decide_eq_true h
  | x :: v, a, b, h => by
    rw [List.cons_append, List.cons_append, lx, if_pos rfl]; exact lx_last v a b h
theorem lss_snoc {v w : List Int} (h : lss v w = true) (a b : Int) : lss (v ++ [a]) (w ++ [b]) = true := by
  unfold lss at h ⊢
  simp only [List.length_append, List.length_singleton]
  by_cases e : v.length = w.length
  · rw [if_pos e] at h
    rw [if_pos (by omega)]
    exact lx_snoc v w a b e h
  · rw [if_neg e] at h
    have := of_decide_eq_true h
    rw [if_neg (by omega)]
    exact decide_eq_true (by omega)
theorem lss_last (v : List Int) {a b : Int} (h : a < b) : lss (v ++ [a]) (v ++ [b]) = true := by
  unfold lss
  rw [if_pos (by simp)]
  exact lx_last v a b h
/-- Not behind. -/
def ahead (v w : List Int) : Prop := lss w v = false
theorem ahead_refl (v : List Int) : ahead v v := lss_irr v
theorem ahead_of {v w : List Int} (h : lss v w = true) : ahead v w := lss_asym h
theorem ahead_or {v w : List Int} (h : ahead v w) : v = w ∨ lss v w = true := by
  rcases e : lss v w with _ | _
  · exact .inl (lss_total e h)
  · exact .inr rfl
theorem ahead_trans {u v w : List Int} (h1 : ahead u v) (h2 : ahead v w) : ahead u w := by
  rcases ahead_or h1 with rfl | h1
  · exact h2
  · rcases ahead_or h2 with rfl | h2
    · exact ahead_of h1
    · exact ahead_of (lss_trans h1 h2)
theorem ahead_snoc {v w : List Int} (h : ahead v w) (a : Int) : ahead (v ++ [a]) (w ++ [a]) := by
  rcases ahead_or h with rfl | h
  · exact ahead_refl _
  · exact ahead_of (lss_snoc h a a)
/-- Midway: states below i are done, of state i all letters below c. -/
structure Srch (d : Aut) (s : Nat) (l : List Fd) (i c : Nat) : Prop where
  hd : l[0]? = some (s, [])
  ok : ∀ x ∈ l, Word d.L x.2 ∧ runA d s x.2 = x.1
  sort : l.Pairwise fun x y => lss x.2 y.2 = true
  len : ∀ (k : Nat) (x : Fd), l[k]? = some x → x.2.length ≤ k
  below : i < l.length → ∀ x ∈ l, lss x.2 (cand l i c) = true
  done : ∀ k x, l[k]? = some x → ∀ a : Nat, (a : Int) < d.L → (k < i ∨ k = i ∧ a < c) → ∃ w, (Df.step d x.1 a, w) ∈ l ∧ ahead w (x.2 ++ [(a : Int)])
theorem srch_start (d : Aut) (s : Nat) : Srch d s [(s, [])] 0 0 := by
  refine ⟨rfl, fun x hx => ?_, by simp, fun k x hx => ?_, fun _ x hx => ?_, fun k x _ a _ h => by omega⟩
  · simp at hx; subst hx
    exact ⟨by intro a ha; simp at ha, rfl⟩
  · have := List.mem_of_getElem? hx
    simp at this; subst this; simp
  · simp at hx; subst hx
    exact lss_len (by simp [cand])
theorem Srch.step {d : Aut} {s : Nat} {l : List Fd} {i c : Nat} (h : Srch d s l i c) {x : Fd} (hx : l[i]? = some x) (hc : (c : Int) < d.L) : Srch d s (addW l (Df.step d x.1 c) (x.2 ++ [(c : Int)])) i (c + 1) := by
  have hi := (List.getElem?_eq_some_iff.1 hx).1
  have hm : x ∈ l := List.mem_of_getElem? hx
  obtain ⟨hw, hr⟩ := h.ok x hm
  have hcand : cand l i c = x.2 ++ [(c : Int)] := by unfold cand; rw [hx]; rfl
  have hnext : ∀ (m : List Fd), cand (l ++ m) i (c + 1) = x.2 ++ [((c + 1 : Nat) : Int)] := fun m => by
    unfold cand; rw [List.getElem?_append_left hi, hx]; rfl
  have hlt : lss (x.2 ++ [(c : Int)]) (x.2 ++ [((c + 1 : Nat) : Int)]) = true := lss_last _ (by omega)
  unfold addW
  by_cases hk : known l (Df.step d x.1 c)
  · rw [if_pos hk]
    refine ⟨h.hd, h.ok, h.sort, h.len, fun hi y hy => ?_, fun k y hy a ha hp => ?_⟩
    · have h2 := h.below hi y hy
      rw [hcand] at h2
      have h3 := hnext []
      rw [List.append_nil] at h3
      rw [h3]
      exact lss_trans h2 hlt
    · by_cases e : k < i ∨ k = i ∧ a < c
      · exact h.done k y hy a ha e
      · obtain rfl : k = i := by omega
        obtain rfl : a = c := by omega
        obtain rfl := Option.some.inj (hx.symm.trans hy)
        obtain ⟨z, hz, e⟩ := List.mem_map.1 hk
        have h2 := h.below hi z hz
        rw [hcand] at h2
        refine ⟨z.2, ?_, ahead_of h2⟩
        rw [← e]; exact hz
  · rw [if_neg hk]
    have hb : ∀ y ∈ l, lss y.2 (x.2 ++ [(c : Int)]) = true := fun y hy => by
      have h2 := h.below hi y hy
      rwa [hcand] at h2
    refine ⟨?_, fun y hy => ?_, ?_, fun k y hy => ?_, fun _ y hy => ?_, fun k y hy a ha hp => ?_⟩
    · rw [List.getElem?_append_left (by omega)]; exact h.hd
    · rcases List.mem_append.1 hy with hy | hy
      · exact h.ok y hy
      · simp at hy; subst hy
        refine ⟨fun a ha => ?_, by show runA d s (x.2 ++ [(c : Int)]) = _; rw [runA_append, hr]; rfl⟩
        rcases List.mem_append.1 ha with ha | ha
        · exact hw a ha
        · simp at ha; subst ha; exact ⟨by omega, hc⟩
    · rw [List.pairwise_append]
      refine ⟨h.sort, by simp, fun y hy z hz => ?_⟩
      simp at hz; subst hz
      exact hb y hy
    · by_cases hkl : k < l.length
      · rw [List.getElem?_append_left hkl] at hy
        exact h.len k y hy
      · have h3 := (List.getElem?_eq_some_iff.1 hy).1
        rw [List.length_append, List.length_singleton] at h3
        obtain rfl : k = l.length := by omega
        rw [List.getElem?_append_right (Nat.le_refl _), Nat.sub_self] at hy
        simp at hy; subst hy
        have := h.len i x hx
        simp only [List.length_append, List.length_singleton]; omega
    · rw [hnext]
      rcases List.mem_append.1 hy with hy | hy
      · exact lss_trans (hb y hy) hlt
      · simp at hy; subst hy; exact hlt
    · have hkl : k < l.length := by
        rcases hp with hp | hp <;> omega
      rw [List.getElem?_append_left hkl] at hy
      by_cases e : k < i ∨ k = i ∧ a < c
      · obtain ⟨w, hw1, hw2⟩ := h.done k y hy a ha e
        exact ⟨w, List.mem_append_left _ hw1, hw2⟩
      · obtain rfl : k = i := by omega
        obtain rfl : a = c := by omega
        obtain rfl := Option.some.inj (hx.symm.trans hy)
        exact ⟨_, List.mem_append_right _ (List.mem_singleton.2 rfl), ahead_refl _⟩
theorem Srch.row {d : Aut} {s : Nat} {l : List Fd} {i c : Nat} (h : Srch d s l i c) (hi : i < l.length) (hc : d.L ≤ (c : Int)) : Srch d s l (i + 1) 0 := by
  refine ⟨h.hd, h.ok, h.sort, h.len, fun hi' y hy => ?_, fun k y hy a ha hp => h.done k y hy a ha (by omega)⟩
  have h2 := h.below hi y hy
  refine lss_trans h2 ?_
  unfold cand
  have hlt : lss (l[i]).2 (l[i + 1]).2 = true := (List.pairwise_iff_getElem.1 h.sort) i (i + 1) hi hi' (by omega)
  rw [List.getElem?_eq_getElem hi, List.getElem?_eq_getElem hi']
  exact lss_snoc hlt _ _
/-- At the end: every word has one that is not behind it and leads to the same state. -/
theorem Srch.all {d : Aut} {s : Nat} {l : List Fd} {i : Nat} (h : Srch d s l i 0) (hi : l.length ≤ i) {v : List Int} (hv : Word d.L v) : ∃ w, (runA d s v, w) ∈ l ∧ ahead w v := by
  have key : ∀ (n : Nat) (v : List Int), v.length = n → Word d.L v → ∃ w, (runA d s v, w) ∈ l ∧ ahead w v := by
    intro n
    induction n with
    | zero =>
      intro v hl _
      obtain rfl := List.eq_nil_of_length_eq_zero hl
      exact ⟨[], List.mem_of_getElem? h.hd, ahead_refl _⟩
    | succ n ih =>
      intro v hl hv
      have hne : v ≠ [] := by intro e; subst e; simp at hl
      obtain ⟨u, a, rfl⟩ : ∃ u a, v = u ++ [a] := ⟨v.dropLast, v.getLast hne, (List.dropLast_concat_getLast hne).symm⟩
      have hu : Word d.L u := fun b hb => hv b (List.mem_append_left _ hb)
      have ha := hv a (List.mem_append_right _ (List.mem_singleton.2 rfl))
      obtain ⟨w, hw1, hw2⟩ := ih u (by simpa using hl) hu
      obtain ⟨k, hk, hk2⟩ := List.getElem_of_mem hw1
      obtain ⟨b, rfl⟩ := Int.eq_ofNat_of_zero_le ha.1
      obtain ⟨z, hz1, hz2⟩ := h.done k _ (by rw [List.getElem?_eq_getElem hk, hk2]) b ha.2 (.inl (by omega))
      refine ⟨z, ?_, ahead_trans hz2 (ahead_snoc hw2 _)⟩
      rw [runA_append]; exact hz1
  exact key _ v rfl hv
/-- The first of them that is final has the first word. -/
theorem Srch.first {d : Aut} (g : Df.Good d) {s : Nat} (hs : s < d.next.length) {l : List Fd} {i : Nat} (h : Srch d s l i 0) (hi : l.length ≤ i) {k : Nat} {x : Fd} (hk : l[k]? = some x) (hf : finA d x.1 = true) (hn : ∀ j y, j < k → l[j]? = some y → finA d y.1 = false) :
    firstW d s = some x.2 := by
  obtain ⟨hw, hr⟩ := h.ok x (List.mem_of_getElem? hk)
  refine firstW_unique g hs hw (by rw [hr]; exact hf) (fun v hv hfv => ?_)
  obtain ⟨w, hw1, hw2⟩ := h.all hi hv
  obtain ⟨j, hj, hj2⟩ := List.getElem_of_mem hw1
  have hj3 : l[j]? = some (runA d s v, w) := by rw [List.getElem?_eq_getElem hj, hj2]
  have hkj : k ≤ j := by
    rcases Nat.lt_or_ge j k with hlt | hge
    · rw [hn j _ hlt hj3] at hfv; cases hfv
    · exact hge
  obtain ⟨hkl, hkx⟩ := List.getElem?_eq_some_iff.1 hk
  have hxw : ahead x.2 w := by
    rcases Nat.lt_or_ge k j with hlt | hge
    · have := (List.pairwise_iff_getElem.1 h.sort) k j hkl hj hlt
      rw [hkx, hj2] at this
      exact ahead_of this
    · obtain rfl : k = j := by omega
      rw [hk] at hj3
      obtain rfl := Option.some.inj hj3
      exact ahead_refl _
  exact ahead_trans hxw hw2
theorem Srch.none {d : Aut} (g : Df.Good d) {s : Nat} (hs : s < d.next.length) {l : List Fd} {i : Nat} (h : Srch d s l i 0) (hi : l.length ≤ i) (hn : ∀ x ∈ l, finA d x.1 = false) : firstW d s = none := by
  refine firstW_is_none g hs (fun v hv => ?_)
  obtain ⟨w, hw1, _⟩ := h.all hi hv
  exact hn _ hw1
/-- Midway, with the states as they are found. -/
structure Hunt (d : Aut) (s : Nat) (l : List Fd) (i : Nat) : Prop where
  part : Part (S1 d) s i (l.map (·.1))
  srch : Srch d s l i 0
theorem hunt_start (d : Aut) (s : Nat) : Hunt d s [(s, [])] 0 := ⟨part_zero (S1 d) s, srch_start d s⟩
theorem srch_letters {d : Aut} {s : Nat} {l : List Fd} {i : Nat} (h : Srch d s l i 0) {x : Fd} (hx : l[i]? = some x) {c : Nat} (hc : (c : Int) ≤ d.L) : Srch d s (addTo' d l x c) i c := by
  induction c with
  | zero => exact h
  | succ c ih =>
    have h2 := ih (by omega)
    obtain ⟨m, hm⟩ := addTo'_prefix d l x c
    have hx2 : (addTo' d l x c)[i]? = some x := by
      rw [hm, List.getElem?_append_left (List.getElem?_eq_some_iff.1 hx).1]; exact hx
    exact h2.step hx2 (by omega)
theorem Hunt.next {d : Aut} (g : Df.Good d) {s : Nat} (hs : s < d.next.length) {l : List Fd} {i : Nat} (h : Hunt d s l i) {x : Fd} (hx : l[i]? = some x) : Hunt d s (addTo' d l x d.L.toNat) (i + 1) := by
  have hx1 : (l.map (·.1))[i]? = some x.1 := by rw [List.getElem?_map, hx]; rfl
  obtain ⟨h1, h2⟩ := h.part.step hx1
  have hall := addTo'_all d l x g.l1
  have hn : ¬ 40 < (addAll (l.map (·.1)) (S1 d x.1)).length := by
    have hnd : (addAll (l.map (·.1)) (S1 d x.1)).Nodup := nodup_addAll h.part.nd _
    have := nodup_le _ _ hnd (fun t ht => by
      rcases mem_addAll.1 ht with ht | ht
      · exact rch_lt1 g hs (h.part.rch t ht)
      · exact S1_lt g (rch_lt1 g hs (h.part.rch _ (List.mem_of_getElem? hx1))) ht)
    have := g.n40
    omega
  have h3 := h2 hn
  rw [← hall] at h3
  refine ⟨h3, (srch_letters h.srch hx (c := d.L.toNat) (by have := g.l1; omega)).row ?_ (by omega)⟩
  obtain ⟨m, hm⟩ := addTo'_prefix d l x d.L.toNat
  have := (List.getElem?_eq_some_iff.1 hx).1
  rw [hm, List.length_append]; omega
theorem Hunt.lt {d : Aut} (g : Df.Good d) {s : Nat} (hs : s < d.next.length) {l : List Fd} {i : Nat} (h : Hunt d s l i) {x : Fd} (hx : x ∈ l) : x.1 < d.next.length :=
  rch_lt1 g hs (h.part.rch _ (List.mem_map.2 ⟨x, hx, rfl⟩))
theorem Hunt.rset {d : Aut} {s : Nat} {l : List Fd} {i : Nat} (h : Hunt d s l i) (hi : l.length ≤ i) : rset d s = l.map (·.1) := by
  unfold Rc.rset
  rw [h.part.stop (by simpa using hi)]; rfl
/-- A word that is found has no more letters than there are steps. -/
theorem hunt_words {d : Aut} {s : Nat} {l : List Fd} {i : Nat} (h : Srch d s l i 0) : ∀ x ∈ l, Word d.L x.2 := fun x hx => (h.ok x hx).1
/-- The whole search. -/
structure Whole1 (d : Aut) (s : Nat) (l : List Fd) : Prop where
  hunt : Hunt d s l l.length
end Go.Proofs.YtbciefeipiphiaaDoor.Rc
