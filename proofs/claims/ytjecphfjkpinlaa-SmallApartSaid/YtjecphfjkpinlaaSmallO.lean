/- Plain mathematics of small: there is one smallest automaton only; its states are reached and told apart; the first word that tells two automata apart. -/
import Derived.Test.YtjecphfjkpinlaaSmallN
namespace Go.Proofs.Ytjecphfjkpinlaa.Sm
open Go.Proofs.Ytjecphfjkpinlaa.Df Go.Proofs.Ytjecphfjkpinlaa.Wo Go.Proofs.Ytjecphfjkpinlaa.Rc

/-! ### what is found is found alike under another name -/
theorem num_map {α β : Type} [DecidableEq α] [DecidableEq β] {l : List α} {φ : α → β} (hi : ∀ x ∈ l, ∀ y ∈ l, φ x = φ y → x = y) {t : α} (ht : t ∈ l) : num (l.map φ) (φ t) = num l t := by
  induction l with
  | nil => cases ht
  | cons a l ih =>
    unfold num at *
    rw [List.map_cons, List.idxOf_cons, List.idxOf_cons]
    by_cases e : a = t
    · subst e; simp
    · have hne : φ a ≠ φ t := fun h => e (hi a List.mem_cons_self t ht h)
      have ht' : t ∈ l := by
        rcases List.mem_cons.1 ht with h | h
        · exact absurd h.symm e
        · exact h
      have := ih (fun x hx y hy => hi x (List.mem_cons_of_mem _ hx) y (List.mem_cons_of_mem _ hy)) ht'
      rw [this, beq_eq_false_iff_ne.2 hne, beq_eq_false_iff_ne.2 e]
theorem expl_as {α β : Type} [DecidableEq α] [DecidableEq β] {S : α → List α} {T : β → List β} {l : List α} {φ : α → β} (hc : ∀ x ∈ l, ∀ t ∈ S x, t ∈ l) (hi : ∀ x ∈ l, ∀ y ∈ l, φ x = φ y → x = y) (hT : ∀ x ∈ l, T (φ x) = (S x).map φ) :
    ∀ (n i : Nat) (k : List α), expl S n i k = some l → (∀ x ∈ k, x ∈ l) → expl T n i (k.map φ) = some (l.map φ) := by
  intro n
  induction n with
  | zero =>
    intro i k e _
    rw [expl] at e ⊢
    obtain rfl := Option.some.inj e
    rfl
  | succ n ih =>
    intro i k e hk
    rcases hx : k[i]? with _ | x
    · rw [expl, hx] at e
      rw [expl, List.getElem?_map, hx]
      obtain rfl := Option.some.inj e
      rfl
    · have hm := hk x (List.mem_of_getElem? hx)
      rw [expl, hx] at e
      rw [expl, List.getElem?_map, hx]
      simp only [Option.map_some] at e ⊢
      rw [hT x hm, addAll_map hi hk (hc x hm), List.length_map]
      by_cases hl : 40 < (addAll k (S x)).length
      · rw [if_pos hl] at e; cases e
      · rw [if_neg hl] at e ⊢
        refine ih _ _ e (fun y hy => ?_)
        rcases mem_addAll.1 hy with hy | hy
        · exact hk y hy
        · exact hc x hm y hy
theorem trim_as {a b : Aut} (ga : Df.Good a) (hL : a.L = b.L) {φ : Nat → Nat} (hs : φ a.s.toNat = b.s.toNat) (hi : ∀ x ∈ rset a a.s.toNat, ∀ y ∈ rset a a.s.toNat, φ x = φ y → x = y)
    (hT : ∀ x ∈ rset a a.s.toNat, S1 b (φ x) = (S1 a x).map φ) (hf : ∀ x ∈ rset a a.s.toNat, finA b (φ x) = finA a x) : trimA b = trimA a := by
  have hw := rset_whole ga ga.s_lt
  obtain ⟨l, hl⟩ := found1 ga ga.s_lt
  have hr : rset a a.s.toNat = l := by unfold rset; rw [hl]; rfl
  rw [hr] at hw hi hT hf
  have hb : rset b b.s.toNat = l.map φ := by
    have h1 := expl_as hw.closed hi hT 41 0 [a.s.toNat] hl (fun x hx => by simp at hx; subst hx; exact List.mem_of_getElem? hw.hd)
    rw [List.map_singleton, hs] at h1
    have h2 : found (S1 b) b.s.toNat = some (l.map φ) := h1
    unfold rset; rw [h2]; rfl
  unfold trimA
  rw [hb, hr]
  unfold autOf
  rw [List.map_map, List.map_map, ← hL]
  congr 1
  · refine List.map_congr_left fun x hx => ?_
    show srow (S1 b) (l.map φ) (φ x) = srow (S1 a) l x
    unfold srow
    rw [hT x hx, List.map_map]
    refine List.map_congr_left fun t ht => ?_
    show ((num (l.map φ) (φ t) : Nat) : Int) = _
    rw [num_map hi (hw.closed x hx t ht)]
  · exact List.map_congr_left fun x hx => hf x hx

/-! ### Myhill, Nerode -/
/-- What is reached in the one by a word is alike to what the same word leads to. -/
theorem quo_reached {d : Aut} (g : Df.Good d) {x : Nat} (h : x ∈ rset (quo d) (quo d).s.toNat) : x < d.next.length ∧ kin d d x = x ∧ ∃ w, Word d.L w ∧ Alike d d x (runA d d.s.toNat w) := by
  have gq := quo_good g
  have hlt : x < d.next.length := by
    have := rset_lt gq gq.s_lt h
    rw [quo_len] at this; exact this
  have hr := (mem_rset gq gq.s_lt).1 h
  refine ⟨hlt, ?_, ?_⟩
  · cases hr with
    | base => exact stand_stand g g.s_lt
    | @next z _ hz ht =>
      obtain ⟨c, hc, e⟩ := mem_S1.1 ht
      have hzl := rch_lt1 gq gq.s_lt hz
      rw [quo_len] at hzl
      have hc' : (c : Int) < d.L := hc
      rw [← e, quo_step hzl hc']
      exact stand_stand g (g.step_lt hzl hc')
  · obtain ⟨w, hw, e⟩ := rch_word.1 hr
    have hw' : Word d.L w := hw
    refine ⟨w, hw', ?_⟩
    have h0 : (quo d).s.toNat < d.next.length := by have := gq.s_lt; rw [quo_len] at this; exact this
    have h1 : Alike (quo d) d (quo d).s.toNat d.s.toNat := by
      obtain ⟨_, h2, h3⟩ := stand_spec g g.s_lt
      exact (quo_alike g h0).trans (h3.symm rfl) rfl
    have h2 := h1.run (v := w) hw
    rw [e] at h2
    exact ((quo_alike g hlt).symm rfl).trans h2 rfl
theorem quo_S1 {d : Aut} (g : Df.Good d) {x : Nat} (hx : x < d.next.length) : S1 (quo d) x = (S1 d x).map (kin d d) := by
  unfold S1
  rw [List.map_map]
  refine List.map_congr_left fun c hc => ?_
  have h1 := g.l1
  have hc' : c < d.L.toNat := List.mem_range.1 hc
  exact quo_step hx (by omega)
/-- Two that accept the same have the same smallest one. -/
theorem min_unique {a b : Aut} (g : Good2 a b) (h : ∀ w, Word a.L w → accA a w = accA b w) : minA b = minA a := by
  have gab := g
  have ga := g.ga
  have gb := g.gb
  have hs : Alike a b a.s.toNat b.s.toNat := h
  have gaa : Good2 a a := Good2.self ga
  have gbb : Good2 b b := Good2.self gb
  have gqa := quo_good ga
  -- each one that is reached has a partner
  have hp : ∀ x, x ∈ rset (quo a) (quo a).s.toNat → x < a.next.length ∧ kin a a x = x ∧ kin a b x < b.next.length ∧ Alike a b x (kin a b x) := fun x hx => by
    obtain ⟨h1, h2, w, hw, h3⟩ := quo_reached ga hx
    have h4 : Alike a b x (runA b b.s.toNat w) := h3.trans (hs.run hw) rfl
    have h5 : runA b b.s.toNat w < b.next.length := gb.run_lt (by rw [← g.eL]; exact hw) gb.s_lt
    obtain ⟨_, p1, p2, _⟩ := kin_spec g h1 h5 h4
    exact ⟨h1, h2, p1, p2⟩
  unfold minA
  refine trim_as (a := quo a) (b := quo b) (φ := kin a b) gqa g.eL ?_ ?_ ?_ ?_
  · show kin a b (kin a a a.s.toNat) = kin b b b.s.toNat
    obtain ⟨_, h2, h3⟩ := stand_spec ga ga.s_lt
    have := kin_congr g gbb h2 gb.s_lt gb.s_lt ((h3.symm rfl).trans hs rfl) ((h3.symm rfl).trans hs rfl)
    exact this
  · intro x hx y hy e
    obtain ⟨x1, x2, x3, x4⟩ := hp x hx
    obtain ⟨y1, y2, y3, y4⟩ := hp y hy
    have hxy : Alike a a x y := x4.trans (by rw [e]; exact y4.symm g.eL) g.eL
    have := kin_congr gaa gaa x1 y1 x1 (Alike.refl a x) hxy
    rw [x2, y2] at this
    exact this
  · intro x hx
    obtain ⟨x1, x2, x3, x4⟩ := hp x hx
    rw [quo_S1 gb x3, quo_S1 ga x1, List.map_map]
    unfold S1
    rw [List.map_map, List.map_map, ← g.eL]
    refine List.map_congr_left fun c hc => ?_
    have h1 := ga.l1
    have hc' : c < a.L.toNat := List.mem_range.1 hc
    have hcL : (c : Int) < a.L := by omega
    have hcb : (c : Int) < b.L := by rw [← g.eL]; exact hcL
    show kin b b (step b (kin a b x) c) = kin a b (kin a a (step a x c))
    have k1 := ga.step_lt x1 hcL
    have k2 := gb.step_lt x3 hcb
    have k3 : Alike a b (step a x c) (step b (kin a b x) c) := x4.step hcL
    obtain ⟨_, p2, p3⟩ := stand_spec ga k1
    have k4 : Alike a b (kin a a (step a x c)) (step b (kin a b x) c) := (p3.symm rfl).trans k3 rfl
    exact (kin_congr g gbb p2 k2 k2 k4 k4).symm
  · intro x hx
    obtain ⟨x1, x2, x3, x4⟩ := hp x hx
    show finA b (kin a b x) = finA a x
    exact (x4 [] (fun e he => by simp at he)).symm
/-- Two accept the same just if they have the same smallest one. -/
theorem min_iff {a b : Aut} (g : Good2 a b) : minA a = minA b ↔ ∀ w, Word a.L w → accA a w = accA b w := by
  constructor
  · intro h w hw
    rw [← min_acc g.ga hw, h, min_acc g.gb (by rw [← g.eL]; exact hw)]
  · intro h
    exact (min_unique g h).symm
theorem min_min {d : Aut} (g : Df.Good d) : minA (minA d) = minA d :=
  min_unique (a := d) (b := minA d) ⟨g, min_good g, rfl⟩ fun _ hw => (min_acc g hw).symm
theorem min_reached {d : Aut} (g : Df.Good d) : (upto (minA d).next.length (isReached (minA d) 0)).length = (minA d).next.length := trim_reached (quo_good g)
/-- No two states of the smallest one are alike. -/
theorem min_apart {d : Aut} (g : Df.Good d) {i j : Nat} (hi : i < (minA d).next.length) (hj : j < (minA d).next.length) (h : Alike (minA d) (minA d) i j) : i = j := by
  have gq := quo_good g
  have hw := rset_whole gq gq.s_lt
  have hn : (minA d).next.length = (rset (quo d) (quo d).s.toNat).length := by unfold minA trimA autOf; simp
  rw [hn] at hi hj
  have key : ∀ i (hi : i < (rset (quo d) (quo d).s.toNat).length), Alike (minA d) d i ((rset (quo d) (quo d).s.toNat)[i]) := by
    intro i hi w hwd
    have hwd' : Word (quo d).L w := hwd
    have hm := List.getElem_mem hi
    have hnum : num (rset (quo d) (quo d).s.toNat) ((rset (quo d) (quo d).s.toNat)[i]) = i := idx_of hw.nd (List.getElem?_eq_getElem hi)
    obtain ⟨p1, p2⟩ := autOf_run (f := finA (quo d)) hw (fun x _ => S1_len gq x) hwd' hm
    rw [hnum, viaAll1 hwd'] at p2
    rw [viaAll1 hwd'] at p1
    have e : runA (minA d) i w = num (rset (quo d) (quo d).s.toNat) (runA (quo d) ((rset (quo d) (quo d).s.toNat)[i]) w) := p2
    obtain ⟨q1, _, _⟩ := quo_reached g hm
    have q2 := quo_alike g q1 w hwd'
    rw [← q2, e]
    show ((rset (quo d) (quo d).s.toNat).map (finA (quo d)))[num (rset (quo d) (quo d).s.toNat) (runA (quo d) ((rset (quo d) (quo d).s.toNat)[i]) w)]?.getD false = _
    rw [List.getElem?_map, idx_get p1]; rfl
  have hk := ((key i hi).symm rfl).trans (h.trans (key j hj) rfl) rfl
  obtain ⟨x1, x2, _⟩ := quo_reached g (List.getElem_mem hi)
  obtain ⟨y1, y2, _⟩ := quo_reached g (List.getElem_mem hj)
  have := kin_congr (Good2.self g) (Good2.self g) x1 y1 x1 (Alike.refl d _) hk
  rw [x2, y2] at this
  exact (List.getElem_inj hw.nd).1 this
end Go.Proofs.Ytjecphfjkpinlaa.Sm
