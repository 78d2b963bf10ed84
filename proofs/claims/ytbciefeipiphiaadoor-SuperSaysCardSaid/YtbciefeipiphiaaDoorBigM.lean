/- Automata of at most 41 states: what is known of automata of at most 40 once more (the document's answer has one state for all pairs that are not in, besides up to 40). Written by tools/big.py out of the elder texts. -/
import Derived.Test.YtbciefeipiphiaaDoorRefMin

namespace Go.Proofs.YtbciefeipiphiaaDoor.Df
structure GoodB (d : Aut) : Prop where
  l1 : 1 ≤ d.L
  l6 : d.L ≤ 6
  n1 : 1 ≤ d.next.length
  n40 : d.next.length ≤ 41
  fin : d.fin.length = d.next.length
  row : ∀ r ∈ d.next, (r.length : Int) = d.L
  st : isSt d d.s
  go : ∀ r ∈ d.next, ∀ x ∈ r, isSt d x
end Go.Proofs.YtbciefeipiphiaaDoor.Df

namespace Go.Proofs.YtbciefeipiphiaaDoor.Df
/-- The row of a state, and what it says of a letter. -/
theorem GoodB.at_ {d : Aut} (g : GoodB d) {q a : Nat} (hq : q < d.next.length) (ha : (a : Int) < d.L) :
    ∃ r, d.next[q]? = some r ∧ r ∈ d.next ∧ (r.length : Int) = d.L ∧ r[a]? = some ((Df.step d q a : Nat) : Int) ∧ Df.step d q a < d.next.length := by
  have hm := List.getElem_mem (l := d.next) hq
  have hl := g.row _ hm
  have ha' : a < (d.next[q]).length := by omega
  have hx := g.go _ hm _ (List.getElem_mem ha')
  have e : Df.step d q a = ((d.next[q])[a]).toNat := by
    unfold step
    rw [List.getElem?_eq_getElem hq, Option.getD_some, List.getElem?_eq_getElem ha', Option.getD_some]
  refine ⟨d.next[q], List.getElem?_eq_getElem hq, hm, hl, ?_, ?_⟩
  · rw [List.getElem?_eq_getElem ha', e]
    have := hx.1
    congr 1
    omega
  · rw [e]; have := hx.1; have := hx.2; omega
end Go.Proofs.YtbciefeipiphiaaDoor.Df

namespace Go.Proofs.YtbciefeipiphiaaDoor.Df
theorem GoodB.step_lt {d : Aut} (g : GoodB d) {q a : Nat} (hq : q < d.next.length) (ha : (a : Int) < d.L) : Df.step d q a < d.next.length := by
  obtain ⟨_, _, _, _, _, h⟩ := g.at_ hq ha; exact h
end Go.Proofs.YtbciefeipiphiaaDoor.Df

namespace Go.Proofs.YtbciefeipiphiaaDoor.Df
theorem GoodB.s_lt {d : Aut} (g : GoodB d) : d.s.toNat < d.next.length := by have := g.st.1; have := g.st.2; omega
end Go.Proofs.YtbciefeipiphiaaDoor.Df

namespace Go.Proofs.YtbciefeipiphiaaDoor.Df
theorem GoodB.fin_at {d : Aut} (g : GoodB d) {q : Nat} (hq : q < d.next.length) : d.fin[q]? = some (finA d q) := by
  unfold finA
  rw [List.getElem?_eq_getElem (by rw [g.fin]; exact hq)]; rfl
end Go.Proofs.YtbciefeipiphiaaDoor.Df

namespace Go.Proofs.YtbciefeipiphiaaDoor.Df
theorem GoodB.run_lt {d : Aut} (g : GoodB d) {w : List Int} (hw : Word d.L w) {q : Nat} (hq : q < d.next.length) : runA d q w < d.next.length := by
  induction w generalizing q with
  | nil => exact hq
  | cons a w ih =>
    have h := hw a (List.mem_cons_self)
    exact ih (fun b hb => hw b (List.mem_cons_of_mem _ hb)) (g.step_lt hq (by omega))
end Go.Proofs.YtbciefeipiphiaaDoor.Df

namespace Go.Proofs.YtbciefeipiphiaaDoor.Df
section
variable {α : Type} [DecidableEq α]
structure Good2B (a b : Aut) : Prop where
  ga : GoodB a
  gb : GoodB b
  eL : a.L = b.L
end
end Go.Proofs.YtbciefeipiphiaaDoor.Df

namespace Go.Proofs.YtbciefeipiphiaaDoor.Rc
open Go.Proofs.YtbciefeipiphiaaDoor.Df Go.Proofs.YtbciefeipiphiaaDoor.Wo
theorem S1_ltB {d : Aut} (g : Df.GoodB d) {q t : Nat} (hq : q < d.next.length) (h : t ∈ S1 d q) : t < d.next.length := by
  obtain ⟨c, hc, rfl⟩ := mem_S1.1 h
  exact g.step_lt hq hc
end Go.Proofs.YtbciefeipiphiaaDoor.Rc

namespace Go.Proofs.YtbciefeipiphiaaDoor.Rc
open Go.Proofs.YtbciefeipiphiaaDoor.Df Go.Proofs.YtbciefeipiphiaaDoor.Wo
theorem rch_lt1B {d : Aut} (g : Df.GoodB d) {s t : Nat} (hs : s < d.next.length) (h : Rch (S1 d) s t) : t < d.next.length := by
  induction h with
  | base => exact hs
  | next _ ht ih => exact S1_ltB g ih ht
end Go.Proofs.YtbciefeipiphiaaDoor.Rc

namespace Go.Proofs.YtbciefeipiphiaaDoor.Rc
open Go.Proofs.YtbciefeipiphiaaDoor.Df Go.Proofs.YtbciefeipiphiaaDoor.Wo
/-- The shortest one is shorter than there are states. -/
theorem shortB {d : Aut} (g : Df.GoodB d) {s k : Nat} (hs : s < d.next.length) (h : inK d k s = true) (hmin : ∀ j, j < k → inK d j s = false) : k < d.next.length := by
  obtain ⟨w, hw, hl, hf⟩ := inK_iff.1 h
  have hn : ((List.range (k + 1)).map fun i => runA d s (w.take i)).Nodup := by
    refine nodup_map List.nodup_range _ (fun i hi j hj e => ?_)
    rw [List.mem_range] at hi hj
    have key : ∀ i j : Nat, i < j → j < k + 1 → runA d s (w.take i) = runA d s (w.take j) → False := by
      intro i j hij hj e
      have hf2 : finA d (runA d s (w.take i ++ w.drop j)) = true := by
        rw [runA_append, e, ← runA_append, List.take_append_drop]; exact hf
      have h1 := hmin (w.take i ++ w.drop j).length (by rw [List.length_append, List.length_take, List.length_drop]; omega)
      rw [inK_iff.2 ⟨_, fun a ha => ?_, rfl, hf2⟩] at h1
      · cases h1
      · rcases List.mem_append.1 ha with ha | ha
        · exact hw a (List.mem_of_mem_take ha)
        · exact hw a (List.mem_of_mem_drop ha)
    rcases Nat.lt_trichotomy i j with hlt | he | hlt
    · exact (key i j hlt hj e).elim
    · exact he
    · exact (key j i hlt hi e.symm).elim
  have := nodup_le _ _ hn (fun x hx => by
    obtain ⟨i, _, rfl⟩ := List.mem_map.1 hx
    exact g.run_lt (fun a ha => hw a (List.mem_of_mem_take ha)) hs)
  rw [List.length_map, List.length_range] at this
  omega
end Go.Proofs.YtbciefeipiphiaaDoor.Rc

namespace Go.Proofs.YtbciefeipiphiaaDoor.Rc
open Go.Proofs.YtbciefeipiphiaaDoor.Df Go.Proofs.YtbciefeipiphiaaDoor.Wo
theorem S1_lenB {d : Aut} (g : Df.GoodB d) (q : Nat) : ((S1 d q).length : Int) = d.L := by rw [S1_length]; have := g.l1; omega
end Go.Proofs.YtbciefeipiphiaaDoor.Rc

namespace Go.Proofs.YtbciefeipiphiaaDoor.Sm
open Go.Proofs.YtbciefeipiphiaaDoor.Df Go.Proofs.YtbciefeipiphiaaDoor.Wo Go.Proofs.YtbciefeipiphiaaDoor.Rc
theorem ap2_unionB {a b : Aut} (g : Good2B a b) {k x y : Nat} (hx : x < a.next.length) : ap2 a b k x y = apF a.L.toNat (sig a b) (phi a b) k x (a.next.length + y) := by
  have h1 := g.ga.l1
  induction k generalizing x y with
  | zero =>
    show (finA a x != finA b y) = (phi a b x != phi a b (a.next.length + y))
    rw [phi_l hx, phi_r]
  | succ k ih =>
    show ((List.range a.L.toNat).any fun c => ap2 a b k (Df.step a x c) (Df.step b y c)) = ((List.range a.L.toNat).any fun c => apF a.L.toNat (sig a b) (phi a b) k (sig a b x c) (sig a b (a.next.length + y) c))
    refine any_congr' fun c hc => ?_
    have hc' := List.mem_range.1 hc
    rw [sig_l hx, sig_r]
    exact ih (g.ga.step_lt hx (by omega))
end Go.Proofs.YtbciefeipiphiaaDoor.Sm

namespace Go.Proofs.YtbciefeipiphiaaDoor.Sm
open Go.Proofs.YtbciefeipiphiaaDoor.Df Go.Proofs.YtbciefeipiphiaaDoor.Wo Go.Proofs.YtbciefeipiphiaaDoor.Rc
/-- Two states of two automata that are told apart at all are told apart by a shortB word. -/
theorem short2B {a b : Aut} (g : Good2B a b) {k x y : Nat} (hx : x < a.next.length) (hy : y < b.next.length) (h : ap2 a b k x y = true) :
    ∃ m, m ≤ k ∧ m + 2 ≤ a.next.length + b.next.length ∧ (∀ j, j < m → ap2 a b j x y = false) ∧ ap2 a b m x y = true := by
  rw [ap2_unionB g hx] at h
  have h1 := g.ga.l1
  have he := g.eL
  obtain ⟨m, h1, h2, h3, h4⟩ := apart_short (N := a.next.length + b.next.length) (fun z c hz hc => by
    unfold sig
    split
    · rename_i h; have := g.ga.step_lt h (a := c) (by omega); omega
    · have := g.gb.step_lt (q := z - a.next.length) (a := c) (by omega) (by omega); omega) (by omega) (by omega) h
  refine ⟨m, h1, h2, fun j hj => ?_, by rw [ap2_unionB g hx]; exact h4⟩
  rw [ap2_unionB g hx]
  exact relF_iff.1 h3 j hj
end Go.Proofs.YtbciefeipiphiaaDoor.Sm

namespace Go.Proofs.YtbciefeipiphiaaDoor.Sm
open Go.Proofs.YtbciefeipiphiaaDoor.Df Go.Proofs.YtbciefeipiphiaaDoor.Wo Go.Proofs.YtbciefeipiphiaaDoor.Rc
theorem same_iffB {a b : Aut} (g : Good2B a b) {x y : Nat} (hx : x < a.next.length) (hy : y < b.next.length) : sameB a b x y = true ↔ Alike a b x y := by
  unfold sameB
  rw [List.all_eq_true]
  constructor
  · intro h w hw
    rcases Decidable.em (finA a (runA a x w) = finA b (runA b y w)) with e | e
    · exact e
    · obtain ⟨m, _, h2, _, h4⟩ := short2B g hx hy (ap2_iff.2 ⟨w, hw, rfl, e⟩)
      have := h m (List.mem_range.2 (by omega))
      rw [h4] at this; cases this
  · intro h k _
    rw [ap2_false.2 fun w hw _ => h w hw]; rfl
end Go.Proofs.YtbciefeipiphiaaDoor.Sm

namespace Go.Proofs.YtbciefeipiphiaaDoor.Sm
open Go.Proofs.YtbciefeipiphiaaDoor.Df Go.Proofs.YtbciefeipiphiaaDoor.Wo Go.Proofs.YtbciefeipiphiaaDoor.Rc
theorem kin_specB {a b : Aut} (g : Good2B a b) {x y : Nat} (hx : x < a.next.length) (hy : y < b.next.length) (h : Alike a b x y) :
    kin a b x ≤ y ∧ kin a b x < b.next.length ∧ Alike a b x (kin a b x) ∧ ∀ j, j < kin a b x → ¬ Alike a b x j := by
  rcases e : least b.next.length (sameB a b x) with _ | k
  · have := least_none e hy
    rw [(same_iffB g hx hy).2 h] at this; cases this
  · obtain ⟨h1, h2, h3⟩ := least_some e
    have hk : kin a b x = k := by unfold kin; rw [e]; rfl
    rw [hk]
    have h4 : ∀ j, j < k → ¬ Alike a b x j := fun j hj ha => by
      have := h3 j hj
      rw [(same_iffB g hx (by omega)).2 ha] at this; cases this
    refine ⟨?_, h1, (same_iffB g hx h1).1 h2, h4⟩
    rcases Nat.lt_or_ge y k with hlt | hge
    · exact absurd h (h4 y hlt)
    · exact hge
end Go.Proofs.YtbciefeipiphiaaDoor.Sm

namespace Go.Proofs.YtbciefeipiphiaaDoor.Sm
open Go.Proofs.YtbciefeipiphiaaDoor.Df Go.Proofs.YtbciefeipiphiaaDoor.Wo Go.Proofs.YtbciefeipiphiaaDoor.Rc
theorem Good2B.self {d : Aut} (g : Df.GoodB d) : Good2B d d := ⟨g, g, rfl⟩
end Go.Proofs.YtbciefeipiphiaaDoor.Sm

namespace Go.Proofs.YtbciefeipiphiaaDoor.Sm
open Go.Proofs.YtbciefeipiphiaaDoor.Df Go.Proofs.YtbciefeipiphiaaDoor.Wo Go.Proofs.YtbciefeipiphiaaDoor.Rc
theorem stand_specB {d : Aut} (g : Df.GoodB d) {x : Nat} (hx : x < d.next.length) : kin d d x ≤ x ∧ kin d d x < d.next.length ∧ Alike d d x (kin d d x) := by
  obtain ⟨h1, h2, h3, _⟩ := kin_specB (Good2B.self g) hx hx (Alike.refl d x)
  exact ⟨h1, h2, h3⟩
end Go.Proofs.YtbciefeipiphiaaDoor.Sm

namespace Go.Proofs.YtbciefeipiphiaaDoor.Sm
open Go.Proofs.YtbciefeipiphiaaDoor.Df Go.Proofs.YtbciefeipiphiaaDoor.Wo Go.Proofs.YtbciefeipiphiaaDoor.Rc
theorem quo_goodB {d : Aut} (g : Df.GoodB d) : Df.GoodB (quo d) := by
  refine ⟨g.l1, g.l6, ?_, ?_, ?_, ?_, ?_, ?_⟩
  · rw [quo_len]; exact g.n1
  · rw [quo_len]; exact g.n40
  · rw [quo_len]; exact g.fin
  · intro r hr
    obtain ⟨q, _, rfl⟩ := List.mem_map.1 hr
    rw [List.length_map]
    exact S1_lenB g q
  · have := (stand_specB g g.s_lt).2.1
    refine ⟨?_, ?_⟩
    · show (0 : Int) ≤ ((kin d d d.s.toNat : Nat) : Int); omega
    · rw [quo_len]; show ((kin d d d.s.toNat : Nat) : Int) < _; omega
  · intro r hr x hx
    obtain ⟨q, hq, rfl⟩ := List.mem_map.1 hr
    obtain ⟨t, ht, rfl⟩ := List.mem_map.1 hx
    have := (stand_specB g (S1_ltB g (List.mem_range.1 hq) ht)).2.1
    refine ⟨by omega, ?_⟩
    rw [quo_len]; omega
end Go.Proofs.YtbciefeipiphiaaDoor.Sm

namespace Go.Proofs.YtbciefeipiphiaaDoor.Sm
open Go.Proofs.YtbciefeipiphiaaDoor.Df Go.Proofs.YtbciefeipiphiaaDoor.Wo Go.Proofs.YtbciefeipiphiaaDoor.Rc
theorem diffW_noneB {a b : Aut} (g : Good2B a b) {x y : Nat} (hx : x < a.next.length) (hy : y < b.next.length) : diffW a b x y = none ↔ Alike a b x y := by
  constructor
  · intro h
    have hn : least (a.next.length + b.next.length) (fun k => ap2 a b k x y) = none := by
      unfold diffW at h
      simpa using h
    refine (same_iffB g hx hy).1 ?_
    unfold sameB
    rw [List.all_eq_true]
    intro k hk
    have hz : ap2 a b k x y = false := least_none hn (List.mem_range.1 hk)
    rw [hz]; rfl
  · intro h
    rcases hd : diffW a b x y with _ | w
    · rfl
    · unfold diffW at hd
      obtain ⟨k, hk, _⟩ := Option.map_eq_some_iff.1 hd
      obtain ⟨_, h2, _⟩ := least_some hk
      rw [ap2_false.2 fun w hw _ => h w hw] at h2; cases h2
end Go.Proofs.YtbciefeipiphiaaDoor.Sm

namespace Go.Proofs.YtbciefeipiphiaaDoor.Sm
open Go.Proofs.YtbciefeipiphiaaDoor.Df Go.Proofs.YtbciefeipiphiaaDoor.Wo Go.Proofs.YtbciefeipiphiaaDoor.Rc
theorem lev_eqB {a b : Aut} (g : Good2B a b) {x y k : Nat} (hx : x < a.next.length) (hy : y < b.next.length) : lev a b x y = (k : Int) ↔ ap2 a b k x y = true ∧ ∀ j, j < k → ap2 a b j x y = false := by
  constructor
  · intro h
    unfold lev at h
    rcases e : least (a.next.length + b.next.length) (fun k => ap2 a b k x y) with _ | m
    · rw [e] at h; have h : (-1 : Int) = (k : Int) := h; omega
    · rw [e] at h
      have h : ((m : Nat) : Int) = (k : Int) := h
      obtain rfl : m = k := by omega
      obtain ⟨_, h2, h3⟩ := least_some e
      exact ⟨h2, h3⟩
  · rintro ⟨h1, h2⟩
    obtain ⟨m, q1, q2, _, q4⟩ := short2B g hx hy h1
    have hmk : m = k := by
      rcases Nat.lt_or_eq_of_le q1 with hlt | e
      · rw [h2 m hlt] at q4; cases q4
      · exact e
    subst hmk
    have e : least (a.next.length + b.next.length) (fun k => ap2 a b k x y) = some m := least_is (by omega) h1 h2
    unfold lev; rw [e]
end Go.Proofs.YtbciefeipiphiaaDoor.Sm

namespace Go.Proofs.YtbciefeipiphiaaDoor.Sm
open Go.Proofs.YtbciefeipiphiaaDoor.Df Go.Proofs.YtbciefeipiphiaaDoor.Wo Go.Proofs.YtbciefeipiphiaaDoor.Rc
theorem lev_ltB {a b : Aut} (g : Good2B a b) {x y k : Nat} (hx : x < a.next.length) (hy : y < b.next.length) (h : lev a b x y = (k : Int)) : k + 2 ≤ a.next.length + b.next.length := by
  obtain ⟨h1, h2⟩ := (lev_eqB g hx hy).1 h
  obtain ⟨m, q1, q2, _, q4⟩ := short2B g hx hy h1
  rcases Nat.lt_or_eq_of_le q1 with hlt | e
  · rw [h2 m hlt] at q4; cases q4
  · omega
end Go.Proofs.YtbciefeipiphiaaDoor.Sm

namespace Go.Proofs.YtbciefeipiphiaaDoor.Sm
open Go.Proofs.YtbciefeipiphiaaDoor.Df Go.Proofs.YtbciefeipiphiaaDoor.Wo Go.Proofs.YtbciefeipiphiaaDoor.Rc
theorem lev_neverB {a b : Aut} (g : Good2B a b) {x y : Nat} (hx : x < a.next.length) (hy : y < b.next.length) : lev a b x y = -1 ↔ Alike a b x y := by
  rw [← diffW_noneB g hx hy]
  unfold lev diffW
  rcases least (a.next.length + b.next.length) (fun k => ap2 a b k x y) with _ | k
  · exact ⟨fun _ => rfl, fun _ => rfl⟩
  · constructor
    · intro h; have h : ((k : Nat) : Int) = -1 := h; omega
    · intro h; cases h
end Go.Proofs.YtbciefeipiphiaaDoor.Sm

namespace Go.Proofs.YtbciefeipiphiaaDoor.Sm
open Go.Proofs.YtbciefeipiphiaaDoor.Df Go.Proofs.YtbciefeipiphiaaDoor.Wo Go.Proofs.YtbciefeipiphiaaDoor.Rc
theorem lev_zeroB {a b : Aut} (g : Good2B a b) {x y : Nat} (hx : x < a.next.length) (hy : y < b.next.length) : lev a b x y = 0 ↔ finA a x ≠ finA b y := by
  have := lev_eqB g hx hy (k := 0)
  constructor
  · intro h; exact bne_iff_ne.1 ((this.1 h).1)
  · intro h; exact this.2 ⟨bne_iff_ne.2 h, fun j hj => by omega⟩
end Go.Proofs.YtbciefeipiphiaaDoor.Sm

namespace Go.Proofs.YtbciefeipiphiaaDoor.Sm
open Go.Proofs.YtbciefeipiphiaaDoor.Df Go.Proofs.YtbciefeipiphiaaDoor.Wo Go.Proofs.YtbciefeipiphiaaDoor.Rc
/-- One level higher: some letter leads to a pair of the level below, and the pair is of no lower level. -/
theorem lev_downB {a b : Aut} (g : Good2B a b) {x y k : Nat} (hx : x < a.next.length) (hy : y < b.next.length) (h : lev a b x y = ((k + 1 : Nat) : Int)) : ∃ c : Nat, (c : Int) < a.L ∧ lev a b (Df.step a x c) (Df.step b y c) = (k : Int) := by
  obtain ⟨h1, h2⟩ := (lev_eqB g hx hy).1 h
  have h1' : ((List.range a.L.toNat).any fun c => ap2 a b k (Df.step a x c) (Df.step b y c)) = true := h1
  obtain ⟨c, hc, hp⟩ := List.any_eq_true.1 h1'
  have hc' := List.mem_range.1 hc
  have hcL : (c : Int) < a.L := by omega
  refine ⟨c, hcL, (lev_eqB g (g.ga.step_lt hx hcL) (g.gb.step_lt hy (by rw [← g.eL]; exact hcL))).2 ⟨hp, fun j hj => ?_⟩⟩
  rcases e : ap2 a b j (Df.step a x c) (Df.step b y c) with _ | _
  · rfl
  · have : ap2 a b (j + 1) x y = true := List.any_eq_true.2 ⟨c, hc, e⟩
    rw [h2 (j + 1) (by omega)] at this; cases this
end Go.Proofs.YtbciefeipiphiaaDoor.Sm

namespace Go.Proofs.YtbciefeipiphiaaDoor.Sm
open Go.Proofs.YtbciefeipiphiaaDoor.Df Go.Proofs.YtbciefeipiphiaaDoor.Wo Go.Proofs.YtbciefeipiphiaaDoor.Rc
theorem lev_upB {a b : Aut} (g : Good2B a b) {x y k c : Nat} (hx : x < a.next.length) (hy : y < b.next.length) (hc : (c : Int) < a.L) (h : lev a b (Df.step a x c) (Df.step b y c) = (k : Int)) (hn : ∀ j : Nat, j ≤ k → lev a b x y ≠ (j : Int)) : lev a b x y = ((k + 1 : Nat) : Int) := by
  obtain ⟨h1, _⟩ := (lev_eqB g (g.ga.step_lt hx hc) (g.gb.step_lt hy (by rw [← g.eL]; exact hc))).1 h
  have hup : ap2 a b (k + 1) x y = true := List.any_eq_true.2 ⟨c, List.mem_range.2 (by omega), h1⟩
  obtain ⟨m, q1, _, q3, q4⟩ := short2B g hx hy hup
  have hm := (lev_eqB g hx hy).2 ⟨q4, q3⟩
  rcases Nat.lt_or_eq_of_le q1 with hlt | e
  · exact absurd hm (hn m (by omega))
  · rw [← e]; exact hm
end Go.Proofs.YtbciefeipiphiaaDoor.Sm

namespace Go.Proofs.YtbciefeipiphiaaDoor.Sm
open Go.Proofs.YtbciefeipiphiaaDoor.Df Go.Proofs.YtbciefeipiphiaaDoor.Wo Go.Proofs.YtbciefeipiphiaaDoor.Rc
/-- If none is of a level, none is of a higher one. -/
theorem lev_gapB {a b : Aut} (g : Good2B a b) {k : Nat} (h : ∀ x y, x < a.next.length → y < b.next.length → lev a b x y ≠ (k : Int)) :
    ∀ j, k ≤ j → ∀ x y, x < a.next.length → y < b.next.length → lev a b x y ≠ (j : Int) := by
  intro j
  induction j with
  | zero => intro hk x y hx hy; obtain rfl : k = 0 := by omega
            exact h x y hx hy
  | succ j ih =>
    intro hk x y hx hy e
    rcases Nat.lt_or_eq_of_le hk with hlt | rfl
    · obtain ⟨c, hc, hl⟩ := lev_downB g hx hy e
      exact ih (by omega) _ _ (g.ga.step_lt hx hc) (g.gb.step_lt hy (by rw [← g.eL]; exact hc)) hl
    · exact h x y hx hy e
end Go.Proofs.YtbciefeipiphiaaDoor.Sm

namespace Go.Proofs.YtbciefeipiphiaaDoor.Sm
open Go.Proofs.YtbciefeipiphiaaDoor.Df Go.Proofs.YtbciefeipiphiaaDoor.Wo Go.Proofs.YtbciefeipiphiaaDoor.Rc
/-- A pair whose turn it is, and a letter that leads to the level below. -/
theorem val_setB {a b : Aut} (g : Good2B a b) {k x y c : Nat} (hx : x < a.next.length) (hy : y < b.next.length) (h : val a b (k + 1) false x y < 0) (hc : (c : Int) < a.L) (hl : lev a b (Df.step a x c) (Df.step b y c) = (k : Int)) : val a b (k + 1) true x y = ((k + 1 : Nat) : Int) := by
  have e := lev_upB g hx hy hc hl fun j hj => val_neg h (by omega)
  unfold val
  rw [if_pos (.inr ⟨e, rfl⟩)]; exact e
end Go.Proofs.YtbciefeipiphiaaDoor.Sm

namespace Go.Proofs.YtbciefeipiphiaaDoor.Sm
open Go.Proofs.YtbciefeipiphiaaDoor.Df Go.Proofs.YtbciefeipiphiaaDoor.Wo Go.Proofs.YtbciefeipiphiaaDoor.Rc
/-- A pair whose turn it is, and no such letter. -/
theorem val_keepB {a b : Aut} (g : Good2B a b) {k x y : Nat} (hx : x < a.next.length) (hy : y < b.next.length) (h : ∀ c : Nat, (c : Int) < a.L → lev a b (Df.step a x c) (Df.step b y c) ≠ (k : Int)) : val a b (k + 1) true x y = val a b (k + 1) false x y ∧ lev a b x y ≠ ((k + 1 : Nat) : Int) := by
  have hn : lev a b x y ≠ ((k + 1 : Nat) : Int) := fun e => by
    obtain ⟨c, hc, hl⟩ := lev_downB g hx hy e
    exact h c hc hl
  refine ⟨?_, hn⟩
  unfold val
  by_cases q : lev a b x y < ((k + 1 : Nat) : Int)
  · rw [if_pos (.inl q), if_pos (.inl q)]
  · rw [if_neg (fun z => z.elim q fun z => hn z.1), if_neg (fun z => z.elim q fun z => hn z.1)]
end Go.Proofs.YtbciefeipiphiaaDoor.Sm

namespace Go.Proofs.YtbciefeipiphiaaDoor.Sm
open Go.Proofs.YtbciefeipiphiaaDoor.Df Go.Proofs.YtbciefeipiphiaaDoor.Wo Go.Proofs.YtbciefeipiphiaaDoor.Rc
theorem val_startB {a b : Aut} (g : Good2B a b) {x y : Nat} (hx : x < a.next.length) (hy : y < b.next.length) : val a b 1 false x y = if finA a x ≠ finA b y then 0 else -1 := by
  by_cases h : finA a x ≠ finA b y
  · have e := (lev_zeroB g hx hy).2 h
    rw [if_pos h]
    unfold val
    rw [if_pos (.inl (by omega)), e]
  · rw [if_neg h]
    have e : lev a b x y ≠ 0 := fun e => h ((lev_zeroB g hx hy).1 e)
    unfold val
    split
    · rename_i q
      rcases lev_cases a b x y with q1 | ⟨k, q1⟩
      · exact q1
      · rcases q with q | q
        · omega
        · exact absurd q.2 (by decide)
    · rfl
end Go.Proofs.YtbciefeipiphiaaDoor.Sm

namespace Go.Proofs.YtbciefeipiphiaaDoor.Sm
open Go.Proofs.YtbciefeipiphiaaDoor.Df Go.Proofs.YtbciefeipiphiaaDoor.Wo Go.Proofs.YtbciefeipiphiaaDoor.Rc
/-- When a round finds nothing, the table is whole. -/
theorem val_endB {a b : Aut} (g : Good2B a b) {k : Nat} (h : ∀ x y, x < a.next.length → y < b.next.length → lev a b x y ≠ (k : Int)) {x y : Nat} (hx : x < a.next.length) (hy : y < b.next.length) (e : Bool) : val a b k e x y = lev a b x y := by
  unfold val
  split
  · rfl
  · rename_i q
    rcases lev_cases a b x y with q1 | ⟨j, q1⟩
    · exact q1.symm
    · have hj : ¬ j < k := fun hlt => q (.inl (by omega))
      exact absurd q1 (lev_gapB g h j (by omega) x y hx hy)
end Go.Proofs.YtbciefeipiphiaaDoor.Sm

namespace Go.Proofs.YtbciefeipiphiaaDoor.Df
open Go.RowKit Go.IntWalk Go.Proofs.YtbciefeipiphiaaDoor.Wd Go.Proofs.YtbciefeipiphiaaDoor.Wo
theorem good_smallB {d : Aut} (g : GoodB d) : ∀ r ∈ d.next, ∀ x ∈ r, Small x := fun r hr x hx => by
  have h := g.go r hr x hx
  have := g.n40
  exact ⟨by have := h.1; omega, by have := h.2; omega⟩
end Go.Proofs.YtbciefeipiphiaaDoor.Df

namespace Go.Proofs.YtbciefeipiphiaaDoor.Df
open Go.RowKit Go.IntWalk Go.Proofs.YtbciefeipiphiaaDoor.Wd Go.Proofs.YtbciefeipiphiaaDoor.Wo
/-- What a Df.step of a state reads. -/
theorem DfaIs.step_atB {w : World} {B : Nat} {L s : Int} {A F : Option Addr} {c cf : Nat} {d : Aut} (h : DfaIs w B L s A c F cf d) (g : GoodB d) {q i : Nat} (hq : q < d.next.length) (hi : (i : Int) < d.L) :
    ∃ ad ar m cr, A = some ad ∧ ad.block < B ∧ w.cell? (ad.add q) = some (.slice (some ar) m cr) ∧ i < m ∧ ar.block < B ∧ w.cell? (ar.add i) = some (.int .i64 ((Df.step d q i : Nat) : Int)) := by
  obtain ⟨r, hr, _, hl, hra, _⟩ := g.at_ hq hi
  obtain ⟨ad, A', c', e, h1, h2, _, _, h5⟩ := h.rows q r hr
  obtain ⟨ar, e2, h6, h7, h8⟩ := h5.get hra
  subst e2
  exact ⟨ad, ar, r.length, c', e, h1, h2, h8, h6, h7⟩
end Go.Proofs.YtbciefeipiphiaaDoor.Df
