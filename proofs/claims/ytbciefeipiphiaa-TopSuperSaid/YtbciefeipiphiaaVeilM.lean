/- Plain mathematics of package veil: what is seen of words, automata of what is seen, lifted ones, secrets. -/
import Derived.Test.YtbciefeipiphiaaSafeM
namespace Go.Proofs.Ytbciefeipiphiaa.Vl
open Go.Proofs.Ytbciefeipiphiaa.Df Go.Proofs.Ytbciefeipiphiaa.Wo Go.Proofs.Ytbciefeipiphiaa.Rc Go.Proofs.Ytbciefeipiphiaa.Sm Go.Proofs.Ytbciefeipiphiaa.Sa Go.Proofs.Ytbciefeipiphiaa.Nf

/-! ### what is seen -/
theorem only_append (s : Int) (v w : List Int) : only s (v ++ w) = only s v ++ only s w := List.filter_append ..
theorem only_word {L s : Int} {w : List Int} (hw : Word L w) : Word L (only s w) := fun a ha => hw a (List.mem_filter.1 ha).1
theorem only_only (s t : Int) (w : List Int) : only t (only s w) = w.filter (fun a => has t a && has s a) := by
  unfold only
  rw [List.filter_filter]
def hide (set : Int) (m : Int × Int × Int) : Int × Int × Int := (m.1, if has set m.2.1 = true then m.2.1 else -1, m.2.2)
/-- The letters that are not seen are silent. -/
def veilN (d : Aut) (set : Int) : Nfa := ⟨d.L, (d.next.length : Int), [d.s], (ofA d).mv.map (hide set), (ofA d).fin⟩
theorem mem_veil {d : Aut} {set x c y : Int} : (x, c, y) ∈ (veilN d set).mv ↔ ∃ q k : Nat, q < d.next.length ∧ (k : Int) < d.L ∧ x = q ∧ (c = if has set (k : Int) = true then (k : Int) else -1) ∧ y = (step d q k : Nat) := by
  show (x, c, y) ∈ (ofA d).mv.map (hide set) ↔ _
  rw [List.mem_map]
  constructor
  · rintro ⟨⟨x', c', y'⟩, hm, e⟩
    obtain ⟨q, k, hq, hk, rfl, rfl, rfl⟩ := mem_of.1 hm
    unfold hide at e
    simp only [Prod.mk.injEq] at e
    obtain ⟨rfl, rfl, rfl⟩ := e
    exact ⟨q, k, hq, hk, rfl, rfl, rfl⟩
  · rintro ⟨q, k, hq, hk, rfl, rfl, rfl⟩
    exact ⟨((q : Int), (k : Int), ((step d q k : Nat) : Int)), mem_of.2 ⟨q, k, hq, hk, rfl, rfl, rfl⟩, rfl⟩
theorem veil_good {d : Aut} (g : Df.Good d) (set : Int) : Nf.Good (veilN d set) := by
  have h := of_good g
  refine ⟨h.l1, h.l6, h.n1, h.n40, h.s40, h.f40, ?_, h.st, h.fin, ?_⟩
  · show ((ofA d).mv.map (hide set)).length ≤ 240
    rw [List.length_map]; exact h.m240
  · rintro ⟨x, c, y⟩ hm
    obtain ⟨q, k, hq, hk, rfl, rfl, rfl⟩ := mem_veil.1 hm
    have := g.step_lt hq hk
    refine ⟨⟨?_, ?_⟩, ⟨?_, ?_⟩, ?_, ?_⟩
    · show (0 : Int) ≤ (q : Int); omega
    · show (q : Int) < (d.next.length : Int); omega
    · show (0 : Int) ≤ ((step d q k : Nat) : Int); omega
    · show ((step d q k : Nat) : Int) < (d.next.length : Int); omega
    · show (-1 : Int) ≤ (if has set (k : Int) = true then (k : Int) else -1)
      split <;> omega
    · show (if has set (k : Int) = true then (k : Int) else -1) < d.L
      have := g.l1
      split <;> omega
theorem word_one' {L a : Int} {w : List Int} (hw : Word L w) (h0 : 0 ≤ a) (h1 : a < L) : Word L (w ++ [a]) := fun x hx => by
  rcases List.mem_append.1 hx with hx | hx
  · exact hw x hx
  · simp at hx; subst hx; exact ⟨h0, h1⟩
theorem run_one (d : Aut) (q : Nat) (w : List Int) (a : Int) : runA d q (w ++ [a]) = step d (runA d q w) a.toNat := by rw [runA_append]; rfl
theorem way_veil1 {d : Aut} {set : Int} {s t : Nat} {v : List Int} (h : Way (veilN d set) s v t) : ∃ w, Word d.L w ∧ t = runA d s w ∧ only set w = v := by
  induction h with
  | nil => exact ⟨[], fun a ha => by simp at ha, rfl, rfl⟩
  | @eps w t u _ h2 ih =>
    obtain ⟨q, k, hq, hk, e1, e2, e3⟩ := mem_veil.1 h2
    obtain ⟨x, hx, i2, i3⟩ := ih
    have hns : has set (k : Int) = false := by
      rcases h : has set (k : Int) with _ | _
      · rfl
      · rw [if_pos h] at e2; omega
    obtain rfl : t = q := by omega
    refine ⟨x ++ [(k : Int)], word_one' hx (by omega) hk, ?_, ?_⟩
    · rw [run_one, ← i2, Int.toNat_natCast]; omega
    · rw [only_append, i3]
      show w ++ List.filter (has set) [(k : Int)] = w
      rw [List.filter_cons_of_neg (by rw [hns]; decide)]; simp
  | @one w t u c _ h2 h3 ih =>
    obtain ⟨q, k, hq, hk, e1, e2, e3⟩ := mem_veil.1 h2
    obtain ⟨x, hx, i2, i3⟩ := ih
    have hs : has set (k : Int) = true := by
      rcases h : has set (k : Int) with _ | _
      · rw [if_neg (by rw [h]; decide)] at e2; omega
      · rfl
    rw [if_pos hs] at e2
    subst e2
    obtain rfl : t = q := by omega
    refine ⟨x ++ [(k : Int)], word_one' hx (by omega) hk, ?_, ?_⟩
    · rw [run_one, ← i2, Int.toNat_natCast]; omega
    · rw [only_append, i3]
      show w ++ List.filter (has set) [(k : Int)] = w ++ [(k : Int)]
      rw [List.filter_cons_of_pos hs]; rfl
theorem way_veil2 {d : Aut} (g : Df.Good d) {set : Int} : ∀ (w : List Int) {s : Nat}, s < d.next.length → Word d.L w → Way (veilN d set) s (only set w) (runA d s w)
  | [], _, _, _ => .nil
  | c :: w, s, hs, hw => by
    have hc := hw c List.mem_cons_self
    have hcc : ((c.toNat : Nat) : Int) = c := Int.toNat_of_nonneg hc.1
    have hk : ((c.toNat : Nat) : Int) < d.L := by rw [hcc]; exact hc.2
    have ih := way_veil2 g (set := set) w (g.step_lt hs hk) (fun e he => hw e (List.mem_cons_of_mem _ he))
    rcases h : has set c with _ | _
    · have e : only set (c :: w) = only set w := List.filter_cons_of_neg (by rw [h]; decide)
      rw [e]
      exact Way.eps_head (u := step d s c.toNat) (mem_veil.2 ⟨s, c.toNat, hs, hk, rfl, by rw [hcc, if_neg (by rw [h]; decide)], rfl⟩) ih
    · have e : only set (c :: w) = c :: only set w := List.filter_cons_of_pos h
      rw [e]
      exact Way.one_head (u := step d s c.toNat) (mem_veil.2 ⟨s, c.toNat, hs, hk, rfl, by rw [hcc, if_pos h], rfl⟩) hc.1 ih
/-- Seen of a word that is accepted. -/
def Seen (d : Aut) (set : Int) (v : List Int) : Prop := ∃ w, Word d.L w ∧ accA d w = true ∧ only set w = v
theorem veil_acc {d : Aut} (g : Df.Good d) {set : Int} {v : List Int} (hv : ∀ c ∈ v, 0 ≤ c) : accN (veilN d set) v = true ↔ Seen d set v := by
  rw [accN_iff (veil_good g set) hv]
  constructor
  · rintro ⟨s, t, hs, h, ht⟩
    obtain ⟨w, hw, rfl, hv⟩ := way_veil1 h
    have hs : (s : Int) = d.s := by simpa [veilN] using hs
    have hst := g.s_lt
    obtain rfl : s = d.s.toNat := by omega
    exact ⟨w, hw, (mem_fin.1 ht).2, hv⟩
  · rintro ⟨w, hw, ha, rfl⟩
    have hst := g.s_lt
    refine ⟨d.s.toNat, runA d d.s.toNat w, ?_, way_veil2 g w hst hw, mem_fin.2 ⟨g.run_lt hw hst, ha⟩⟩
    have := g.st.1
    show ((d.s.toNat : Nat) : Int) ∈ [d.s]
    rw [Int.toNat_of_nonneg this]; exact List.mem_cons_self
/-- What is seen, as an automaton. -/
def seeA (d : Aut) (set : Int) (l : List (List Nat)) : Aut := makeA (veilN d set) l
theorem see_good {d : Aut} (g : Df.Good d) {set : Int} {l : List (List Nat)} (hl : found (T (veilN d set)) (beg (veilN d set)) = some l) : Df.Good (seeA d set l) := make_good (veil_good g set) hl
theorem see_acc {d : Aut} (g : Df.Good d) {set : Int} {l : List (List Nat)} (hl : found (T (veilN d set)) (beg (veilN d set)) = some l) {v : List Int} (hv : Word d.L v) : accA (seeA d set l) v = true ↔ Seen d set v := by
  rw [show accA (seeA d set l) v = accN (veilN d set) v from make_acc (veil_good g set) hl hv]
  exact veil_acc g fun c hc => (hv c hc).1
def seeOut (d : Aut) (set : Int) : Aut × Nat := if dchk d ≠ 0 then (zeroA, dchk d) else if ¬ setOk d.L set then (zeroA, 1) else makeOut (veilN d set)
theorem see_out {d : Aut} (g : Df.Good d) {set : Int} (hs : setOk d.L set) : (∃ l, found (T (veilN d set)) (beg (veilN d set)) = some l ∧ seeOut d set = (seeA d set l, 0)) ∨ (found (T (veilN d set)) (beg (veilN d set)) = none ∧ seeOut d set = (zeroA, 4)) := by
  unfold seeOut makeOut
  rw [if_neg (fun h => h (dchk_iff.2 g)), if_neg (fun h => h hs), if_pos (nchk_iff.2 (veil_good g set))]
  unfold explOut
  rcases h : found (T (veilN d set)) (beg (veilN d set)) with _ | l
  · exact .inr ⟨rfl, rfl⟩
  · exact .inl ⟨l, rfl, rfl⟩

/-! ### lifted -/
/-- Letters that are not seen lead back. -/
def liftA (d : Aut) (set : Int) : Aut := ⟨d.L, d.s, (List.range d.next.length).map fun (s : Nat) => (List.range d.L.toNat).map fun (a : Nat) => if has set (a : Int) = true then ((step d s a : Nat) : Int) else (s : Int), d.fin⟩
theorem lift_len (d : Aut) (set : Int) : (liftA d set).next.length = d.next.length := by simp [liftA]
theorem lift_row (d : Aut) (set : Int) {s : Nat} (hs : s < d.next.length) : (liftA d set).next[s]? = some ((List.range d.L.toNat).map fun (a : Nat) => if has set (a : Int) = true then ((step d s a : Nat) : Int) else (s : Int)) := by
  unfold liftA; simp only; rw [List.getElem?_map, List.getElem?_range hs]; rfl
theorem lift_step (d : Aut) (set : Int) {s a : Nat} (hs : s < d.next.length) (ha : (a : Int) < d.L) : step (liftA d set) s a = if has set (a : Int) = true then step d s a else s := by
  have e : step (liftA d set) s a = ((((liftA d set).next[s]?.getD [])[a]?).getD 0).toNat := rfl
  rw [e, lift_row d set hs, Option.getD_some, List.getElem?_map, List.getElem?_range (by omega), Option.map_some, Option.getD_some]
  split <;> simp
theorem lift_good {d : Aut} (g : Df.Good d) (set : Int) : Df.Good (liftA d set) := by
  have h1 := g.n1; have h2 := g.n40; have h3 := g.l1
  refine ⟨g.l1, g.l6, by rw [lift_len]; exact g.n1, by rw [lift_len]; exact g.n40, by rw [lift_len]; exact g.fin, fun r hr => ?_, ?_, fun r hr x hx => ?_⟩
  · obtain ⟨s, hs, rfl⟩ := List.mem_map.1 hr
    rw [List.length_map, List.length_range]
    show ((d.L.toNat : Nat) : Int) = d.L
    omega
  · have := g.st
    unfold isSt at *
    rw [lift_len]; exact this
  · obtain ⟨s, hs, rfl⟩ := List.mem_map.1 hr
    have hs := List.mem_range.1 hs
    obtain ⟨a, ha, rfl⟩ := List.mem_map.1 hx
    have ha := List.mem_range.1 ha
    have := g.step_lt hs (a := a) (by omega)
    unfold isSt
    rw [lift_len]
    split <;> omega
theorem lift_run {d : Aut} (g : Df.Good d) (set : Int) : ∀ (w : List Int) {q : Nat}, q < d.next.length → Word d.L w → runA (liftA d set) q w = runA d q (only set w)
  | [], _, _, _ => rfl
  | a :: w, q, hq, hw => by
    have ha := hw a List.mem_cons_self
    have hw' : Word d.L w := fun x hx => hw x (List.mem_cons_of_mem _ hx)
    have haa : ((a.toNat : Nat) : Int) = a := Int.toNat_of_nonneg ha.1
    have hs : runA (liftA d set) q (a :: w) = runA (liftA d set) (step (liftA d set) q a.toNat) w := rfl
    rw [hs, lift_step d set hq (by omega), haa]
    rcases h : has set a with _ | _
    · have e : only set (a :: w) = only set w := List.filter_cons_of_neg (by rw [h]; decide)
      rw [e, if_neg (by decide), lift_run g set w hq hw']
    · have e : only set (a :: w) = a :: only set w := List.filter_cons_of_pos h
      rw [e, if_pos rfl, lift_run g set w (g.step_lt hq (by omega)) hw']; rfl
theorem lift_acc {d : Aut} (g : Df.Good d) {set : Int} {w : List Int} (hw : Word d.L w) : accA (liftA d set) w = accA d (only set w) := by
  unfold accA
  rw [show runA (liftA d set) (liftA d set).s.toNat w = runA d d.s.toNat (only set w) from lift_run g set w g.s_lt hw]; rfl
def liftOut (d : Aut) (set : Int) : Aut × Nat := if dchk d ≠ 0 then (zeroA, dchk d) else if ¬ setOk d.L set then (zeroA, 1) else (liftA d set, 0)

/-! ### of what is seen -/
/-- Galois: what is seen is within just if what is done is within what is lifted. -/
theorem galois {d e : Aut} (hL : e.L = d.L) (ge : Df.Good e) {set : Int} : (∀ v, Word d.L v → Seen d set v → accA e v = true) ↔ ∀ w, Word d.L w → accA d w = true → accA (liftA e set) w = true := by
  constructor
  · intro h w hw ha
    rw [lift_acc ge (by rw [hL]; exact hw)]
    exact h _ (only_word hw) ⟨w, hw, ha, rfl⟩
  · rintro h v hv ⟨w, hw, ha, rfl⟩
    rw [← lift_acc ge (by rw [hL]; exact hw)]
    exact h w hw ha
theorem only_all {L set : Int} (h : ∀ a, 0 ≤ a → a < L → has set a = true) {w : List Int} (hw : Word L w) : only set w = w := List.filter_eq_self.2 fun a ha => h a (hw a ha).1 (hw a ha).2
theorem seen_all {d : Aut} {set : Int} (h : ∀ a, 0 ≤ a → a < d.L → has set a = true) {v : List Int} (hv : Word d.L v) : Seen d set v ↔ accA d v = true := by
  constructor
  · rintro ⟨w, hw, ha, rfl⟩
    rwa [only_all h hw]
  · exact fun ha => ⟨v, hv, ha, only_all h hv⟩
/-- Of what is seen of some some less is seen. -/
theorem seen_seen {d x : Aut} (hL : x.L = d.L) {set other both : Int} (hx : ∀ v, Word d.L v → (accA x v = true ↔ Seen d set v)) (hb : ∀ a, 0 ≤ a → a < d.L → has both a = (has other a && has set a)) (v : List Int) : Seen x other v ↔ Seen d both v := by
  have hoo : ∀ w, Word d.L w → only other (only set w) = only both w := fun w hw => by
    rw [only_only]
    exact List.filter_congr fun a ha => (hb a (hw a ha).1 (hw a ha).2).symm
  constructor
  · rintro ⟨u, hu, ha, rfl⟩
    rw [hL] at hu
    obtain ⟨w, hw, ha2, rfl⟩ := (hx u hu).1 ha
    exact ⟨w, hw, ha2, (hoo w hw).symm⟩
  · rintro ⟨w, hw, ha, rfl⟩
    exact ⟨only set w, by rw [hL]; exact only_word hw, (hx _ (only_word hw)).2 ⟨w, hw, ha, rfl⟩, hoo w hw⟩
/-- A secret is kept: what is seen of it is seen of something else, too. -/
def Opq (d e : Aut) (set : Int) : Prop := ∀ w, Word d.L w → accA d w = true → accA e w = true → ∃ u, Word d.L u ∧ accA d u = true ∧ accA e u = false ∧ only set u = only set w
theorem opq_seen {d e p q : Aut} {set : Int} (hp : p.L = d.L) (hq : q.L = d.L) (h1 : ∀ w, Word d.L w → accA p w = (accA d w && accA e w)) (h2 : ∀ w, Word d.L w → accA q w = (accA d w && !accA e w)) : Opq d e set ↔ ∀ v, Word d.L v → Seen p set v → Seen q set v := by
  constructor
  · rintro h v hv ⟨w, hw, ha, rfl⟩
    rw [hp] at hw
    rw [h1 w hw, Bool.and_eq_true] at ha
    obtain ⟨u, hu, u1, u2, u3⟩ := h w hw ha.1 ha.2
    exact ⟨u, by rw [hq]; exact hu, by rw [h2 u hu, u1, u2]; rfl, u3⟩
  · intro h w hw a1 a2
    obtain ⟨u, hu, ha, e⟩ := h (only set w) (only_word hw) ⟨w, by rw [hp]; exact hw, by rw [h1 w hw, a1, a2]; rfl, rfl⟩
    rw [hq] at hu
    rw [h2 u hu, Bool.and_eq_true] at ha
    exact ⟨u, hu, ha.1, by simpa using ha.2, e⟩
end Go.Proofs.Ytbciefeipiphiaa.Vl
