/- Plain mathematics of package super: what is kept, the most that can be kept, by words and by pairs of states; the first word that leads out. -/
import Derived.Test.YtbciefeipiphiaaDoorSafeM
import Derived.Test.YtbciefeipiphiaaDoorLexM
namespace Go.Proofs.YtbciefeipiphiaaDoor.Su
open Go.Proofs.YtbciefeipiphiaaDoor.Df Go.Proofs.YtbciefeipiphiaaDoor.Wo Go.Proofs.YtbciefeipiphiaaDoor.Rc Go.Proofs.YtbciefeipiphiaaDoor.Sm Go.Proofs.YtbciefeipiphiaaDoor.Sa Go.Proofs.YtbciefeipiphiaaDoor.Me

/-! ### by words -/
/-- The beginnings of what K holds of. -/
def PreK (L : Int) (K : List Int → Prop) (v : List Int) : Prop := ∃ u, Word L u ∧ K (v ++ u)
def accP (d : Aut) : List Int → Prop := fun w => accA d w = true
/-- No free letter leads out, where the plant can do it. -/
def Ctl (P : Aut) (free : Int) (K : List Int → Prop) : Prop := ∀ v a, Word P.L v → 0 ≤ a → a < P.L → has free a = true → PreK P.L K v → PreK P.L (accP P) (v ++ [a]) → PreK P.L K (v ++ [a])
structure Sub (P S : Aut) (free : Int) (K : List Int → Prop) : Prop where
  within : ∀ w, K w → Word P.L w ∧ accA P w = true ∧ accA S w = true
  ctl : Ctl P free K
/-- The most that can be kept. -/
def sup (P S : Aut) (free : Int) (w : List Int) : Prop := ∃ K, Sub P S free K ∧ K w
theorem word_snoc {L a : Int} {v : List Int} : Word L (v ++ [a]) ↔ Word L v ∧ 0 ≤ a ∧ a < L := by
  constructor
  · intro h
    exact ⟨fun x hx => h x (List.mem_append_left _ hx), h a (by simp)⟩
  · rintro ⟨h, ha⟩ x hx
    rcases List.mem_append.1 hx with hx | hx
    · exact h x hx
    · simp at hx; subst hx; exact ha
theorem sup_sub (P S : Aut) (free : Int) : Sub P S free (sup P S free) := by
  refine ⟨fun w ⟨K, hK, hw⟩ => hK.within w hw, fun v a hv h0 h1 hf hp hq => ?_⟩
  obtain ⟨u, hu, K, hK, hw⟩ := hp
  obtain ⟨x, hx, hxw⟩ := hK.ctl v a hv h0 h1 hf ⟨u, hu, hw⟩ hq
  exact ⟨x, hx, K, hK, hxw⟩
theorem sup_most {P S : Aut} {free : Int} {K : List Int → Prop} (h : Sub P S free K) {w : List Int} (hw : K w) : sup P S free w := ⟨K, h, hw⟩
theorem preK_congr {L : Int} {K M : List Int → Prop} (h : ∀ w, Word L w → (K w ↔ M w)) {v : List Int} (hv : Word L v) : PreK L K v ↔ PreK L M v :=
  ⟨fun ⟨u, hu, hk⟩ => ⟨u, hu, (h _ (word_append hv hu)).1 hk⟩, fun ⟨u, hu, hk⟩ => ⟨u, hu, (h _ (word_append hv hu)).2 hk⟩⟩
theorem ctl_congr {P : Aut} {free : Int} {K M : List Int → Prop} (h : ∀ w, Word P.L w → (K w ↔ M w)) (hc : Ctl P free K) : Ctl P free M := fun v a hv h0 h1 hf hp hq => by
  have hva : Word P.L (v ++ [a]) := word_snoc.2 ⟨hv, h0, h1⟩
  exact (preK_congr h hva).1 (hc v a hv h0 h1 hf ((preK_congr h hv).2 hp) hq)
/-- What is kept and within both is within it. -/
theorem kept_within {P S D : Aut} {free : Int} (hc : Ctl P free (accP D)) (h : ∀ w, Word P.L w → accA D w = true → accA P w = true ∧ accA S w = true) {w : List Int} (hw : Word P.L w) (ha : accA D w = true) : sup P S free w := by
  refine sup_most (K := fun u => Word P.L u ∧ accA D u = true) ⟨fun u ⟨h1, h2⟩ => ⟨h1, h u h1 h2⟩, ctl_congr (fun u hu => ⟨fun k => ⟨hu, k⟩, fun k => k.2⟩) hc⟩ ⟨hw, ha⟩
/-- An automaton that accepts just the most that is kept. -/
def IsSup (P S D : Aut) (free : Int) : Prop := ∀ w, Word P.L w → (accA D w = true ↔ sup P S free w)
theorem isSup_ctl {P S D : Aut} {free : Int} (h : IsSup P S D free) : Ctl P free (accP D) := ctl_congr (fun w hw => (h w hw).symm) (sup_sub P S free).ctl
theorem isSup_within {P S D : Aut} {free : Int} (h : IsSup P S D free) {w : List Int} (hw : Word P.L w) (ha : accA D w = true) : accA P w = true ∧ accA S w = true := ((sup_sub P S free).within w ((h w hw).1 ha)).2
/-- Once is enough. -/
theorem sup_again {P S D : Aut} {free : Int} (h : IsSup P S D free) : IsSup P D D free := fun w hw => by
  constructor
  · exact fun ha => kept_within (isSup_ctl h) (fun u hu k => ⟨(isSup_within h hu k).1, k⟩) hw ha
  · exact fun ⟨K, hK, hk⟩ => (hK.within w hk).2.2
/-- The fewer are free the more is let. -/
theorem sup_fewer {P S : Aut} {f g : Int} (h : ∀ a, 0 ≤ a → a < P.L → has g a = true → has f a = true) {w : List Int} (hs : sup P S f w) : sup P S g w := by
  obtain ⟨K, hK, hw⟩ := hs
  exact ⟨K, ⟨hK.within, fun v a hv h0 h1 hg hp hq => hK.ctl v a hv h0 h1 (h a h0 h1 hg) hp hq⟩, hw⟩
theorem sup_free {P S : Aut} {free : Int} (h : ∀ a, 0 ≤ a → a < P.L → has free a = false) {w : List Int} (hw : Word P.L w) : sup P S free w ↔ accA P w = true ∧ accA S w = true := by
  constructor
  · exact fun ⟨K, hK, hk⟩ => (hK.within w hk).2
  · intro k
    refine sup_most (K := fun u => Word P.L u ∧ accA P u = true ∧ accA S u = true) ⟨fun u k => k, fun v a _ h0 h1 hf => ?_⟩ ⟨hw, k⟩
    rw [h a h0 h1] at hf; cases hf
/-- A word that leads out. -/
def Lead (P D : Aut) (free : Int) (w : List Int) : Prop := ∃ v a, w = v ++ [a] ∧ has free a = true ∧ PreK P.L (accP P) w ∧ PreK P.L (accP D) v ∧ ¬ PreK P.L (accP D) w
theorem ctl_iff {P D : Aut} {free : Int} : Ctl P free (accP D) ↔ ∀ w, Word P.L w → ¬ Lead P D free w := by
  constructor
  · rintro h w hw ⟨v, a, rfl, h1, h2, h3, h4⟩
    obtain ⟨hv, h0, hL⟩ := word_snoc.1 hw
    exact h4 (h v a hv h0 hL h1 h3 h2)
  · intro h v a hv h0 h1 hf hp hq
    rcases Classical.em (PreK P.L (accP D) (v ++ [a])) with k | k
    · exact k
    · exact absurd ⟨v, a, rfl, hf, hq, hp, k⟩ (h (v ++ [a]) (word_snoc.2 ⟨hv, h0, h1⟩))
/-- The first one. -/
noncomputable def keptW (P D : Aut) (free : Int) : Option (List Int) := @dite _ (∃ v, Word P.L v ∧ Lead P D free v) (Classical.propDecidable _) (fun h => some (least_word h).choose) (fun _ => none)
theorem keptW_none {P D : Aut} {free : Int} : keptW P D free = none ↔ Ctl P free (accP D) := by
  rw [ctl_iff]
  unfold keptW
  by_cases h : ∃ v, Word P.L v ∧ Lead P D free v
  · rw [dif_pos h]
    obtain ⟨v, h1, h2⟩ := h
    exact ⟨fun e => (by cases e), fun k => absurd h2 (k v h1)⟩
  · rw [dif_neg h]
    exact ⟨fun _ w hw hl => h ⟨w, hw, hl⟩, fun _ => rfl⟩
theorem keptW_some {P D : Aut} {free : Int} {w : List Int} : keptW P D free = some w ↔ Word P.L w ∧ Lead P D free w ∧ ∀ u, Word P.L u → Lead P D free u → lss u w = false := by
  unfold keptW
  by_cases h : ∃ v, Word P.L v ∧ Lead P D free v
  · rw [dif_pos h]
    have hs := (least_word h).choose_spec
    constructor
    · intro e
      obtain rfl := Option.some.inj e
      exact hs
    · rintro ⟨k1, k2, k3⟩
      rw [lss_total (k3 _ hs.1 hs.2.1) (hs.2.2 w k1 k2)]
  · rw [dif_neg h]
    exact ⟨fun e => (by cases e), fun k => absurd ⟨w, k.1, k.2.1⟩ h⟩

/-! ### by pairs of states -/
theorem preK_alive {P d : Aut} (g : Good d) (hL : P.L = d.L) {v : List Int} (hv : Word P.L v) : PreK P.L (accP d) v ↔ isAlive d (runA d d.s.toNat v) = true := by
  rw [hL] at hv
  rw [alive_word g hv, hL]; rfl
/-- A word that leads out, from a pair on. -/
def LeadF (P D : Aut) (free : Int) (p q : Nat) (w : List Int) : Prop := ∃ v a, w = v ++ [a] ∧ has free a = true ∧ isAlive P (runA P p w) = true ∧ isAlive D (runA D q v) = true ∧ isAlive D (runA D q w) = false
theorem lead_from {P D : Aut} (g : Good2 P D) {free : Int} {w : List Int} (hw : Word P.L w) : Lead P D free w ↔ LeadF P D free P.s.toNat D.s.toNat w := by
  unfold Lead LeadF
  constructor
  · rintro ⟨v, a, rfl, h1, h2, h3, h4⟩
    have hv := (word_snoc.1 hw).1
    refine ⟨v, a, rfl, h1, (preK_alive g.ga rfl hw).1 h2, (preK_alive g.gb g.eL hv).1 h3, ?_⟩
    rcases e : isAlive D (runA D D.s.toNat (v ++ [a])) with _ | _
    · rfl
    · exact absurd ((preK_alive g.gb g.eL hw).2 e) h4
  · rintro ⟨v, a, rfl, h1, h2, h3, h4⟩
    have hv := (word_snoc.1 hw).1
    refine ⟨v, a, rfl, h1, (preK_alive g.ga rfl hw).2 h2, (preK_alive g.gb g.eL hv).2 h3, fun k => ?_⟩
    rw [(preK_alive g.gb g.eL hw).1 k] at h4; cases h4
/-- A free letter leads out of a pair. -/
def badC (P D : Aut) (free : Int) (p q c : Nat) : Bool := has free (c : Int) && isAlive P (step P p c) && !isAlive D (step D q c)
def live2 (P D : Aut) (p q : Nat) : Bool := isAlive P p && isAlive D q
/-- Does a word of k + 1 letters lead out? -/
def lenB (P D : Aut) (free : Int) : Nat → Nat → Nat → Bool
  | 0, p, q => live2 P D p q && (List.range P.L.toNat).any (badC P D free p q)
  | k + 1, p, q => live2 P D p q && (List.range P.L.toNat).any fun c => lenB P D free k (step P p c) (step D q c)
theorem alive_step {d : Aut} (g : Good d) {p c : Nat} (hp : p < d.next.length) (hc : (c : Int) < d.L) (h : isAlive d (step d p c) = true) : isAlive d p = true := by
  obtain ⟨u, hu, hf⟩ := (isAlive_iff g (g.step_lt hp hc)).1 h
  exact (isAlive_iff g hp).2 ⟨(c : Int) :: u, fun x hx => by
    rcases List.mem_cons.1 hx with rfl | hx
    · exact ⟨by omega, hc⟩
    · exact hu x hx, hf⟩
theorem alive_run {d : Aut} (g : Good d) : ∀ (w : List Int) {p : Nat}, Word d.L w → p < d.next.length → isAlive d (runA d p w) = true → isAlive d p = true
  | [], _, _, _, h => h
  | a :: w, p, hw, hp, h => by
    have ha := hw a List.mem_cons_self
    have hs := g.step_lt hp (a := a.toNat) (by omega)
    exact alive_step g hp (by omega) (alive_run g w (fun x hx => hw x (List.mem_cons_of_mem _ hx)) hs h)
theorem leadF_one {P D : Aut} {free : Int} {p q : Nat} {a : Int} (h0 : 0 ≤ a) : LeadF P D free p q [a] ↔ isAlive D q = true ∧ badC P D free p q a.toNat = true := by
  have ea : ((a.toNat : Nat) : Int) = a := Int.toNat_of_nonneg h0
  unfold LeadF badC
  constructor
  · rintro ⟨v, b, e, h1, h2, h3, h4⟩
    rcases v with _ | ⟨x, v⟩
    · simp only [List.nil_append, List.cons.injEq, and_true] at e
      subst e
      refine ⟨h3, ?_⟩
      rw [ea, h1]
      have h2 : isAlive P (step P p a.toNat) = true := h2
      have h4 : isAlive D (step D q a.toNat) = false := h4
      rw [h2, h4]; rfl
    · simp at e
  · rintro ⟨h1, h2⟩
    rw [ea, Bool.and_eq_true, Bool.and_eq_true] at h2
    have h3 : isAlive D (step D q a.toNat) = false := by simpa using h2.2
    exact ⟨[], a, rfl, h2.1.1, h2.1.2, h1, h3⟩
theorem leadF_cons {P D : Aut} {free : Int} {p q : Nat} {a : Int} {w : List Int} (hw : w ≠ []) : LeadF P D free p q (a :: w) ↔ LeadF P D free (step P p a.toNat) (step D q a.toNat) w := by
  unfold LeadF
  constructor
  · rintro ⟨v, b, e, h1, h2, h3, h4⟩
    rcases v with _ | ⟨x, v⟩
    · simp only [List.nil_append, List.cons.injEq] at e
      exact absurd e.2 hw
    · simp only [List.cons_append, List.cons.injEq] at e
      obtain ⟨rfl, rfl⟩ := e
      exact ⟨v, b, rfl, h1, h2, h3, h4⟩
  · rintro ⟨v, b, rfl, h1, h2, h3, h4⟩
    exact ⟨a :: v, b, rfl, h1, h2, h3, h4⟩
theorem leadF_live {P D : Aut} (g : Good2 P D) {free : Int} {p q : Nat} (hp : p < P.next.length) (hq : q < D.next.length) {w : List Int} (hw : Word P.L w) (h : LeadF P D free p q w) : live2 P D p q = true := by
  obtain ⟨v, a, rfl, _, h2, h3, _⟩ := h
  have hv := (word_snoc.1 hw).1
  unfold live2
  rw [alive_run g.ga _ hw hp h2, alive_run g.gb v (by rw [← g.eL]; exact hv) hq h3]; rfl
theorem lenB_iff {P D : Aut} (g : Good2 P D) {free : Int} : ∀ {k p q : Nat}, p < P.next.length → q < D.next.length → (lenB P D free k p q = true ↔ ∃ w, w.length = k + 1 ∧ Word P.L w ∧ LeadF P D free p q w)
  | 0, p, q, hp, hq => by
    rw [lenB, Bool.and_eq_true]
    constructor
    · rintro ⟨h1, h2⟩
      obtain ⟨c, hc, hb⟩ := List.any_eq_true.1 h2
      have hc := List.mem_range.1 hc
      unfold live2 at h1
      rw [Bool.and_eq_true] at h1
      exact ⟨[(c : Int)], rfl, fun x hx => by simp at hx; subst hx; exact ⟨by omega, by omega⟩, (leadF_one (by omega)).2 ⟨h1.2, by simpa using hb⟩⟩
    · rintro ⟨w, hl, hw, h⟩
      refine ⟨leadF_live g hp hq hw h, ?_⟩
      rcases w with _ | ⟨a, w⟩
      · simp at hl
      · obtain rfl : w = [] := List.length_eq_zero_iff.1 (by simpa using hl)
        have ha := hw a List.mem_cons_self
        exact List.any_eq_true.2 ⟨a.toNat, List.mem_range.2 (by omega), ((leadF_one ha.1).1 h).2⟩
  | k + 1, p, q, hp, hq => by
    rw [lenB, Bool.and_eq_true]
    constructor
    · rintro ⟨h1, h2⟩
      obtain ⟨c, hc, hb⟩ := List.any_eq_true.1 h2
      have hc := List.mem_range.1 hc
      obtain ⟨w, hl, hw, h⟩ := (lenB_iff g (g.ga.step_lt hp (by omega)) (g.gb.step_lt hq (by rw [← g.eL]; omega))).1 hb
      refine ⟨(c : Int) :: w, by simp [hl], fun x hx => ?_, (leadF_cons (by rintro rfl; simp at hl)).2 (by simpa using h)⟩
      rcases List.mem_cons.1 hx with rfl | hx
      · exact ⟨by omega, by omega⟩
      · exact hw x hx
    · rintro ⟨w, hl, hw, h⟩
      refine ⟨leadF_live g hp hq hw h, ?_⟩
      rcases w with _ | ⟨a, w⟩
      · simp at hl
      · have ha := hw a List.mem_cons_self
        have hl : w.length = k + 1 := by simpa using hl
        refine List.any_eq_true.2 ⟨a.toNat, List.mem_range.2 (by omega), (lenB_iff g (g.ga.step_lt hp (by omega)) (g.gb.step_lt hq (by rw [← g.eL]; omega))).2 ⟨w, hl, fun x hx => hw x (List.mem_cons_of_mem _ hx), ?_⟩⟩
        exact (leadF_cons (by rintro rfl; simp at hl)).1 h
/-- The first of the words of k + 1 letters that lead out. -/
def pickB (P D : Aut) (free : Int) : Nat → Nat → Nat → List Int
  | 0, p, q => match least P.L.toNat (badC P D free p q) with
    | none => []
    | some c => [(c : Int)]
  | k + 1, p, q => match least P.L.toNat (fun c => lenB P D free k (step P p c) (step D q c)) with
    | none => []
    | some c => (c : Int) :: pickB P D free k (step P p c) (step D q c)
theorem least_any {n : Nat} {b : Nat → Bool} (h : (List.range n).any b = true) : ∃ c, least n b = some c := by
  rcases e : least n b with _ | c
  · obtain ⟨c, hc, hb⟩ := List.any_eq_true.1 h
    rw [least_none e (List.mem_range.1 hc)] at hb; cases hb
  · exact ⟨c, rfl⟩
theorem pickB_is {P D : Aut} (g : Good2 P D) {free : Int} : ∀ {k p q : Nat}, p < P.next.length → q < D.next.length → lenB P D free k p q = true →
    (pickB P D free k p q).length = k + 1 ∧ Word P.L (pickB P D free k p q) ∧ LeadF P D free p q (pickB P D free k p q) ∧ ∀ u, u.length = k + 1 → Word P.L u → LeadF P D free p q u → lx u (pickB P D free k p q) = false
  | 0, p, q, hp, hq, h => by
    rw [lenB, Bool.and_eq_true] at h
    obtain ⟨h1, h2⟩ := h
    obtain ⟨c, hc⟩ := least_any h2
    obtain ⟨c1, c2, c3⟩ := least_some hc
    have e : pickB P D free 0 p q = [(c : Int)] := by rw [pickB, hc]
    unfold live2 at h1
    rw [Bool.and_eq_true] at h1
    rw [e]
    refine ⟨rfl, fun x hx => by simp at hx; subst hx; exact ⟨by omega, by omega⟩, (leadF_one (by omega)).2 ⟨h1.2, by simpa using c2⟩, fun u hu hw hl => ?_⟩
    rcases u with _ | ⟨a, u⟩
    · simp at hu
    · obtain rfl : u = [] := List.length_eq_zero_iff.1 (by simpa using hu)
      have ha := hw a List.mem_cons_self
      have hb := ((leadF_one ha.1).1 hl).2
      have hge : ¬ a.toNat < c := fun k => by rw [c3 _ k] at hb; cases hb
      rw [lx]
      by_cases e : a = (c : Int)
      · rw [if_pos e, lx]
        intro _ _ _ _ h
        cases h
      · rw [if_neg e]; simp; omega
  | k + 1, p, q, hp, hq, h => by
    rw [lenB, Bool.and_eq_true] at h
    obtain ⟨_, h2⟩ := h
    obtain ⟨c, hc⟩ := least_any h2
    obtain ⟨c1, c2, c3⟩ := least_some hc
    have hsp := g.ga.step_lt hp (a := c) (by omega)
    have hsq := g.gb.step_lt hq (a := c) (by rw [← g.eL]; omega)
    obtain ⟨i1, i2, i3, i4⟩ := pickB_is g hsp hsq c2
    have e : pickB P D free (k + 1) p q = (c : Int) :: pickB P D free k (step P p c) (step D q c) := by rw [pickB, hc]
    rw [e]
    refine ⟨by simp [i1], fun x hx => ?_, (leadF_cons (fun e => by rw [e] at i1; simp at i1)).2 (by simpa using i3), fun u hu hw hl => ?_⟩
    · rcases List.mem_cons.1 hx with rfl | hx
      · exact ⟨by omega, by omega⟩
      · exact i2 x hx
    · rcases u with _ | ⟨a, u⟩
      · simp at hu
      · have ha := hw a List.mem_cons_self
        have hul : u.length = k + 1 := by simpa using hu
        have hw' : Word P.L u := fun x hx => hw x (List.mem_cons_of_mem _ hx)
        have hl' := (leadF_cons (by rintro rfl; simp at hul)).1 hl
        have hb : lenB P D free k (step P p a.toNat) (step D q a.toNat) = true := (lenB_iff g (g.ga.step_lt hp (by omega)) (g.gb.step_lt hq (by rw [← g.eL]; omega))).2 ⟨u, hul, hw', hl'⟩
        have hge : ¬ a.toNat < c := fun k => by rw [c3 _ k] at hb; cases hb
        rw [lx]
        by_cases e : a = (c : Int)
        · rw [if_pos e]
          subst e
          exact i4 u hul hw' (by simpa using hl')
        · rw [if_neg e]; simp; omega
/-- Some number of letters leads out, none less does: the first word. -/
theorem keptW_pick {P D : Aut} (g : Good2 P D) {free : Int} {k : Nat} (h : lenB P D free k P.s.toNat D.s.toNat = true) (hmin : ∀ j, j < k → lenB P D free j P.s.toNat D.s.toNat = false) : keptW P D free = some (pickB P D free k P.s.toNat D.s.toNat) := by
  obtain ⟨h1, h2, h3, h4⟩ := pickB_is g g.ga.s_lt g.gb.s_lt h
  refine keptW_some.2 ⟨h2, (lead_from g h2).2 h3, fun u hu hl => ?_⟩
  have hF := (lead_from g hu).1 hl
  unfold lss
  by_cases e : u.length = (pickB P D free k P.s.toNat D.s.toNat).length
  · rw [if_pos e]; exact h4 u (by omega) hu hF
  · rw [if_neg e]
    have : ¬ u.length < k + 1 := fun q => by
      obtain ⟨v, a, ev, _⟩ := hl
      have hlen : u.length = v.length + 1 := by rw [ev]; simp
      have hb := (lenB_iff g (k := v.length) g.ga.s_lt g.gb.s_lt).2 ⟨u, hlen, hu, hF⟩
      rw [hmin v.length (by omega)] at hb; cases hb
    rw [h1]; simp; omega
theorem keptW_never {P D : Aut} (g : Good2 P D) {free : Int} (h : ∀ k, lenB P D free k P.s.toNat D.s.toNat = false) : keptW P D free = none := by
  rw [keptW_none, ctl_iff]
  intro u hu hl
  have hF := (lead_from g hu).1 hl
  obtain ⟨v, a, ev, _⟩ := hl
  have hlen : u.length = v.length + 1 := by rw [ev]; simp
  have hb := (lenB_iff g (k := v.length) g.ga.s_lt g.gb.s_lt).2 ⟨u, hlen, hu, hF⟩
  rw [h] at hb; cases hb

/-! ### the pairs that are let -/
abbrev PS := Nat → Nat → Bool
/-- A word stays within a set of pairs. -/
def Stay (P S : Aut) (X : PS) (p q : Nat) (w : List Int) : Prop := ∀ k, k ≤ w.length → X (runA P p (w.take k)) (runA S q (w.take k)) = true
/-- Within the set a word leads to where both are final. -/
def Co (P S : Aut) (X : PS) (p q : Nat) : Prop := ∃ w, Word P.L w ∧ Stay P S X p q w ∧ finA P (runA P p w) = true ∧ finA S (runA S q w) = true
/-- What a round leaves. -/
def Leaves (P S : Aut) (free : Int) (X : PS) (p q : Nat) : Prop := Co P S X p q ∧ ∀ c : Nat, (c : Int) < P.L → has free (c : Int) = true → isAlive P (step P p c) = true → Co P S X (step P p c) (step S q c)
theorem stay_nil {P S : Aut} {X : PS} {p q : Nat} : Stay P S X p q [] ↔ X p q = true := by
  constructor
  · intro h; exact h 0 (Nat.le_refl _)
  · intro h k hk
    obtain rfl : k = 0 := by simpa using hk
    exact h
theorem stay_cons {P S : Aut} {X : PS} {p q : Nat} {a : Int} {w : List Int} : Stay P S X p q (a :: w) ↔ X p q = true ∧ Stay P S X (step P p a.toNat) (step S q a.toNat) w := by
  constructor
  · intro h
    exact ⟨h 0 (by omega), fun k hk => h (k + 1) (by simp; omega)⟩
  · rintro ⟨h1, h2⟩ k hk
    rcases k with _ | k
    · exact h1
    · exact h2 k (by simpa using hk)
theorem stay_end {P S : Aut} {X : PS} {p q : Nat} {w : List Int} (h : Stay P S X p q w) : X (runA P p w) (runA S q w) = true := by
  have := h w.length (Nat.le_refl _)
  rwa [List.take_length] at this
theorem stay_first {P S : Aut} {X : PS} {p q : Nat} {w : List Int} (h : Stay P S X p q w) : X p q = true := h 0 (by omega)
theorem stay_app {P S : Aut} {X : PS} : ∀ (v : List Int) {p q : Nat} {w : List Int}, Stay P S X p q (v ++ w) ↔ Stay P S X p q v ∧ Stay P S X (runA P p v) (runA S q v) w
  | [], p, q, w => ⟨fun h => ⟨stay_nil.2 (stay_first h), h⟩, fun h => h.2⟩
  | a :: v, p, q, w => by
    rw [List.cons_append, stay_cons, stay_cons, stay_app v]
    exact ⟨fun ⟨h1, h2, h3⟩ => ⟨⟨h1, h2⟩, h3⟩, fun ⟨⟨h1, h2⟩, h3⟩ => ⟨h1, h2, h3⟩⟩
theorem co_in {P S : Aut} {X : PS} {p q : Nat} (h : Co P S X p q) : X p q = true := by
  obtain ⟨w, _, hs, _⟩ := h
  exact stay_first hs
/-- By the last step: final, or a letter leads on. -/
theorem co_final {P S : Aut} {X : PS} {p q : Nat} (hx : X p q = true) (h1 : finA P p = true) (h2 : finA S q = true) : Co P S X p q := ⟨[], fun a ha => by simp at ha, stay_nil.2 hx, h1, h2⟩
theorem co_step {P S : Aut} {X : PS} {p q c : Nat} (hx : X p q = true) (hc : (c : Int) < P.L) (h : Co P S X (step P p c) (step S q c)) : Co P S X p q := by
  obtain ⟨w, hw, hs, h1, h2⟩ := h
  refine ⟨(c : Int) :: w, fun x hx => ?_, stay_cons.2 ⟨hx, by simpa using hs⟩, h1, h2⟩
  rcases List.mem_cons.1 hx with rfl | hx
  · exact ⟨by omega, hc⟩
  · exact hw x hx
/-- A set that has the final ones and is closed backwards has all. -/
theorem co_least {P S : Aut} (g : Good2 P S) {X Y : PS} (h1 : ∀ p q, p < P.next.length → q < S.next.length → X p q = true → finA P p = true → finA S q = true → Y p q = true)
    (h2 : ∀ p q (c : Nat), p < P.next.length → q < S.next.length → X p q = true → (c : Int) < P.L → Y (step P p c) (step S q c) = true → Y p q = true) {p q : Nat} (hp : p < P.next.length) (hq : q < S.next.length) (h : Co P S X p q) : Y p q = true := by
  obtain ⟨w, hw, hs, f1, f2⟩ := h
  induction w generalizing p q with
  | nil => exact h1 p q hp hq (stay_first hs) f1 f2
  | cons a w ih =>
    have ha := hw a List.mem_cons_self
    obtain ⟨s1, s2⟩ := stay_cons.1 hs
    exact h2 p q a.toNat hp hq s1 (by omega) (ih (g.ga.step_lt hp (by omega)) (g.gb.step_lt hq (by rw [← g.eL]; omega)) (fun x hx => hw x (List.mem_cons_of_mem _ hx)) s2 f1 f2)
/-- What a set that leaves itself lets. -/
theorem fix_sub {P S : Aut} (g : Good2 P S) {free : Int} {X : PS} (hfix : ∀ p q, p < P.next.length → q < S.next.length → X p q = true → Leaves P S free X p q) {w : List Int} (hw : Word P.L w) (hs : Stay P S X P.s.toNat S.s.toNat w) (h1 : accA P w = true) (h2 : accA S w = true) : sup P S free w := by
  refine sup_most (K := fun u => Word P.L u ∧ Stay P S X P.s.toNat S.s.toNat u ∧ accA P u = true ∧ accA S u = true) ⟨fun u k => ⟨k.1, k.2.2⟩, fun v a hv h0 hL hf hp hq => ?_⟩ ⟨hw, hs, h1, h2⟩
  obtain ⟨x, _, _, hsx, _⟩ := hp
  have hsv := (stay_app v).1 hsx
  have lp := g.ga.run_lt hv g.ga.s_lt
  have lq := g.gb.run_lt (w := v) (by rw [← g.eL]; exact hv) g.gb.s_lt
  obtain ⟨_, hl⟩ := hfix _ _ lp lq (stay_end hsv.1)
  have ea : ((a.toNat : Nat) : Int) = a := Int.toNat_of_nonneg h0
  have hva : Word P.L (v ++ [a]) := word_snoc.2 ⟨hv, h0, hL⟩
  have hal := (preK_alive g.ga rfl hva).1 hq
  rw [runA_append] at hal
  obtain ⟨u, hu, hsu, f1, f2⟩ := hl a.toNat (by omega) (by rw [ea]; exact hf) hal
  refine ⟨u, hu, word_append hva hu, ?_, ?_, ?_⟩
  · rw [List.append_assoc, stay_app]
    refine ⟨hsv.1, ?_⟩
    show Stay P S X _ _ (a :: u)
    exact stay_cons.2 ⟨stay_end hsv.1, hsu⟩
  · unfold accA
    rw [runA_append, runA_append]; exact f1
  · unfold accA
    rw [runA_append, runA_append]; exact f2
/-- Whatever is kept stays within what a round leaves. -/
theorem keep_round {P S : Aut} (g : Good2 P S) {free : Int} {K : List Int → Prop} (hK : Sub P S free K) {X : PS} (hX : ∀ v, Word P.L v → PreK P.L K v → X (runA P P.s.toNat v) (runA S S.s.toNat v) = true) {v : List Int} (hv : Word P.L v) (hp : PreK P.L K v) : Leaves P S free X (runA P P.s.toNat v) (runA S S.s.toNat v) := by
  have hco : ∀ v, Word P.L v → PreK P.L K v → Co P S X (runA P P.s.toNat v) (runA S S.s.toNat v) := fun v hv ⟨u, hu, hk⟩ => by
    obtain ⟨_, a1, a2⟩ := hK.within _ hk
    refine ⟨u, hu, fun k hk' => ?_, ?_, ?_⟩
    · rw [← runA_append, ← runA_append]
      refine hX _ (word_append hv (word_take hu k)) ⟨u.drop k, word_drop hu k, ?_⟩
      rw [List.append_assoc, List.take_append_drop]; exact hk
    · rw [← runA_append]; exact a1
    · rw [← runA_append]; exact a2
  refine ⟨hco v hv hp, fun c hc hf hal => ?_⟩
  have hva : Word P.L (v ++ [(c : Int)]) := word_snoc.2 ⟨hv, by omega, hc⟩
  have e1 : runA P P.s.toNat (v ++ [(c : Int)]) = step P (runA P P.s.toNat v) c := by rw [runA_append]; rfl
  have e2 : runA S S.s.toNat (v ++ [(c : Int)]) = step S (runA S S.s.toNat v) c := by rw [runA_append]; rfl
  have := hco _ hva (hK.ctl v c hv (by omega) hc hf hp ((preK_alive g.ga rfl hva).2 (by rw [e1]; exact hal)))
  rwa [e1, e2] at this
/-- The rounds: each leaves just what it should; in the end nothing changes. -/
def Round (P S : Aut) (free : Int) (X Y : PS) : Prop := ∀ p q, p < P.next.length → q < S.next.length → (Y p q = true ↔ Leaves P S free X p q)
inductive Rounds (P S : Aut) (free : Int) : PS → Prop
  | all {X : PS} : (∀ p q, p < P.next.length → q < S.next.length → X p q = true) → Rounds P S free X
  | round {X Y : PS} : Rounds P S free X → Round P S free X Y → Rounds P S free Y
theorem rounds_keep {P S : Aut} (g : Good2 P S) {free : Int} {X : PS} (h : Rounds P S free X) {K : List Int → Prop} (hK : Sub P S free K) : ∀ v, Word P.L v → PreK P.L K v → X (runA P P.s.toNat v) (runA S S.s.toNat v) = true := by
  induction h with
  | all hX => exact fun v hv _ => hX _ _ (g.ga.run_lt hv g.ga.s_lt) (g.gb.run_lt (by rw [← g.eL]; exact hv) g.gb.s_lt)
  | round _ hR ih => exact fun v hv hp => (hR _ _ (g.ga.run_lt hv g.ga.s_lt) (g.gb.run_lt (by rw [← g.eL]; exact hv) g.gb.s_lt)).2 (keep_round g hK ih hv hp)
theorem rounds_end {P S : Aut} (g : Good2 P S) {free : Int} {X : PS} (h : Rounds P S free X) (hR : Round P S free X X) {w : List Int} (hw : Word P.L w) : sup P S free w ↔ Stay P S X P.s.toNat S.s.toNat w ∧ accA P w = true ∧ accA S w = true := by
  constructor
  · rintro ⟨K, hK, hk⟩
    obtain ⟨_, a1, a2⟩ := hK.within w hk
    refine ⟨fun k _ => rounds_keep g h hK _ (word_take hw k) ⟨w.drop k, word_drop hw k, by rw [List.take_append_drop]; exact hk⟩, a1, a2⟩
  · rintro ⟨hs, h1, h2⟩
    exact fix_sub g (fun p q hp hq hx => (hR p q hp hq).1 hx) hw hs h1 h2
/-- Nothing is let just if the first pair is not. -/
theorem rounds_none {P S : Aut} (g : Good2 P S) {free : Int} {X : PS} (h : Rounds P S free X) (hR : Round P S free X X) : X P.s.toNat S.s.toNat = false ↔ ∀ w, Word P.L w → ¬ sup P S free w := by
  constructor
  · intro hx w hw hs
    have := stay_first ((rounds_end g h hR hw).1 hs).1
    rw [hx] at this; cases this
  · intro hn
    rcases hx : X P.s.toNat S.s.toNat with _ | _
    · rfl
    · obtain ⟨⟨w, hw, hs, f1, f2⟩, _⟩ := (hR _ _ g.ga.s_lt g.gb.s_lt).1 hx
      exact absurd ((rounds_end g h hR hw).2 ⟨hs, f1, f2⟩) (hn w hw)
/-- A round takes away only. -/
theorem round_less {P S : Aut} {free : Int} {X Y : PS} (hR : Round P S free X Y) {p q : Nat} (hp : p < P.next.length) (hq : q < S.next.length) (h : Y p q = true) : X p q = true := co_in ((hR p q hp hq).1 h).1
end Go.Proofs.YtbciefeipiphiaaDoor.Su
