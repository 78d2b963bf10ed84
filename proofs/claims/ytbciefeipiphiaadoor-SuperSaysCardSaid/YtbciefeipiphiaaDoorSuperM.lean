/- Plain mathematics: the least number, the first word, of those that something holds of. Plain mathematics of package super: what is kept, the most that can be kept, by words and by pairs of states; the first word that leads out. Plain mathematics of package super's Make: states of the product that are shut, pass by pass. Plain mathematics of the table that says by how many letters a pair of states is led out: its levels, its rounds, the word that is read off it. Plain mathematics of a round of the document's super: passes over all pairs till nothing is added, then the pairs that stay. -/
import Derived.Test.YtbciefeipiphiaaDoorDfaM
import Derived.Test.YtbciefeipiphiaaDoorSafeM

namespace Go.Proofs.YtbciefeipiphiaaDoor.Me
open Go.Proofs.YtbciefeipiphiaaDoor.Df Go.Proofs.YtbciefeipiphiaaDoor.Wo Go.Proofs.YtbciefeipiphiaaDoor.Rc

theorem nat_min {P : Nat → Prop} (h : ∃ n, P n) : ∃ n, P n ∧ ∀ m, m < n → ¬ P m := by
  obtain ⟨n, hn⟩ := h
  induction n using Nat.strongRecOn with
  | ind n ih =>
    by_cases h : ∃ m, m < n ∧ P m
    · obtain ⟨m, hm, hp⟩ := h
      exact ih m hm hp
    · exact ⟨n, hn, fun m hm hp => h ⟨m, hm, hp⟩⟩
theorem lx_least {L : Int} : ∀ (k : Nat) (P : List Int → Prop), (∃ v, v.length = k ∧ Word L v ∧ P v) → ∃ v, v.length = k ∧ Word L v ∧ P v ∧ ∀ u, u.length = k → Word L u → P u → lx u v = false
  | 0, P, ⟨v, hv, hw, hp⟩ => ⟨v, hv, hw, hp, fun u hu _ _ => by
      obtain rfl := List.length_eq_zero_iff.1 hu
      unfold lx; rfl⟩
  | k + 1, P, ⟨v, hv, hw, hp⟩ => by
    have hex : ∃ n : Nat, (n : Int) < L ∧ ∃ v', v'.length = k ∧ Word L v' ∧ P ((n : Int) :: v') := by
      rcases v with _ | ⟨a, v⟩
      · simp at hv
      · have ha := hw a List.mem_cons_self
        obtain ⟨n, rfl⟩ := Int.eq_ofNat_of_zero_le ha.1
        exact ⟨n, ha.2, v, by simpa using hv, fun x hx => hw x (List.mem_cons_of_mem _ hx), hp⟩
    obtain ⟨n, ⟨hn, hv2⟩, hmin⟩ := nat_min hex
    obtain ⟨v', h1, h2, h3, h4⟩ := lx_least k (fun v' => P ((n : Int) :: v')) hv2
    refine ⟨(n : Int) :: v', by simp [h1], fun x hx => ?_, h3, fun u hu hw hp => ?_⟩
    · rcases List.mem_cons.1 hx with rfl | hx
      · exact ⟨by omega, hn⟩
      · exact h2 x hx
    · rcases u with _ | ⟨b, u⟩
      · simp at hu
      · have hb := hw b List.mem_cons_self
        have hu' : Word L u := fun x hx => hw x (List.mem_cons_of_mem _ hx)
        obtain ⟨m, rfl⟩ := Int.eq_ofNat_of_zero_le hb.1
        have hge : ¬ m < n := fun h => hmin m h ⟨hb.2, u, by simpa using hu, hu', hp⟩
        rw [lx]
        by_cases e : (m : Int) = (n : Int)
        · rw [if_pos e]
          rw [e] at hp
          exact h4 u (by simpa using hu) hu' hp
        · rw [if_neg e]; simp; omega
theorem least_word {L : Int} {P : List Int → Prop} (h : ∃ v, Word L v ∧ P v) : ∃ v, Word L v ∧ P v ∧ ∀ u, Word L u → P u → lss u v = false := by
  obtain ⟨v, hw, hp⟩ := h
  obtain ⟨k, ⟨v2, hk, hw2, hp2⟩, hmin⟩ := nat_min (P := fun k => ∃ v, v.length = k ∧ Word L v ∧ P v) ⟨_, v, rfl, hw, hp⟩
  obtain ⟨u, h1, h2, h3, h4⟩ := lx_least k P ⟨v2, hk, hw2, hp2⟩
  refine ⟨u, h2, h3, fun x hx hpx => ?_⟩
  unfold lss
  by_cases e : x.length = u.length
  · rw [if_pos e]; exact h4 x (by omega) hx hpx
  · rw [if_neg e]
    have : ¬ x.length < k := fun h => hmin _ h ⟨x, rfl, hx, hpx⟩
    simp; omega
end Go.Proofs.YtbciefeipiphiaaDoor.Me

namespace Go.Proofs.YtbciefeipiphiaaDoor.Su
open Go.Proofs.YtbciefeipiphiaaDoor.Df Go.Proofs.YtbciefeipiphiaaDoor.Wo Go.Proofs.YtbciefeipiphiaaDoor.Rc Go.Proofs.YtbciefeipiphiaaDoor.Sm Go.Proofs.YtbciefeipiphiaaDoor.Sa Go.Proofs.YtbciefeipiphiaaDoor.Me

/-! ### by words -/
/-- The beginnings of what K holds of. -/
def PreK (L : Int) (K : List Int → Prop) (v : List Int) : Prop := ∃ u, Word L u ∧ K (v ++ u)
def accP (d : Aut) : List Int → Prop := fun w => accA d w = true
/-- No free letter leads out, where the plant can do it. -/
def Ctl (P : Aut) (free : Int) (K : List Int → Prop) : Prop := ∀ v a, Word P.L v → 0 ≤ a → a < P.L → has free a = true → PreK P.L K v → PreK P.L (accP P) (v ++ [a]) → PreK P.L K (v ++ [a])
structure Sub (P S : Aut) (free : Int) (K : List Int → Prop) : Prop where
  within : ∀ w, K w → Word P.L w ∧ accA P w = true ∧ accA S w = true
  ctl : Ctl P free K
/-- The most that can be kept. -/
def sup (P S : Aut) (free : Int) (w : List Int) : Prop := ∃ K, Sub P S free K ∧ K w
theorem word_snoc {L a : Int} {v : List Int} : Word L (v ++ [a]) ↔ Word L v ∧ 0 ≤ a ∧ a < L := by
  constructor
  · intro h
    exact ⟨fun x hx => h x (List.mem_append_left _ hx), h a (by simp)⟩
  · rintro ⟨h, ha⟩ x hx
    rcases List.mem_append.1 hx with hx | hx
    · exact h x hx
    · simp at hx; subst hx; exact ha
theorem sup_sub (P S : Aut) (free : Int) : Sub P S free (sup P S free) := by
  refine ⟨fun w ⟨K, hK, hw⟩ => hK.within w hw, fun v a hv h0 h1 hf hp hq => ?_⟩
  obtain ⟨u, hu, K, hK, hw⟩ := hp
  obtain ⟨x, hx, hxw⟩ := hK.ctl v a hv h0 h1 hf ⟨u, hu, hw⟩ hq
  exact ⟨x, hx, K, hK, hxw⟩
theorem sup_most {P S : Aut} {free : Int} {K : List Int → Prop} (h : Sub P S free K) {w : List Int} (hw : K w) : sup P S free w := ⟨K, h, hw⟩
theorem preK_congr {L : Int} {K M : List Int → Prop} (h : ∀ w, Word L w → (K w ↔ M w)) {v : List Int} (hv : Word L v) : PreK L K v ↔ PreK L M v :=
  ⟨fun ⟨u, hu, hk⟩ => ⟨u, hu, (h _ (word_append hv hu)).1 hk⟩, fun ⟨u, hu, hk⟩ => ⟨u, hu, (h _ (word_append hv hu)).2 hk⟩⟩
theorem ctl_congr {P : Aut} {free : Int} {K M : List Int → Prop} (h : ∀ w, Word P.L w → (K w ↔ M w)) (hc : Ctl P free K) : Ctl P free M := fun v a hv h0 h1 hf hp hq => by
  have hva : Word P.L (v ++ [a]) := word_snoc.2 ⟨hv, h0, h1⟩
  exact (preK_congr h hva).1 (hc v a hv h0 h1 hf ((preK_congr h hv).2 hp) hq)
/-- An automaton that accepts just the most that is kept. -/
def IsSup (P S D : Aut) (free : Int) : Prop := ∀ w, Word P.L w → (accA D w = true ↔ sup P S free w)
theorem isSup_ctl {P S D : Aut} {free : Int} (h : IsSup P S D free) : Ctl P free (accP D) := ctl_congr (fun w hw => (h w hw).symm) (sup_sub P S free).ctl
theorem isSup_within {P S D : Aut} {free : Int} (h : IsSup P S D free) {w : List Int} (hw : Word P.L w) (ha : accA D w = true) : accA P w = true ∧ accA S w = true := ((sup_sub P S free).within w ((h w hw).1 ha)).2
/-- A word that leads out. -/
def Lead (P D : Aut) (free : Int) (w : List Int) : Prop := ∃ v a, w = v ++ [a] ∧ has free a = true ∧ PreK P.L (accP P) w ∧ PreK P.L (accP D) v ∧ ¬ PreK P.L (accP D) w
theorem ctl_iff {P D : Aut} {free : Int} : Ctl P free (accP D) ↔ ∀ w, Word P.L w → ¬ Lead P D free w := by
  constructor
  · rintro h w hw ⟨v, a, rfl, h1, h2, h3, h4⟩
    obtain ⟨hv, h0, hL⟩ := word_snoc.1 hw
    exact h4 (h v a hv h0 hL h1 h3 h2)
  · intro h v a hv h0 h1 hf hp hq
    rcases Classical.em (PreK P.L (accP D) (v ++ [a])) with k | k
    · exact k
    · exact absurd ⟨v, a, rfl, hf, hq, hp, k⟩ (h (v ++ [a]) (word_snoc.2 ⟨hv, h0, h1⟩))
/-- The first one. -/
noncomputable def keptW (P D : Aut) (free : Int) : Option (List Int) := @dite _ (∃ v, Word P.L v ∧ Lead P D free v) (Classical.propDecidable _) (fun h => some (least_word h).choose) (fun _ => none)
theorem keptW_none {P D : Aut} {free : Int} : keptW P D free = none ↔ Ctl P free (accP D) := by
  rw [ctl_iff]
  unfold keptW
  by_cases h : ∃ v, Word P.L v ∧ Lead P D free v
  · rw [dif_pos h]
    obtain ⟨v, h1, h2⟩ := h
    exact ⟨fun e => (by cases e), fun k => absurd h2 (k v h1)⟩
  · rw [dif_neg h]
    exact ⟨fun _ w hw hl => h ⟨w, hw, hl⟩, fun _ => rfl⟩
theorem keptW_some {P D : Aut} {free : Int} {w : List Int} : keptW P D free = some w ↔ Word P.L w ∧ Lead P D free w ∧ ∀ u, Word P.L u → Lead P D free u → lss u w = false := by
  unfold keptW
  by_cases h : ∃ v, Word P.L v ∧ Lead P D free v
  · rw [dif_pos h]
    have hs := (least_word h).choose_spec
    constructor
    · intro e
      obtain rfl := Option.some.inj e
      exact hs
    · rintro ⟨k1, k2, k3⟩
      rw [lss_total (k3 _ hs.1 hs.2.1) (hs.2.2 w k1 k2)]
  · rw [dif_neg h]
    exact ⟨fun e => (by cases e), fun k => absurd ⟨w, k.1, k.2.1⟩ h⟩

/-! ### by pairs of states -/
theorem preK_alive {P d : Aut} (g : Good d) (hL : P.L = d.L) {v : List Int} (hv : Word P.L v) : PreK P.L (accP d) v ↔ isAlive d (runA d d.s.toNat v) = true := by
  rw [hL] at hv
  rw [alive_word g hv, hL]; rfl
/-- A word that leads out, from a pair on. -/
def LeadF (P D : Aut) (free : Int) (p q : Nat) (w : List Int) : Prop := ∃ v a, w = v ++ [a] ∧ has free a = true ∧ isAlive P (runA P p w) = true ∧ isAlive D (runA D q v) = true ∧ isAlive D (runA D q w) = false
theorem lead_from {P D : Aut} (g : Good2 P D) {free : Int} {w : List Int} (hw : Word P.L w) : Lead P D free w ↔ LeadF P D free P.s.toNat D.s.toNat w := by
  unfold Lead LeadF
  constructor
  · rintro ⟨v, a, rfl, h1, h2, h3, h4⟩
    have hv := (word_snoc.1 hw).1
    refine ⟨v, a, rfl, h1, (preK_alive g.ga rfl hw).1 h2, (preK_alive g.gb g.eL hv).1 h3, ?_⟩
    rcases e : isAlive D (runA D D.s.toNat (v ++ [a])) with _ | _
    · rfl
    · exact absurd ((preK_alive g.gb g.eL hw).2 e) h4
  · rintro ⟨v, a, rfl, h1, h2, h3, h4⟩
    have hv := (word_snoc.1 hw).1
    refine ⟨v, a, rfl, h1, (preK_alive g.ga rfl hw).2 h2, (preK_alive g.gb g.eL hv).2 h3, fun k => ?_⟩
    rw [(preK_alive g.gb g.eL hw).1 k] at h4; cases h4
/-- A free letter leads out of a pair. -/
def badC (P D : Aut) (free : Int) (p q c : Nat) : Bool := has free (c : Int) && isAlive P (step P p c) && !isAlive D (step D q c)
def live2 (P D : Aut) (p q : Nat) : Bool := isAlive P p && isAlive D q
/-- Does a word of k + 1 letters lead out? -/
def lenB (P D : Aut) (free : Int) : Nat → Nat → Nat → Bool
  | 0, p, q => live2 P D p q && (List.range P.L.toNat).any (badC P D free p q)
  | k + 1, p, q => live2 P D p q && (List.range P.L.toNat).any fun c => lenB P D free k (step P p c) (step D q c)
theorem alive_step {d : Aut} (g : Good d) {p c : Nat} (hp : p < d.next.length) (hc : (c : Int) < d.L) (h : isAlive d (step d p c) = true) : isAlive d p = true := by
  obtain ⟨u, hu, hf⟩ := (isAlive_iff g (g.step_lt hp hc)).1 h
  exact (isAlive_iff g hp).2 ⟨(c : Int) :: u, fun x hx => by
    rcases List.mem_cons.1 hx with rfl | hx
    · exact ⟨by omega, hc⟩
    · exact hu x hx, hf⟩
theorem alive_run {d : Aut} (g : Good d) : ∀ (w : List Int) {p : Nat}, Word d.L w → p < d.next.length → isAlive d (runA d p w) = true → isAlive d p = true
  | [], _, _, _, h => h
  | a :: w, p, hw, hp, h => by
    have ha := hw a List.mem_cons_self
    have hs := g.step_lt hp (a := a.toNat) (by omega)
    exact alive_step g hp (by omega) (alive_run g w (fun x hx => hw x (List.mem_cons_of_mem _ hx)) hs h)
theorem leadF_one {P D : Aut} {free : Int} {p q : Nat} {a : Int} (h0 : 0 ≤ a) : LeadF P D free p q [a] ↔ isAlive D q = true ∧ badC P D free p q a.toNat = true := by
  have ea : ((a.toNat : Nat) : Int) = a := Int.toNat_of_nonneg h0
  unfold LeadF badC
  constructor
  · rintro ⟨v, b, e, h1, h2, h3, h4⟩
    rcases v with _ | ⟨x, v⟩
    · simp only [List.nil_append, List.cons.injEq, and_true] at e
      subst e
      refine ⟨h3, ?_⟩
      rw [ea, h1]
      have h2 : isAlive P (step P p a.toNat) = true := h2
      have h4 : isAlive D (step D q a.toNat) = false := h4
      rw [h2, h4]; rfl
    · simp at e
  · rintro ⟨h1, h2⟩
    rw [ea, Bool.and_eq_true, Bool.and_eq_true] at h2
    have h3 : isAlive D (step D q a.toNat) = false := by simpa using h2.2
    exact ⟨[], a, rfl, h2.1.1, h2.1.2, h1, h3⟩
theorem leadF_cons {P D : Aut} {free : Int} {p q : Nat} {a : Int} {w : List Int} (hw : w ≠ []) : LeadF P D free p q (a :: w) ↔ LeadF P D free (step P p a.toNat) (step D q a.toNat) w := by
  unfold LeadF
  constructor
  · rintro ⟨v, b, e, h1, h2, h3, h4⟩
    rcases v with _ | ⟨x, v⟩
    · simp only [List.nil_append, List.cons.injEq] at e
      exact absurd e.2 hw
    · simp only [List.cons_append, List.cons.injEq] at e
      obtain ⟨rfl, rfl⟩ := e
      exact ⟨v, b, rfl, h1, h2, h3, h4⟩
  · rintro ⟨v, b, rfl, h1, h2, h3, h4⟩
    exact ⟨a :: v, b, rfl, h1, h2, h3, h4⟩
theorem leadF_live {P D : Aut} (g : Good2 P D) {free : Int} {p q : Nat} (hp : p < P.next.length) (hq : q < D.next.length) {w : List Int} (hw : Word P.L w) (h : LeadF P D free p q w) : live2 P D p q = true := by
  obtain ⟨v, a, rfl, _, h2, h3, _⟩ := h
  have hv := (word_snoc.1 hw).1
  unfold live2
  rw [alive_run g.ga _ hw hp h2, alive_run g.gb v (by rw [← g.eL]; exact hv) hq h3]; rfl
theorem lenB_iff {P D : Aut} (g : Good2 P D) {free : Int} : ∀ {k p q : Nat}, p < P.next.length → q < D.next.length → (lenB P D free k p q = true ↔ ∃ w, w.length = k + 1 ∧ Word P.L w ∧ LeadF P D free p q w)
  | 0, p, q, hp, hq => by
    rw [lenB, Bool.and_eq_true]
    constructor
    · rintro ⟨h1, h2⟩
      obtain ⟨c, hc, hb⟩ := List.any_eq_true.1 h2
      have hc := List.mem_range.1 hc
      unfold live2 at h1
      rw [Bool.and_eq_true] at h1
      exact ⟨[(c : Int)], rfl, fun x hx => by simp at hx; subst hx; exact ⟨by omega, by omega⟩, (leadF_one (by omega)).2 ⟨h1.2, by simpa using hb⟩⟩
    · rintro ⟨w, hl, hw, h⟩
      refine ⟨leadF_live g hp hq hw h, ?_⟩
      rcases w with _ | ⟨a, w⟩
      · simp at hl
      · obtain rfl : w = [] := List.length_eq_zero_iff.1 (by simpa using hl)
        have ha := hw a List.mem_cons_self
        exact List.any_eq_true.2 ⟨a.toNat, List.mem_range.2 (by omega), ((leadF_one ha.1).1 h).2⟩
  | k + 1, p, q, hp, hq => by
    rw [lenB, Bool.and_eq_true]
    constructor
    · rintro ⟨h1, h2⟩
      obtain ⟨c, hc, hb⟩ := List.any_eq_true.1 h2
      have hc := List.mem_range.1 hc
      obtain ⟨w, hl, hw, h⟩ := (lenB_iff g (g.ga.step_lt hp (by omega)) (g.gb.step_lt hq (by rw [← g.eL]; omega))).1 hb
      refine ⟨(c : Int) :: w, by simp [hl], fun x hx => ?_, (leadF_cons (by rintro rfl; simp at hl)).2 (by simpa using h)⟩
      rcases List.mem_cons.1 hx with rfl | hx
      · exact ⟨by omega, by omega⟩
      · exact hw x hx
    · rintro ⟨w, hl, hw, h⟩
      refine ⟨leadF_live g hp hq hw h, ?_⟩
      rcases w with _ | ⟨a, w⟩
      · simp at hl
      · have ha := hw a List.mem_cons_self
        have hl : w.length = k + 1 := by simpa using hl
        refine List.any_eq_true.2 ⟨a.toNat, List.mem_range.2 (by omega), (lenB_iff g (g.ga.step_lt hp (by omega)) (g.gb.step_lt hq (by rw [← g.eL]; omega))).2 ⟨w, hl, fun x hx => hw x (List.mem_cons_of_mem _ hx), ?_⟩⟩
        exact (leadF_cons (by rintro rfl; simp at hl)).1 h
/-- The first of the words of k + 1 letters that lead out. -/
def pickB (P D : Aut) (free : Int) : Nat → Nat → Nat → List Int
  | 0, p, q => match least P.L.toNat (badC P D free p q) with
    | none => []
    | some c => [(c : Int)]
  | k + 1, p, q => match least P.L.toNat (fun c => lenB P D free k (step P p c) (step D q c)) with
    | none => []
    | some c => (c : Int) :: pickB P D free k (step P p c) (step D q c)
theorem least_any {n : Nat} {b : Nat → Bool} (h : (List.range n).any b = true) : ∃ c, least n b = some c := by
  rcases e : least n b with _ | c
  · obtain ⟨c, hc, hb⟩ := List.any_eq_true.1 h
    rw [least_none e (List.mem_range.1 hc)] at hb; cases hb
  · exact ⟨c, rfl⟩
theorem pickB_is {P D : Aut} (g : Good2 P D) {free : Int} : ∀ {k p q : Nat}, p < P.next.length → q < D.next.length → lenB P D free k p q = true →
    (pickB P D free k p q).length = k + 1 ∧ Word P.L (pickB P D free k p q) ∧ LeadF P D free p q (pickB P D free k p q) ∧ ∀ u, u.length = k + 1 → Word P.L u → LeadF P D free p q u → lx u (pickB P D free k p q) = false
  | 0, p, q, hp, hq, h => by
    rw [lenB, Bool.and_eq_true] at h
    obtain ⟨h1, h2⟩ := h
    obtain ⟨c, hc⟩ := least_any h2
    obtain ⟨c1, c2, c3⟩ := least_some hc
    have e : pickB P D free 0 p q = [(c : Int)] := by rw [pickB, hc]
    unfold live2 at h1
    rw [Bool.and_eq_true] at h1
    rw [e]
    refine ⟨rfl, fun x hx => by simp at hx; subst hx; exact ⟨by omega, by omega⟩, (leadF_one (by omega)).2 ⟨h1.2, by simpa using c2⟩, fun u hu hw hl => ?_⟩
    rcases u with _ | ⟨a, u⟩
    · simp at hu
    · obtain rfl : u = [] := List.length_eq_zero_iff.1 (by simpa using hu)
      have ha := hw a List.mem_cons_self
      have hb := ((leadF_one ha.1).1 hl).2
      have hge : ¬ a.toNat < c := fun k => by rw [c3 _ k] at hb; cases hb
      rw [lx]
      by_cases e : a = (c : Int)
      · rw [if_pos e, lx]
        intro _ _ _ _ h
        cases h
      · rw [if_neg e]; simp; omega
  | k + 1, p, q, hp, hq, h => by
    rw [lenB, Bool.and_eq_true] at h
    obtain ⟨_, h2⟩ := h
    obtain ⟨c, hc⟩ := least_any h2
    obtain ⟨c1, c2, c3⟩ := least_some hc
    have hsp := g.ga.step_lt hp (a := c) (by omega)
    have hsq := g.gb.step_lt hq (a := c) (by rw [← g.eL]; omega)
    obtain ⟨i1, i2, i3, i4⟩ := pickB_is g hsp hsq c2
    have e : pickB P D free (k + 1) p q = (c : Int) :: pickB P D free k (step P p c) (step D q c) := by rw [pickB, hc]
    rw [e]
    refine ⟨by simp [i1], fun x hx => ?_, (leadF_cons (fun e => by rw [e] at i1; simp at i1)).2 (by simpa using i3), fun u hu hw hl => ?_⟩
    · rcases List.mem_cons.1 hx with rfl | hx
      · exact ⟨by omega, by omega⟩
      · exact i2 x hx
    · rcases u with _ | ⟨a, u⟩
      · simp at hu
      · have ha := hw a List.mem_cons_self
        have hul : u.length = k + 1 := by simpa using hu
        have hw' : Word P.L u := fun x hx => hw x (List.mem_cons_of_mem _ hx)
        have hl' := (leadF_cons (by rintro rfl; simp at hul)).1 hl
        have hb : lenB P D free k (step P p a.toNat) (step D q a.toNat) = true := (lenB_iff g (g.ga.step_lt hp (by omega)) (g.gb.step_lt hq (by rw [← g.eL]; omega))).2 ⟨u, hul, hw', hl'⟩
        have hge : ¬ a.toNat < c := fun k => by rw [c3 _ k] at hb; cases hb
        rw [lx]
        by_cases e : a = (c : Int)
        · rw [if_pos e]
          subst e
          exact i4 u hul hw' (by simpa using hl')
        · rw [if_neg e]; simp; omega
/-- Some number of letters leads out, none less does: the first word. -/
theorem keptW_pick {P D : Aut} (g : Good2 P D) {free : Int} {k : Nat} (h : lenB P D free k P.s.toNat D.s.toNat = true) (hmin : ∀ j, j < k → lenB P D free j P.s.toNat D.s.toNat = false) : keptW P D free = some (pickB P D free k P.s.toNat D.s.toNat) := by
  obtain ⟨h1, h2, h3, h4⟩ := pickB_is g g.ga.s_lt g.gb.s_lt h
  refine keptW_some.2 ⟨h2, (lead_from g h2).2 h3, fun u hu hl => ?_⟩
  have hF := (lead_from g hu).1 hl
  unfold lss
  by_cases e : u.length = (pickB P D free k P.s.toNat D.s.toNat).length
  · rw [if_pos e]; exact h4 u (by omega) hu hF
  · rw [if_neg e]
    have : ¬ u.length < k + 1 := fun q => by
      obtain ⟨v, a, ev, _⟩ := hl
      have hlen : u.length = v.length + 1 := by rw [ev]; simp
      have hb := (lenB_iff g (k := v.length) g.ga.s_lt g.gb.s_lt).2 ⟨u, hlen, hu, hF⟩
      rw [hmin v.length (by omega)] at hb; cases hb
    rw [h1]; simp; omega
theorem keptW_never {P D : Aut} (g : Good2 P D) {free : Int} (h : ∀ k, lenB P D free k P.s.toNat D.s.toNat = false) : keptW P D free = none := by
  rw [keptW_none, ctl_iff]
  intro u hu hl
  have hF := (lead_from g hu).1 hl
  obtain ⟨v, a, ev, _⟩ := hl
  have hlen : u.length = v.length + 1 := by rw [ev]; simp
  have hb := (lenB_iff g (k := v.length) g.ga.s_lt g.gb.s_lt).2 ⟨u, hlen, hu, hF⟩
  rw [h] at hb; cases hb

/-! ### the pairs that are let -/
abbrev PS := Nat → Nat → Bool
/-- A word stays within a set of pairs. -/
def Stay (P S : Aut) (X : PS) (p q : Nat) (w : List Int) : Prop := ∀ k, k ≤ w.length → X (runA P p (w.take k)) (runA S q (w.take k)) = true
/-- Within the set a word leads to where both are final. -/
def Co (P S : Aut) (X : PS) (p q : Nat) : Prop := ∃ w, Word P.L w ∧ Stay P S X p q w ∧ finA P (runA P p w) = true ∧ finA S (runA S q w) = true
/-- What a round leaves. -/
def Leaves (P S : Aut) (free : Int) (X : PS) (p q : Nat) : Prop := Co P S X p q ∧ ∀ c : Nat, (c : Int) < P.L → has free (c : Int) = true → isAlive P (step P p c) = true → Co P S X (step P p c) (step S q c)
theorem stay_nil {P S : Aut} {X : PS} {p q : Nat} : Stay P S X p q [] ↔ X p q = true := by
  constructor
  · intro h; exact h 0 (Nat.le_refl _)
  · intro h k hk
    obtain rfl : k = 0 := by simpa using hk
    exact h
theorem stay_cons {P S : Aut} {X : PS} {p q : Nat} {a : Int} {w : List Int} : Stay P S X p q (a :: w) ↔ X p q = true ∧ Stay P S X (step P p a.toNat) (step S q a.toNat) w := by
  constructor
  · intro h
    exact ⟨h 0 (by omega), fun k hk => h (k + 1) (by simp; omega)⟩
  · rintro ⟨h1, h2⟩ k hk
    rcases k with _ | k
    · exact h1
    · exact h2 k (by simpa using hk)
theorem stay_end {P S : Aut} {X : PS} {p q : Nat} {w : List Int} (h : Stay P S X p q w) : X (runA P p w) (runA S q w) = true := by
  have := h w.length (Nat.le_refl _)
  rwa [List.take_length] at this
theorem stay_first {P S : Aut} {X : PS} {p q : Nat} {w : List Int} (h : Stay P S X p q w) : X p q = true := h 0 (by omega)
theorem stay_app {P S : Aut} {X : PS} : ∀ (v : List Int) {p q : Nat} {w : List Int}, Stay P S X p q (v ++ w) ↔ Stay P S X p q v ∧ Stay P S X (runA P p v) (runA S q v) w
  | [], p, q, w => ⟨fun h => ⟨stay_nil.2 (stay_first h), h⟩, fun h => h.2⟩
  | a :: v, p, q, w => by
    rw [List.cons_append, stay_cons, stay_cons, stay_app v]
    exact ⟨fun ⟨h1, h2, h3⟩ => ⟨⟨h1, h2⟩, h3⟩, fun ⟨⟨h1, h2⟩, h3⟩ => ⟨h1, h2, h3⟩⟩
theorem co_in {P S : Aut} {X : PS} {p q : Nat} (h : Co P S X p q) : X p q = true := by
  obtain ⟨w, _, hs, _⟩ := h
  exact stay_first hs
/-- By the last step: final, or a letter leads on. -/
theorem co_final {P S : Aut} {X : PS} {p q : Nat} (hx : X p q = true) (h1 : finA P p = true) (h2 : finA S q = true) : Co P S X p q := ⟨[], fun a ha => by simp at ha, stay_nil.2 hx, h1, h2⟩
theorem co_step {P S : Aut} {X : PS} {p q c : Nat} (hx : X p q = true) (hc : (c : Int) < P.L) (h : Co P S X (step P p c) (step S q c)) : Co P S X p q := by
  obtain ⟨w, hw, hs, h1, h2⟩ := h
  refine ⟨(c : Int) :: w, fun x hx => ?_, stay_cons.2 ⟨hx, by simpa using hs⟩, h1, h2⟩
  rcases List.mem_cons.1 hx with rfl | hx
  · exact ⟨by omega, hc⟩
  · exact hw x hx
/-- A set that has the final ones and is closed backwards has all. -/
theorem co_least {P S : Aut} (g : Good2 P S) {X Y : PS} (h1 : ∀ p q, p < P.next.length → q < S.next.length → X p q = true → finA P p = true → finA S q = true → Y p q = true)
    (h2 : ∀ p q (c : Nat), p < P.next.length → q < S.next.length → X p q = true → (c : Int) < P.L → Y (step P p c) (step S q c) = true → Y p q = true) {p q : Nat} (hp : p < P.next.length) (hq : q < S.next.length) (h : Co P S X p q) : Y p q = true := by
  obtain ⟨w, hw, hs, f1, f2⟩ := h
  induction w generalizing p q with
  | nil => exact h1 p q hp hq (stay_first hs) f1 f2
  | cons a w ih =>
    have ha := hw a List.mem_cons_self
    obtain ⟨s1, s2⟩ := stay_cons.1 hs
    exact h2 p q a.toNat hp hq s1 (by omega) (ih (g.ga.step_lt hp (by omega)) (g.gb.step_lt hq (by rw [← g.eL]; omega)) (fun x hx => hw x (List.mem_cons_of_mem _ hx)) s2 f1 f2)
/-- What a set that leaves itself lets. -/
theorem fix_sub {P S : Aut} (g : Good2 P S) {free : Int} {X : PS} (hfix : ∀ p q, p < P.next.length → q < S.next.length → X p q = true → Leaves P S free X p q) {w : List Int} (hw : Word P.L w) (hs : Stay P S X P.s.toNat S.s.toNat w) (h1 : accA P w = true) (h2 : accA S w = true) : sup P S free w := by
  refine sup_most (K := fun u => Word P.L u ∧ Stay P S X P.s.toNat S.s.toNat u ∧ accA P u = true ∧ accA S u = true) ⟨fun u k => ⟨k.1, k.2.2⟩, fun v a hv h0 hL hf hp hq => ?_⟩ ⟨hw, hs, h1, h2⟩
  obtain ⟨x, _, _, hsx, _⟩ := hp
  have hsv := (stay_app v).1 hsx
  have lp := g.ga.run_lt hv g.ga.s_lt
  have lq := g.gb.run_lt (w := v) (by rw [← g.eL]; exact hv) g.gb.s_lt
  obtain ⟨_, hl⟩ := hfix _ _ lp lq (stay_end hsv.1)
  have ea : ((a.toNat : Nat) : Int) = a := Int.toNat_of_nonneg h0
  have hva : Word P.L (v ++ [a]) := word_snoc.2 ⟨hv, h0, hL⟩
  have hal := (preK_alive g.ga rfl hva).1 hq
  rw [runA_append] at hal
  obtain ⟨u, hu, hsu, f1, f2⟩ := hl a.toNat (by omega) (by rw [ea]; exact hf) hal
  refine ⟨u, hu, word_append hva hu, ?_, ?_, ?_⟩
  · rw [List.append_assoc, stay_app]
    refine ⟨hsv.1, ?_⟩
    show Stay P S X _ _ (a :: u)
    exact stay_cons.2 ⟨stay_end hsv.1, hsu⟩
  · unfold accA
    rw [runA_append, runA_append]; exact f1
  · unfold accA
    rw [runA_append, runA_append]; exact f2
/-- Whatever is kept stays within what a round leaves. -/
theorem keep_round {P S : Aut} (g : Good2 P S) {free : Int} {K : List Int → Prop} (hK : Sub P S free K) {X : PS} (hX : ∀ v, Word P.L v → PreK P.L K v → X (runA P P.s.toNat v) (runA S S.s.toNat v) = true) {v : List Int} (hv : Word P.L v) (hp : PreK P.L K v) : Leaves P S free X (runA P P.s.toNat v) (runA S S.s.toNat v) := by
  have hco : ∀ v, Word P.L v → PreK P.L K v → Co P S X (runA P P.s.toNat v) (runA S S.s.toNat v) := fun v hv ⟨u, hu, hk⟩ => by
    obtain ⟨_, a1, a2⟩ := hK.within _ hk
    refine ⟨u, hu, fun k hk' => ?_, ?_, ?_⟩
    · rw [← runA_append, ← runA_append]
      refine hX _ (word_append hv (word_take hu k)) ⟨u.drop k, word_drop hu k, ?_⟩
      rw [List.append_assoc, List.take_append_drop]; exact hk
    · rw [← runA_append]; exact a1
    · rw [← runA_append]; exact a2
  refine ⟨hco v hv hp, fun c hc hf hal => ?_⟩
  have hva : Word P.L (v ++ [(c : Int)]) := word_snoc.2 ⟨hv, by omega, hc⟩
  have e1 : runA P P.s.toNat (v ++ [(c : Int)]) = step P (runA P P.s.toNat v) c := by rw [runA_append]; rfl
  have e2 : runA S S.s.toNat (v ++ [(c : Int)]) = step S (runA S S.s.toNat v) c := by rw [runA_append]; rfl
  have := hco _ hva (hK.ctl v c hv (by omega) hc hf hp ((preK_alive g.ga rfl hva).2 (by rw [e1]; exact hal)))
  rwa [e1, e2] at this
/-- The rounds: each leaves just what it should; in the end nothing changes. -/
def Round (P S : Aut) (free : Int) (X Y : PS) : Prop := ∀ p q, p < P.next.length → q < S.next.length → (Y p q = true ↔ Leaves P S free X p q)
inductive Rounds (P S : Aut) (free : Int) : PS → Prop
  | all {X : PS} : (∀ p q, p < P.next.length → q < S.next.length → X p q = true) → Rounds P S free X
  | round {X Y : PS} : Rounds P S free X → Round P S free X Y → Rounds P S free Y
theorem rounds_keep {P S : Aut} (g : Good2 P S) {free : Int} {X : PS} (h : Rounds P S free X) {K : List Int → Prop} (hK : Sub P S free K) : ∀ v, Word P.L v → PreK P.L K v → X (runA P P.s.toNat v) (runA S S.s.toNat v) = true := by
  induction h with
  | all hX => exact fun v hv _ => hX _ _ (g.ga.run_lt hv g.ga.s_lt) (g.gb.run_lt (by rw [← g.eL]; exact hv) g.gb.s_lt)
  | round _ hR ih => exact fun v hv hp => (hR _ _ (g.ga.run_lt hv g.ga.s_lt) (g.gb.run_lt (by rw [← g.eL]; exact hv) g.gb.s_lt)).2 (keep_round g hK ih hv hp)
theorem rounds_end {P S : Aut} (g : Good2 P S) {free : Int} {X : PS} (h : Rounds P S free X) (hR : Round P S free X X) {w : List Int} (hw : Word P.L w) : sup P S free w ↔ Stay P S X P.s.toNat S.s.toNat w ∧ accA P w = true ∧ accA S w = true := by
  constructor
  · rintro ⟨K, hK, hk⟩
    obtain ⟨_, a1, a2⟩ := hK.within w hk
    refine ⟨fun k _ => rounds_keep g h hK _ (word_take hw k) ⟨w.drop k, word_drop hw k, by rw [List.take_append_drop]; exact hk⟩, a1, a2⟩
  · rintro ⟨hs, h1, h2⟩
    exact fix_sub g (fun p q hp hq hx => (hR p q hp hq).1 hx) hw hs h1 h2
/-- Nothing is let just if the first pair is not. -/
theorem rounds_none {P S : Aut} (g : Good2 P S) {free : Int} {X : PS} (h : Rounds P S free X) (hR : Round P S free X X) : X P.s.toNat S.s.toNat = false ↔ ∀ w, Word P.L w → ¬ sup P S free w := by
  constructor
  · intro hx w hw hs
    have := stay_first ((rounds_end g h hR hw).1 hs).1
    rw [hx] at this; cases this
  · intro hn
    rcases hx : X P.s.toNat S.s.toNat with _ | _
    · rfl
    · obtain ⟨⟨w, hw, hs, f1, f2⟩, _⟩ := (hR _ _ g.ga.s_lt g.gb.s_lt).1 hx
      exact absurd ((rounds_end g h hR hw).2 ⟨hs, f1, f2⟩) (hn w hw)
/-- A round takes away only. -/
theorem round_less {P S : Aut} {free : Int} {X Y : PS} (hR : Round P S free X Y) {p q : Nat} (hp : p < P.next.length) (hq : q < S.next.length) (h : Y p q = true) : X p q = true := co_in ((hR p q hp hq).1 h).1
end Go.Proofs.YtbciefeipiphiaaDoor.Su

namespace Go.Proofs.YtbciefeipiphiaaDoor.Su
open Go.Proofs.YtbciefeipiphiaaDoor.Df Go.Proofs.YtbciefeipiphiaaDoor.Wo Go.Proofs.YtbciefeipiphiaaDoor.Rc Go.Proofs.YtbciefeipiphiaaDoor.Sm Go.Proofs.YtbciefeipiphiaaDoor.Sa

/-- What is wrong with a plant, another automaton, and free letters. -/
def plantE (P D : Aut) (free : Int) : Nat := if chkD2 P D ≠ 0 then chkD2 P D else if setOk P.L free then 0 else 1
/-- A free letter slips out of what can still be finished. -/
def SlipP (P S : Aut) (free : Int) (W : PS) (p q : Nat) : Prop := ∃ c : Nat, (c : Int) < P.L ∧ has free (c : Int) = true ∧ isAlive P (step P p c) = true ∧ ¬ Co P S W (step P p c) (step S q c)
/-- What a pass leaves. -/
noncomputable def cutW (P S : Aut) (free : Int) (W : PS) : PS := fun p q => @decide (W p q = true ∧ ¬ (Co P S W p q ∧ SlipP P S free W p q)) (Classical.propDecidable _)
theorem cutW_iff {P S : Aut} {free : Int} {W : PS} {p q : Nat} : cutW P S free W p q = true ↔ W p q = true ∧ ¬ (Co P S W p q ∧ SlipP P S free W p q) := by
  unfold cutW; exact @decide_eq_true_iff _ (Classical.propDecidable _)
/-- What some passes leave. -/
inductive Cuts (P S : Aut) (free : Int) : PS → Prop
  | all : Cuts P S free (fun _ _ => true)
  | cut {W : PS} : Cuts P S free W → Cuts P S free (cutW P S free W)
theorem stay_mono {P S : Aut} {X Y : PS} (h : ∀ p q, X p q = true → Y p q = true) {p q : Nat} {w : List Int} (hs : Stay P S X p q w) : Stay P S Y p q w := fun k hk => h _ _ (hs k hk)
theorem co_mono {P S : Aut} {X Y : PS} (h : ∀ p q, X p q = true → Y p q = true) {p q : Nat} (hc : Co P S X p q) : Co P S Y p q := by
  obtain ⟨w, hw, hs, h1, h2⟩ := hc
  exact ⟨w, hw, stay_mono h hs, h1, h2⟩
/-- A way to the end stays where each place has one. -/
theorem stay_if {P S : Aut} (g : Good2 P S) {X Y : PS} (h : ∀ p q, p < P.next.length → q < S.next.length → X p q = true → Co P S X p q → Y p q = true) : ∀ (w : List Int) {p q : Nat}, Word P.L w → p < P.next.length → q < S.next.length → Stay P S X p q w → finA P (runA P p w) = true → finA S (runA S q w) = true → Stay P S Y p q w
  | [], p, q, hw, hp, hq, hs, f1, f2 => stay_nil.2 (h p q hp hq (stay_first hs) ⟨[], hw, hs, f1, f2⟩)
  | a :: w, p, q, hw, hp, hq, hs, f1, f2 => by
    have ha := hw a List.mem_cons_self
    have hw' : Word P.L w := fun x hx => hw x (List.mem_cons_of_mem _ hx)
    obtain ⟨s1, s2⟩ := stay_cons.1 hs
    exact stay_cons.2 ⟨h p q hp hq s1 ⟨a :: w, hw, hs, f1, f2⟩, stay_if g h w hw' (g.ga.step_lt hp (by omega)) (g.gb.step_lt hq (by rw [← g.eL]; omega)) s2 f1 f2⟩
theorem co_if {P S : Aut} (g : Good2 P S) {X Y : PS} (h : ∀ p q, p < P.next.length → q < S.next.length → X p q = true → Co P S X p q → Y p q = true) {p q : Nat} (hp : p < P.next.length) (hq : q < S.next.length) (hc : Co P S X p q) : Co P S Y p q := by
  obtain ⟨w, hw, hs, f1, f2⟩ := hc
  exact ⟨w, hw, stay_if g h w hw hp hq hs f1 f2, f1, f2⟩
noncomputable def leaveX (P S : Aut) (free : Int) (X : PS) : PS := fun p q => @decide (Leaves P S free X p q) (Classical.propDecidable _)
theorem leaveX_iff {P S : Aut} {free : Int} {X : PS} {p q : Nat} : leaveX P S free X p q = true ↔ Leaves P S free X p q := by
  unfold leaveX; exact @decide_eq_true_iff _ (Classical.propDecidable _)
/-- The passes go with the rounds. -/
theorem cuts_rounds {P S : Aut} (g : Good2 P S) {free : Int} {W : PS} (h : Cuts P S free W) : ∃ Z, Rounds P S free Z ∧ ∀ p q, p < P.next.length → q < S.next.length → (Co P S W p q ↔ Co P S Z p q) := by
  induction h with
  | all => exact ⟨fun _ _ => true, .all fun _ _ _ _ => rfl, fun _ _ _ _ => Iff.rfl⟩
  | @cut W _ ih =>
    obtain ⟨Z, hZ, hco⟩ := ih
    have hL : ∀ p q, p < P.next.length → q < S.next.length → (Leaves P S free Z p q ↔ Co P S W p q ∧ ¬ SlipP P S free W p q) := fun p q hp hq => by
      unfold Leaves SlipP
      rw [← hco p q hp hq]
      refine and_congr_right fun _ => ⟨?_, fun h c hc hf ha => ?_⟩
      · rintro k ⟨c, hc, hf, ha, hn⟩
        exact hn ((hco _ _ (g.ga.step_lt hp hc) (g.gb.step_lt hq (by rw [← g.eL]; exact hc))).2 (k c hc hf ha))
      · rw [← hco _ _ (g.ga.step_lt hp hc) (g.gb.step_lt hq (by rw [← g.eL]; exact hc))]
        rcases Classical.em (Co P S W (step P p c) (step S q c)) with k | k
        · exact k
        · exact absurd ⟨c, hc, hf, ha, k⟩ h
    refine ⟨leaveX P S free Z, .round hZ fun p q _ _ => leaveX_iff, fun p q hp hq => ⟨fun hc => ?_, fun hc => ?_⟩⟩
    · refine co_if g (fun p q hp hq hx hcx => ?_) hp hq hc
      have h1 := cutW_iff.1 hx
      have h2 : Co P S W p q := co_mono (fun p q h => (cutW_iff.1 h).1) hcx
      exact leaveX_iff.2 ((hL p q hp hq).2 ⟨h2, fun k => h1.2 ⟨h2, k⟩⟩)
    · refine co_if g (fun p q hp hq hx _ => ?_) hp hq hc
      obtain ⟨h1, h2⟩ := (hL p q hp hq).1 (leaveX_iff.1 hx)
      exact cutW_iff.2 ⟨co_in h1, fun k => h2 k.2⟩
/-- What a set that leaves itself lets, where words lead. -/
theorem fix_sub_at {P S : Aut} (g : Good2 P S) {free : Int} {X : PS} (hfix : ∀ v, Word P.L v → X (runA P P.s.toNat v) (runA S S.s.toNat v) = true → Leaves P S free X (runA P P.s.toNat v) (runA S S.s.toNat v)) {w : List Int} (hw : Word P.L w) (hs : Stay P S X P.s.toNat S.s.toNat w) (h1 : accA P w = true) (h2 : accA S w = true) : sup P S free w := by
  refine sup_most (K := fun u => Word P.L u ∧ Stay P S X P.s.toNat S.s.toNat u ∧ accA P u = true ∧ accA S u = true) ⟨fun u k => ⟨k.1, k.2.2⟩, fun v a hv h0 hL hf hp hq => ?_⟩ ⟨hw, hs, h1, h2⟩
  obtain ⟨x, _, _, hsx, _⟩ := hp
  have hsv := (stay_app v).1 hsx
  obtain ⟨_, hl⟩ := hfix v hv (stay_end hsv.1)
  have ea : ((a.toNat : Nat) : Int) = a := Int.toNat_of_nonneg h0
  have hva : Word P.L (v ++ [a]) := word_snoc.2 ⟨hv, h0, hL⟩
  have hal := (preK_alive g.ga rfl hva).1 hq
  rw [runA_append] at hal
  obtain ⟨u, hu, hsu, f1, f2⟩ := hl a.toNat (by omega) (by rw [ea]; exact hf) hal
  refine ⟨u, hu, word_append hva hu, ?_, ?_, ?_⟩
  · rw [List.append_assoc, stay_app]
    refine ⟨hsv.1, ?_⟩
    show Stay P S X _ _ (a :: u)
    exact stay_cons.2 ⟨stay_end hsv.1, hsu⟩
  · unfold accA
    rw [runA_append, runA_append]; exact f1
  · unfold accA
    rw [runA_append, runA_append]; exact f2
noncomputable def coX (P S : Aut) (W : PS) : PS := fun p q => @decide (Co P S W p q) (Classical.propDecidable _)
theorem coX_iff {P S : Aut} {W : PS} {p q : Nat} : coX P S W p q = true ↔ Co P S W p q := by
  unfold coX; exact @decide_eq_true_iff _ (Classical.propDecidable _)
/-- Of what is kept each beginning can be finished. -/
theorem cuts_keep {P S : Aut} (g : Good2 P S) {free : Int} {W : PS} (h : Cuts P S free W) {w : List Int} (hw : Word P.L w) (hs : sup P S free w) (k : Nat) : Co P S W (runA P P.s.toNat (w.take k)) (runA S S.s.toNat (w.take k)) := by
  obtain ⟨Z, hZ, hco⟩ := cuts_rounds g h
  obtain ⟨K, hK, hk⟩ := hs
  have hv := word_take hw k
  rw [hco _ _ (g.ga.run_lt hv g.ga.s_lt) (g.gb.run_lt (by rw [← g.eL]; exact hv) g.gb.s_lt)]
  exact (keep_round g hK (rounds_keep g hZ hK) hv ⟨w.drop k, word_drop hw k, by rw [List.take_append_drop]; exact hk⟩).1
/-- When no pass would take any away. -/
theorem cuts_end {P S : Aut} (g : Good2 P S) {free : Int} {W : PS} (h : Cuts P S free W) (hend : ∀ v, Word P.L v → Co P S W (runA P P.s.toNat v) (runA S S.s.toNat v) → ¬ SlipP P S free W (runA P P.s.toNat v) (runA S S.s.toNat v)) {w : List Int} (hw : Word P.L w) :
    sup P S free w ↔ Stay P S W P.s.toNat S.s.toNat w ∧ accA P w = true ∧ accA S w = true := by
  have hself : ∀ p q, p < P.next.length → q < S.next.length → Co P S W p q → Co P S (coX P S W) p q := fun p q hp hq hc => co_if g (fun p q _ _ _ hc => coX_iff.2 hc) hp hq hc
  constructor
  · intro hs
    refine ⟨fun k _ => co_in (cuts_keep g h hw hs k), ?_⟩
    obtain ⟨K, hK, hk⟩ := hs
    exact (hK.within w hk).2
  · rintro ⟨hs, h1, h2⟩
    refine fix_sub_at g (X := coX P S W) (fun v hv hx => ?_) hw (stay_if g (fun p q _ _ _ hc => coX_iff.2 hc) w hw g.ga.s_lt g.gb.s_lt hs h1 h2) h1 h2
    have lp := g.ga.run_lt hv g.ga.s_lt
    have lq := g.gb.run_lt (w := v) (by rw [← g.eL]; exact hv) g.gb.s_lt
    have hc := coX_iff.1 hx
    refine ⟨hself _ _ lp lq hc, fun c hcL hf ha => hself _ _ (g.ga.step_lt lp hcL) (g.gb.step_lt lq (by rw [← g.eL]; exact hcL)) ?_⟩
    rcases Classical.em (Co P S W (step P (runA P P.s.toNat v) c) (step S (runA S S.s.toNat v) c)) with k | k
    · exact k
    · exact absurd ⟨c, hcL, hf, ha, k⟩ (hend v hv hc)
theorem cuts_none {P S : Aut} (g : Good2 P S) {free : Int} {W : PS} (h : Cuts P S free W) (hn : ¬ Co P S W P.s.toNat S.s.toNat) : ∀ w, Word P.L w → ¬ sup P S free w := fun w hw hs => hn (by
  have := cuts_keep g h hw hs 0
  rwa [List.take_zero] at this)

/-! ### the automaton under way -/
abbrev Pr' := Nat × Nat
def rowW (P S : Aut) (W : PS) (l : List Pr') (p : Pr') : List Int := if W p.1 p.2 then srow (S2 P S) l p else List.replicate P.L.toNat ((num l p : Nat) : Int)
def finW' (P S : Aut) (W : PS) (p : Pr') : Bool := W p.1 p.2 && (finA P p.1 && finA S p.2)
def autW (P S : Aut) (W : PS) (l : List Pr') : Aut := ⟨P.L, 0, l.map (rowW P S W l), l.map (finW' P S W)⟩
theorem autW_all (P S : Aut) (l : List Pr') : autW P S (fun _ _ => true) l = autOf P.L (S2 P S) l (fun p => finA P p.1 && finA S p.2) := by
  unfold autW autOf
  congr 1
theorem rowW_length {P S : Aut} (g : Good2 P S) (W : PS) (l : List Pr') (p : Pr') : ((rowW P S W l p).length : Int) = P.L := by
  unfold rowW
  split
  · rw [srow_length]; exact S2_len g p
  · rw [List.length_replicate]; have := g.ga.l1; omega
theorem autW_good {P S : Aut} (g : Good2 P S) {W : PS} {l : List Pr'} (h : Whole (S2 P S) (start2 P S) l) : Good (autW P S W l) := by
  refine ⟨g.ga.l1, g.ga.l6, by simpa [autW] using h.n1, by simpa [autW] using h.n40, by simp [autW], fun r hr => ?_, ⟨Int.le_refl _, ?_⟩, fun r hr x hx => ?_⟩
  · obtain ⟨p, hp, rfl⟩ := List.mem_map.1 hr
    exact rowW_length g W l p
  · have := h.n1
    simp only [autW, List.length_map]; omega
  · obtain ⟨p, hp, rfl⟩ := List.mem_map.1 hr
    have hlt : ∀ t ∈ l, isSt (autW P S W l) ((num l t : Nat) : Int) := fun t ht => by
      have := idx_lt ht
      refine ⟨by omega, ?_⟩
      simp only [autW, List.length_map]; omega
    unfold rowW at hx
    split at hx
    · obtain ⟨t, ht, rfl⟩ := List.mem_map.1 hx
      exact hlt t (h.closed p hp t ht)
    · rw [List.eq_of_mem_replicate hx]
      exact hlt p hp
theorem go_in {P S : Aut} {l : List Pr'} (h : Whole (S2 P S) (start2 P S) l) {x : Pr'} (hx : x ∈ l) {c : Nat} (hc : (c : Int) < P.L) : (step P x.1 c, step S x.2 c) ∈ l :=
  h.closed x hx _ (List.mem_of_getElem? (S2_get P S x hc))
theorem autW_step {P S : Aut} {W : PS} {l : List Pr'} {x : Pr'} (hx : x ∈ l) {c : Nat} (hc : (c : Int) < P.L) : step (autW P S W l) (num l x) c = if W x.1 x.2 then num l (step P x.1 c, step S x.2 c) else num l x := by
  unfold step autW
  simp only [List.getElem?_map]
  rw [idx_get hx]
  simp only [Option.map_some, Option.getD_some, rowW]
  by_cases hw : W x.1 x.2 = true
  · rw [if_pos hw, if_pos hw]
    unfold srow
    rw [List.getElem?_map, S2_get P S x hc]
    simp [step]
  · rw [if_neg hw, if_neg hw, List.getElem?_replicate, if_pos (by omega)]
    simp
theorem autW_fin {P S : Aut} {W : PS} {l : List Pr'} {x : Pr'} (hx : x ∈ l) : finA (autW P S W l) (num l x) = finW' P S W x := by
  unfold finA autW
  simp only [List.getElem?_map]
  rw [idx_get hx]; rfl
theorem autW_run {P S : Aut} {W : PS} {l : List Pr'} (h : Whole (S2 P S) (start2 P S) l) : ∀ (w : List Int) {x : Pr'}, Word P.L w → x ∈ l →
    (finA (autW P S W l) (runA (autW P S W l) (num l x) w) = true ↔ Stay P S W x.1 x.2 w ∧ finA P (runA P x.1 w) = true ∧ finA S (runA S x.2 w) = true)
  | [], x, _, hx => by
    show finA (autW P S W l) (num l x) = true ↔ _
    rw [autW_fin hx, stay_nil]
    unfold finW'
    simp [runA]
  | a :: w, x, hw, hx => by
    have ha := hw a List.mem_cons_self
    have hw' : Word P.L w := fun y hy => hw y (List.mem_cons_of_mem _ hy)
    have hc : ((a.toNat : Nat) : Int) < P.L := by omega
    show finA (autW P S W l) (runA (autW P S W l) (step (autW P S W l) (num l x) a.toNat) w) = true ↔ _
    rw [autW_step hx hc, stay_cons]
    by_cases hW : W x.1 x.2 = true
    · rw [if_pos hW, autW_run h w hw' (go_in h hx hc)]
      exact ⟨fun ⟨k1, k2⟩ => ⟨⟨hW, k1⟩, k2⟩, fun ⟨⟨_, k1⟩, k2⟩ => ⟨k1, k2⟩⟩
    · rw [if_neg hW, autW_run h w hw' hx]
      exact ⟨fun ⟨k1, _⟩ => absurd (stay_first k1) hW, fun ⟨⟨k1, _⟩, _⟩ => absurd k1 hW⟩
theorem autW_alive {P S : Aut} (g : Good2 P S) {W : PS} {l : List Pr'} (h : Whole (S2 P S) (start2 P S) l) {x : Pr'} (hx : x ∈ l) : isAlive (autW P S W l) (num l x) = true ↔ Co P S W x.1 x.2 := by
  rw [isAlive_iff (autW_good g h) (by simp only [autW, List.length_map]; exact idx_lt hx)]
  unfold Co
  exact ⟨fun ⟨w, hw, k⟩ => ⟨w, hw, (autW_run h w hw hx).1 k⟩, fun ⟨w, hw, k⟩ => ⟨w, hw, (autW_run h w hw hx).2 k⟩⟩
theorem start_in {P S : Aut} {l : List Pr'} (h : Whole (S2 P S) (start2 P S) l) : start2 P S ∈ l ∧ num l (start2 P S) = 0 := ⟨List.mem_of_getElem? h.hd, idx_of h.nd h.hd⟩
theorem autW_acc {P S : Aut} {W : PS} {l : List Pr'} (h : Whole (S2 P S) (start2 P S) l) {w : List Int} (hw : Word P.L w) : accA (autW P S W l) w = true ↔ Stay P S W P.s.toNat S.s.toNat w ∧ accA P w = true ∧ accA S w = true := by
  obtain ⟨h1, h2⟩ := start_in h
  have := autW_run (W := W) h w hw h1
  rw [h2] at this
  exact this
/-- Where words lead is found. -/
theorem run_in {P S : Aut} {l : List Pr'} (h : Whole (S2 P S) (start2 P S) l) : ∀ (v : List Int) {x : Pr'}, Word P.L v → x ∈ l → (runA P x.1 v, runA S x.2 v) ∈ l
  | [], _, _, hx => hx
  | a :: v, x, hv, hx => run_in h v (x := (step P x.1 a.toNat, step S x.2 a.toNat)) (fun y hy => hv y (List.mem_cons_of_mem _ hy)) (go_in h hx (by have := hv a List.mem_cons_self; omega))

/-! ### a pass, by states -/
def flagAt (l : List Bool) (s : Nat) : Bool := l[s]?.getD false
/-- A free letter leads from a state to where nothing can be accepted, and the plant can go there. -/
def slipAt (al pr : List Bool) (free : Int) (r : List Int) (c : Nat) : Bool := has free (c : Int) && (flagAt pr (r[c]?.getD 0).toNat && !flagAt al (r[c]?.getD 0).toNat)
def slipB (al pr : List Bool) (free : Int) (r : List Int) : Bool := (List.range r.length).any (slipAt al pr free r)
theorem slipB_hit {al pr : List Bool} {free : Int} {r : List Int} {c : Nat} (hc : c < r.length) (h : slipAt al pr free r c = true) : slipB al pr free r = true :=
  List.any_eq_true.2 ⟨c, List.mem_range.2 hc, h⟩
theorem slipB_no {al pr : List Bool} {free : Int} {r : List Int} (h : ∀ c, c < r.length → slipAt al pr free r c = false) : slipB al pr free r = false :=
  List.any_eq_false.2 fun c hc => by rw [h c (List.mem_range.1 hc)]; simp
/-- A state is shut. -/
def cutB (d : Aut) (al pr : List Bool) (free : Int) (s : Nat) : Bool := flagAt al s && slipB al pr free (d.next[s]?.getD [])
def cutRow (d : Aut) (al pr : List Bool) (free : Int) (s : Nat) : List Int := if cutB d al pr free s then List.replicate (d.next[s]?.getD []).length (s : Int) else d.next[s]?.getD []
def cutFin (d : Aut) (al pr : List Bool) (free : Int) (s : Nat) : Bool := if cutB d al pr free s then false else finA d s
def shutA (d : Aut) (al pr : List Bool) (free : Int) : Aut := ⟨d.L, d.s, (List.range d.next.length).map (cutRow d al pr free), (List.range d.fin.length).map (cutFin d al pr free)⟩
def shutAny (d : Aut) (al pr : List Bool) (free : Int) (k : Nat) : Bool := (List.range k).any (cutB d al pr free)
theorem shutAny_succ (d : Aut) (al pr : List Bool) (free : Int) (k : Nat) : shutAny d al pr free (k + 1) = (shutAny d al pr free k || cutB d al pr free k) := by
  unfold shutAny; rw [List.range_succ, List.any_append]; simp
theorem map_num {β : Type} {l : List Pr'} (hn : l.Nodup) (f : Nat → β) (h : Pr' → β) (hf : ∀ x ∈ l, f (num l x) = h x) : (List.range l.length).map f = l.map h := by
  refine List.ext_getElem (by simp) fun i h1 h2 => ?_
  have hi : i < l.length := by simpa using h1
  rw [List.getElem_map, List.getElem_map, List.getElem_range, ← hf _ (List.getElem_mem hi), idx_of hn (List.getElem?_eq_getElem hi)]
section
variable {P S : Aut} {free : Int} {W : PS} {l : List Pr'} {al pr : List Bool}
theorem slip_iff (g : Good2 P S) (h : Whole (S2 P S) (start2 P S) l) (hal : ∀ x ∈ l, flagAt al (num l x) = isAlive (autW P S W l) (num l x)) (hpr : ∀ x ∈ l, flagAt pr (num l x) = isAlive P x.1) {x : Pr'} (hx : x ∈ l) : slipB al pr free (srow (S2 P S) l x) = true ↔ SlipP P S free W x.1 x.2 := by
  have hlen : (srow (S2 P S) l x).length = P.L.toNat := by rw [srow_length, S2_length]
  have hat : ∀ c : Nat, (c : Int) < P.L → ((srow (S2 P S) l x)[c]?.getD 0).toNat = num l (step P x.1 c, step S x.2 c) := fun c hc => by
    unfold srow
    rw [List.getElem?_map, S2_get P S x hc]; simp
  unfold slipB SlipP
  rw [List.any_eq_true, hlen]
  constructor
  · rintro ⟨c, hc, k⟩
    have hc : (c : Int) < P.L := by have := List.mem_range.1 hc; omega
    have hi := go_in h hx hc
    unfold slipAt at k
    rw [hat c hc, hpr _ hi, hal _ hi] at k
    simp only [Bool.and_eq_true, Bool.not_eq_true'] at k
    refine ⟨c, hc, k.1, k.2.1, fun q => ?_⟩
    rw [(autW_alive g h hi).2 q] at k
    exact absurd k.2.2 (by simp)
  · rintro ⟨c, hc, k1, k2, k3⟩
    have hi := go_in h hx hc
    refine ⟨c, List.mem_range.2 (by omega), ?_⟩
    unfold slipAt
    rw [hat c hc, hpr _ hi, hal _ hi, k1, k2]
    rcases e : isAlive (autW P S W l) (num l (step P x.1 c, step S x.2 c)) with _ | _
    · rfl
    · exact absurd ((autW_alive g h hi).1 e) k3
theorem autW_next {x : Pr'} (hx : x ∈ l) : (autW P S W l).next[num l x]?.getD [] = rowW P S W l x := by
  unfold autW
  simp only [List.getElem?_map]
  rw [idx_get hx]; rfl
theorem cut_iff (g : Good2 P S) (h : Whole (S2 P S) (start2 P S) l) (hal : ∀ x ∈ l, flagAt al (num l x) = isAlive (autW P S W l) (num l x)) (hpr : ∀ x ∈ l, flagAt pr (num l x) = isAlive P x.1) {x : Pr'} (hx : x ∈ l) : cutB (autW P S W l) al pr free (num l x) = true ↔ Co P S W x.1 x.2 ∧ SlipP P S free W x.1 x.2 := by
  unfold cutB
  rw [hal x hx, autW_next hx, Bool.and_eq_true, autW_alive g h hx]
  refine and_congr_right fun hc => ?_
  unfold rowW
  rw [if_pos (co_in hc)]
  exact slip_iff g h hal hpr hx
/-- A pass takes away just what it should. -/
theorem shut_cut (g : Good2 P S) (h : Whole (S2 P S) (start2 P S) l) (hal : ∀ x ∈ l, flagAt al (num l x) = isAlive (autW P S W l) (num l x)) (hpr : ∀ x ∈ l, flagAt pr (num l x) = isAlive P x.1) : shutA (autW P S W l) al pr free = autW P S (cutW P S free W) l := by
  have hc := fun x hx => cut_iff (free := free) g h hal hpr (x := x) hx
  have e1 : (List.range l.length).map (cutRow (autW P S W l) al pr free) = l.map (rowW P S (cutW P S free W) l) := map_num h.nd _ _ fun x hx => by
    unfold cutRow
    rw [autW_next hx]
    by_cases hb : cutB (autW P S W l) al pr free (num l x) = true
    · rw [if_pos hb]
      have h1 := (hc x hx).1 hb
      have h2 : ¬ cutW P S free W x.1 x.2 = true := fun k => (cutW_iff.1 k).2 h1
      have h3 : (rowW P S W l x).length = P.L.toNat := by have := rowW_length g W l x; omega
      rw [h3]
      show _ = rowW P S (cutW P S free W) l x
      rw [show rowW P S (cutW P S free W) l x = List.replicate P.L.toNat ((num l x : Nat) : Int) from if_neg h2]
    · rw [if_neg hb]
      unfold rowW
      by_cases hW : W x.1 x.2 = true
      · rw [if_pos hW, if_pos (cutW_iff.2 ⟨hW, fun k => hb ((hc x hx).2 k)⟩)]
      · rw [if_neg hW, if_neg (fun k => hW (cutW_iff.1 k).1)]
  have e2 : (List.range l.length).map (cutFin (autW P S W l) al pr free) = l.map (finW' P S (cutW P S free W)) := map_num h.nd _ _ fun x hx => by
    unfold cutFin
    rw [autW_fin hx]
    unfold finW'
    by_cases hb : cutB (autW P S W l) al pr free (num l x) = true
    · rw [if_pos hb]
      have h2 : cutW P S free W x.1 x.2 = false := by
        rcases e : cutW P S free W x.1 x.2 with _ | _
        · rfl
        · exact absurd ((hc x hx).1 hb) (cutW_iff.1 e).2
      rw [h2]; rfl
    · rw [if_neg hb]
      have h2 : cutW P S free W x.1 x.2 = W x.1 x.2 := by
        rcases e : W x.1 x.2 with _ | _
        · rcases e2 : cutW P S free W x.1 x.2 with _ | _
          · rfl
          · rw [(cutW_iff.1 e2).1] at e; cases e
        · exact cutW_iff.2 ⟨e, fun k => hb ((hc x hx).2 k)⟩
      rw [h2]
  unfold shutA
  rw [show (autW P S W l).next.length = l.length by simp [autW], show (autW P S W l).fin.length = l.length by simp [autW], e1, e2]
  rfl
/-- No state is shut: nothing slips out. -/
theorem shut_none (g : Good2 P S) (h : Whole (S2 P S) (start2 P S) l) (hal : ∀ x ∈ l, flagAt al (num l x) = isAlive (autW P S W l) (num l x)) (hpr : ∀ x ∈ l, flagAt pr (num l x) = isAlive P x.1) (hn : shutAny (autW P S W l) al pr free l.length = false) {v : List Int} (hv : Word P.L v) (hc : Co P S W (runA P P.s.toNat v) (runA S S.s.toNat v)) : ¬ SlipP P S free W (runA P P.s.toNat v) (runA S S.s.toNat v) := fun hs => by
  have hi := run_in h v hv (start_in h).1
  have h1 := (cut_iff (free := free) g h hal hpr hi).2 ⟨hc, hs⟩
  have := List.any_eq_false.1 hn _ (List.mem_range.2 (idx_lt hi))
  exact this h1
/-- Some state is shut: there are fewer that are alive. -/
theorem shut_fewer (g : Good2 P S) (h : Whole (S2 P S) (start2 P S) l) (hal : ∀ x ∈ l, flagAt al (num l x) = isAlive (autW P S W l) (num l x)) (hpr : ∀ x ∈ l, flagAt pr (num l x) = isAlive P x.1) (hn : shutAny (autW P S W l) al pr free l.length = true) :
    ((List.range l.length).filter fun i => isAlive (autW P S (cutW P S free W) l) i).length < ((List.range l.length).filter fun i => isAlive (autW P S W l) i).length := by
  obtain ⟨i, hi, hb⟩ := List.any_eq_true.1 hn
  have hi := List.mem_range.1 hi
  have hx : l[i] ∈ l := List.getElem_mem hi
  have hnum : num l l[i] = i := idx_of h.nd (List.getElem?_eq_getElem hi)
  have hcut := (cut_iff (free := free) g h hal hpr hx).1 (by rw [hnum]; exact hb)
  have hno : isAlive (autW P S (cutW P S free W) l) i = false := by
    rcases e : isAlive (autW P S (cutW P S free W) l) i with _ | _
    · rfl
    · rw [← hnum] at e
      exact absurd hcut (cutW_iff.1 (co_in ((autW_alive g h hx).1 e))).2
  have hyes : isAlive (autW P S W l) i = true := by
    rw [← hnum]; exact (autW_alive g h hx).2 hcut.1
  have key : ∀ (m : List Nat) (p q : Nat → Bool), (∀ j ∈ m, p j = true → q j = true) → (∃ j ∈ m, p j = false ∧ q j = true) → (m.filter p).length < (m.filter q).length := by
    intro m p q
    induction m with
    | nil => rintro _ ⟨j, hj, _⟩; simp at hj
    | cons a m ih =>
      intro h1 h2
      have hle : ∀ (m : List Nat), (∀ j ∈ m, p j = true → q j = true) → (m.filter p).length ≤ (m.filter q).length := by
        intro m
        induction m with
        | nil => intro _; exact Nat.le_refl _
        | cons b m ih2 =>
          intro h
          have := ih2 fun j hj => h j (List.mem_cons_of_mem _ hj)
          have hb := h b List.mem_cons_self
          rw [List.filter_cons, List.filter_cons]
          by_cases e : p b = true
          · rw [if_pos e, if_pos (hb e)]; simp only [List.length_cons]; omega
          · rw [if_neg e]
            split
            · simp only [List.length_cons]; omega
            · exact this
      have hl := hle m fun j hj => h1 j (List.mem_cons_of_mem _ hj)
      rw [List.filter_cons, List.filter_cons]
      obtain ⟨j, hj, k1, k2⟩ := h2
      rcases List.mem_cons.1 hj with rfl | hj
      · rw [if_neg (by rw [k1]; simp), if_pos k2]
        simp only [List.length_cons]; omega
      · have := ih (fun j hj => h1 j (List.mem_cons_of_mem _ hj)) ⟨j, hj, k1, k2⟩
        by_cases e : p a = true
        · rw [if_pos e, if_pos (h1 a List.mem_cons_self e)]; simp only [List.length_cons]; omega
        · rw [if_neg e]
          split
          · simp only [List.length_cons]; omega
          · exact this
  refine key _ _ _ (fun j hj hp => ?_) ⟨i, List.mem_range.2 hi, hno, hyes⟩
  have hj := List.mem_range.1 hj
  have hjx : l[j] ∈ l := List.getElem_mem hj
  have hjn : num l l[j] = j := idx_of h.nd (List.getElem?_eq_getElem hj)
  rw [← hjn] at hp ⊢
  exact (autW_alive g h hjx).2 (co_mono (fun p q k => (cutW_iff.1 k).1) ((autW_alive g h hjx).1 hp))
end
end Go.Proofs.YtbciefeipiphiaaDoor.Su

namespace Go.Proofs.YtbciefeipiphiaaDoor.Su
open Go.Proofs.YtbciefeipiphiaaDoor.Df Go.Proofs.YtbciefeipiphiaaDoor.Wo Go.Proofs.YtbciefeipiphiaaDoor.Rc Go.Proofs.YtbciefeipiphiaaDoor.Sm Go.Proofs.YtbciefeipiphiaaDoor.Sa Go.Proofs.YtbciefeipiphiaaDoor.Me

/-! ### levels -/
theorem lenB_live {P D : Aut} {free : Int} : ∀ {k p q : Nat}, lenB P D free k p q = true → live2 P D p q = true
  | 0, _, _, h => by rw [lenB, Bool.and_eq_true] at h; exact h.1
  | _ + 1, _, _, h => by rw [lenB, Bool.and_eq_true] at h; exact h.1
theorem lenB_step {P D : Aut} (g : Good2 P D) {free : Int} {k p q c : Nat} (hp : p < P.next.length) (hq : q < D.next.length) (hc : (c : Int) < P.L) (h : lenB P D free k (step P p c) (step D q c) = true) : lenB P D free (k + 1) p q = true := by
  have hl := lenB_live h
  unfold live2 at hl
  rw [Bool.and_eq_true] at hl
  rw [lenB, Bool.and_eq_true]
  refine ⟨?_, List.any_eq_true.2 ⟨c, List.mem_range.2 (by omega), h⟩⟩
  unfold live2
  rw [alive_step g.ga hp hc hl.1, alive_step g.gb hq (by rw [← g.eL]; exact hc) hl.2]; rfl
/-- Just so many letters lead out, not less. -/
structure Lv (P D : Aut) (free : Int) (k p q : Nat) : Prop where
  yes : lenB P D free k p q = true
  no : ∀ j, j < k → lenB P D free j p q = false
theorem lv_least {P D : Aut} {free : Int} {p q : Nat} : ∀ {k : Nat}, lenB P D free k p q = true → ∃ m, m ≤ k ∧ Lv P D free m p q := by
  intro k
  induction k using Nat.strongRecOn with
  | ind k ih =>
    intro h
    by_cases hn : ∀ j, j < k → lenB P D free j p q = false
    · exact ⟨k, Nat.le_refl _, h, hn⟩
    · obtain ⟨j, hj⟩ := Classical.not_forall.1 hn
      obtain ⟨h1, h2⟩ := Classical.not_imp.1 hj
      obtain ⟨m, hm, h3⟩ := ih j h1 (by rcases e : lenB P D free j p q with _ | _; exact absurd e h2; rfl)
      exact ⟨m, by omega, h3⟩
theorem lv_down {P D : Aut} (g : Good2 P D) {free : Int} {k p q : Nat} (hp : p < P.next.length) (hq : q < D.next.length) (h : Lv P D free (k + 1) p q) : ∃ c : Nat, (c : Int) < P.L ∧ Lv P D free k (step P p c) (step D q c) := by
  have h1 := h.yes
  rw [lenB, Bool.and_eq_true] at h1
  obtain ⟨c, hc, hb⟩ := List.any_eq_true.1 h1.2
  have hc' := List.mem_range.1 hc
  have hcL : (c : Int) < P.L := by omega
  refine ⟨c, hcL, hb, fun j hj => ?_⟩
  rcases e : lenB P D free j (step P p c) (step D q c) with _ | _
  · rfl
  · have := lenB_step g hp hq hcL e
    rw [h.no (j + 1) (by omega)] at this; cases this
theorem lv_all {P D : Aut} (g : Good2 P D) {free : Int} : ∀ (k : Nat) {p q : Nat}, p < P.next.length → q < D.next.length → Lv P D free k p q → ∀ j, j ≤ k → ∃ x y, x < P.next.length ∧ y < D.next.length ∧ Lv P D free j x y
  | 0, p, q, hp, hq, h, j, hj => by obtain rfl : j = 0 := by omega
                                    exact ⟨p, q, hp, hq, h⟩
  | k + 1, p, q, hp, hq, h, j, hj => by
    by_cases e : j = k + 1
    · subst e; exact ⟨p, q, hp, hq, h⟩
    · obtain ⟨c, hc, h1⟩ := lv_down g hp hq h
      exact lv_all g k (g.ga.step_lt hp hc) (g.gb.step_lt hq (by rw [← g.eL]; exact hc)) h1 j (by omega)
/-- A pair as a number. -/
theorem code_pair {N p q : Nat} (hq : q < N) : (q + p * N) / N = p ∧ (q + p * N) % N = q := by
  have hN : 0 < N := by omega
  rw [Nat.add_mul_div_right _ _ hN, Nat.div_eq_of_lt hq, Nat.zero_add, Nat.add_mul_mod_self_right, Nat.mod_eq_of_lt hq]
  exact ⟨rfl, rfl⟩
theorem code_lt {M N p q : Nat} (hp : p < M) (hq : q < N) : q + p * N < M * N := by
  have h1 : (p + 1) * N ≤ M * N := Nat.mul_le_mul_right N hp
  rw [Nat.add_mul, Nat.one_mul] at h1
  omega
def upB (P D : Aut) (free : Int) (k e : Nat) : Bool := (List.range (k + 1)).any fun j => lenB P D free j (e / D.next.length) (e % D.next.length)
def cntB (P D : Aut) (free : Int) (k : Nat) : Nat := ((List.range (P.next.length * D.next.length)).filter (upB P D free k)).length
theorem upB_more {P D : Aut} {free : Int} {k e : Nat} (h : upB P D free k e = true) : upB P D free (k + 1) e = true := by
  unfold upB at h ⊢
  obtain ⟨j, hj, hb⟩ := List.any_eq_true.1 h
  exact List.any_eq_true.2 ⟨j, List.mem_range.2 (by have := List.mem_range.1 hj; omega), hb⟩
theorem filter_less {l : List Nat} {A B : Nat → Bool} (h : ∀ s ∈ l, B s = true → A s = true) : (l.filter B).length ≤ (l.filter A).length ∧ ((l.filter B).length = (l.filter A).length → ∀ s ∈ l, A s = true → B s = true) := by
  induction l with
  | nil => exact ⟨by simp, fun _ s hs => by simp at hs⟩
  | cons a l ih =>
    obtain ⟨i1, i2⟩ := ih fun s hs => h s (List.mem_cons_of_mem _ hs)
    have ha := h a List.mem_cons_self
    rcases hp : A a with _ | _ <;> rcases hq : B a with _ | _
    · rw [List.filter_cons_of_neg (by rw [hq]; decide), List.filter_cons_of_neg (by rw [hp]; decide)]
      refine ⟨i1, fun e s hs hps => ?_⟩
      rcases List.mem_cons.1 hs with rfl | hs
      · rw [hp] at hps; cases hps
      · exact i2 e s hs hps
    · rw [ha hq] at hp; cases hp
    · rw [List.filter_cons_of_pos hp, List.filter_cons_of_neg (by rw [hq]; decide)]
      simp only [List.length_cons]
      exact ⟨by omega, fun e => by omega⟩
    · rw [List.filter_cons_of_pos hp, List.filter_cons_of_pos hq]
      simp only [List.length_cons]
      refine ⟨by omega, fun e s hs hps => ?_⟩
      rcases List.mem_cons.1 hs with rfl | hs
      · exact hq
      · exact i2 (by omega) s hs hps
theorem cntB_ge {P D : Aut} {free : Int} : ∀ (k : Nat), (∀ j, j ≤ k → ∃ x y, x < P.next.length ∧ y < D.next.length ∧ Lv P D free j x y) → k + 1 ≤ cntB P D free k
  | 0, h => by
    obtain ⟨x, y, hx, hy, hl⟩ := h 0 (Nat.le_refl _)
    obtain ⟨e1, e2⟩ := code_pair (p := x) hy
    have hm : (y + x * D.next.length) ∈ (List.range (P.next.length * D.next.length)).filter (upB P D free 0) := by
      refine List.mem_filter.2 ⟨List.mem_range.2 (code_lt hx hy), ?_⟩
      unfold upB
      rw [e1, e2]
      exact List.any_eq_true.2 ⟨0, by simp, hl.yes⟩
    exact List.length_pos_of_mem hm
  | k + 1, h => by
    have ih := cntB_ge k fun j hj => h j (by omega)
    obtain ⟨x, y, hx, hy, hl⟩ := h (k + 1) (Nat.le_refl _)
    obtain ⟨e1, e2⟩ := code_pair (p := x) hy
    obtain ⟨h1, h2⟩ := filter_less (l := List.range (P.next.length * D.next.length)) (A := upB P D free (k + 1)) (B := upB P D free k) fun s _ hs => upB_more hs
    by_cases e : cntB P D free k = cntB P D free (k + 1)
    · have hu : upB P D free (k + 1) (y + x * D.next.length) = true := by
        unfold upB
        rw [e1, e2]
        exact List.any_eq_true.2 ⟨k + 1, List.mem_range.2 (by omega), hl.yes⟩
      have := h2 e _ (List.mem_range.2 (code_lt hx hy)) hu
      unfold upB at this
      rw [e1, e2] at this
      obtain ⟨j, hj, hb⟩ := List.any_eq_true.1 this
      rw [hl.no j (by have := List.mem_range.1 hj; omega)] at hb; cases hb
    · unfold cntB at e ih ⊢; omega
theorem lv_lt {P D : Aut} (g : Good2 P D) {free : Int} {k p q : Nat} (hp : p < P.next.length) (hq : q < D.next.length) (h : Lv P D free k p q) : k + 1 ≤ P.next.length * D.next.length := by
  have h1 := cntB_ge k (lv_all g k hp hq h)
  have h2 : cntB P D free k ≤ P.next.length * D.next.length := by
    unfold cntB
    have := List.length_filter_le (upB P D free k) (List.range (P.next.length * D.next.length))
    rwa [List.length_range] at this
  omega
/-- By how many letters but one a pair is led out; -1: by none. -/
def lk (P D : Aut) (free : Int) (p q : Nat) : Int := match least (P.next.length * D.next.length) (fun k => lenB P D free k p q) with
  | none => -1
  | some k => ((k : Nat) : Int)
theorem lk_cases (P D : Aut) (free : Int) (p q : Nat) : lk P D free p q = -1 ∨ ∃ k : Nat, lk P D free p q = (k : Int) := by
  unfold lk
  rcases least (P.next.length * D.next.length) (fun k => lenB P D free k p q) with _ | k
  · exact .inl rfl
  · exact .inr ⟨k, rfl⟩
theorem lk_eq {P D : Aut} (g : Good2 P D) {free : Int} {p q k : Nat} (hp : p < P.next.length) (hq : q < D.next.length) : lk P D free p q = (k : Int) ↔ Lv P D free k p q := by
  constructor
  · intro h
    unfold lk at h
    rcases e : least (P.next.length * D.next.length) (fun k => lenB P D free k p q) with _ | m
    · rw [e] at h; have h : (-1 : Int) = (k : Int) := h; omega
    · rw [e] at h
      have h : ((m : Nat) : Int) = (k : Int) := h
      obtain rfl : m = k := by omega
      obtain ⟨_, h2, h3⟩ := least_some e
      exact ⟨h2, h3⟩
  · intro h
    have := lv_lt g hp hq h
    have e : least (P.next.length * D.next.length) (fun k => lenB P D free k p q) = some k := least_is (by omega) h.yes h.no
    unfold lk; rw [e]
theorem lk_lt {P D : Aut} (g : Good2 P D) {free : Int} {p q k : Nat} (hp : p < P.next.length) (hq : q < D.next.length) (h : lk P D free p q = (k : Int)) : k + 1 ≤ P.next.length * D.next.length := lv_lt g hp hq ((lk_eq g hp hq).1 h)
theorem lk_never {P D : Aut} (g : Good2 P D) {free : Int} {p q : Nat} (hp : p < P.next.length) (hq : q < D.next.length) (h : lk P D free p q = -1) (k : Nat) : lenB P D free k p q = false := by
  rcases e : lenB P D free k p q with _ | _
  · rfl
  · obtain ⟨m, _, hm⟩ := lv_least e
    have := (lk_eq g hp hq).2 hm
    omega
theorem lk_zero {P D : Aut} (g : Good2 P D) {free : Int} {p q : Nat} (hp : p < P.next.length) (hq : q < D.next.length) : lk P D free p q = 0 ↔ lenB P D free 0 p q = true := by
  have := lk_eq g (free := free) hp hq (k := 0)
  exact ⟨fun h => (this.1 h).yes, fun h => this.2 ⟨h, fun j hj => by omega⟩⟩
theorem lk_live {P D : Aut} (g : Good2 P D) {free : Int} {p q : Nat} (hp : p < P.next.length) (hq : q < D.next.length) (h : live2 P D p q = false) : lk P D free p q = -1 := by
  rcases lk_cases P D free p q with e | ⟨k, e⟩
  · exact e
  · have := lenB_live ((lk_eq g hp hq).1 e).yes
    rw [h] at this; cases this
theorem lk_down {P D : Aut} (g : Good2 P D) {free : Int} {p q k : Nat} (hp : p < P.next.length) (hq : q < D.next.length) (h : lk P D free p q = ((k + 1 : Nat) : Int)) : ∃ c : Nat, (c : Int) < P.L ∧ lk P D free (step P p c) (step D q c) = (k : Int) := by
  obtain ⟨c, hc, h1⟩ := lv_down g hp hq ((lk_eq g hp hq).1 h)
  exact ⟨c, hc, (lk_eq g (g.ga.step_lt hp hc) (g.gb.step_lt hq (by rw [← g.eL]; exact hc))).2 h1⟩
theorem lk_up {P D : Aut} (g : Good2 P D) {free : Int} {p q k c : Nat} (hp : p < P.next.length) (hq : q < D.next.length) (hc : (c : Int) < P.L) (h : lk P D free (step P p c) (step D q c) = (k : Int)) (hn : ∀ j : Nat, j ≤ k → lk P D free p q ≠ (j : Int)) : lk P D free p q = ((k + 1 : Nat) : Int) := by
  have h1 := ((lk_eq g (g.ga.step_lt hp hc) (g.gb.step_lt hq (by rw [← g.eL]; exact hc))).1 h).yes
  obtain ⟨m, q1, q2⟩ := lv_least (lenB_step g hp hq hc h1)
  have hm := (lk_eq g hp hq).2 q2
  rcases Nat.lt_or_eq_of_le q1 with hlt | e
  · exact absurd hm (hn m (by omega))
  · rw [← e]; exact hm
theorem lk_gap {P D : Aut} (g : Good2 P D) {free : Int} {k : Nat} (h : ∀ x y, x < P.next.length → y < D.next.length → lk P D free x y ≠ (k : Int)) :
    ∀ j, k ≤ j → ∀ x y, x < P.next.length → y < D.next.length → lk P D free x y ≠ (j : Int) := by
  intro j
  induction j with
  | zero => intro hk x y hx hy; obtain rfl : k = 0 := by omega
            exact h x y hx hy
  | succ j ih =>
    intro hk x y hx hy e
    rcases Nat.lt_or_eq_of_le hk with hlt | rfl
    · obtain ⟨c, hc, hl⟩ := lk_down g hx hy e
      exact ih (by omega) _ _ (g.ga.step_lt hx hc) (g.gb.step_lt hy (by rw [← g.eL]; exact hc)) hl
    · exact h x y hx hy e

/-! ### the table -/
/-- What the table holds of a pair in round k: before, and behind the pair's turn. -/
def kv (P D : Aut) (free : Int) (k : Nat) (done : Bool) (x y : Nat) : Int := if lk P D free x y < (k : Int) ∨ (lk P D free x y = (k : Int) ∧ done = true) then (if lk P D free x y < 0 then -1 else lk P D free x y + 1) else -1
/-- The whole table. -/
def kvAll (P D : Aut) (free : Int) (x y : Nat) : Int := if lk P D free x y < 0 then -1 else lk P D free x y + 1
theorem kvAll_neg {P D : Aut} {free : Int} {x y : Nat} (h : lk P D free x y < 0) : kvAll P D free x y = -1 := if_pos h
theorem kvAll_pos {P D : Aut} {free : Int} {x y : Nat} (h : ¬ lk P D free x y < 0) : kvAll P D free x y = lk P D free x y + 1 := if_neg h
theorem kv_in {P D : Aut} {free : Int} {k : Nat} {e : Bool} {x y : Nat} (h : lk P D free x y < (k : Int) ∨ (lk P D free x y = (k : Int) ∧ e = true)) : kv P D free k e x y = kvAll P D free x y := if_pos h
theorem kv_out {P D : Aut} {free : Int} {k : Nat} {e : Bool} {x y : Nat} (h : ¬ (lk P D free x y < (k : Int) ∨ (lk P D free x y = (k : Int) ∧ e = true))) : kv P D free k e x y = -1 := if_neg h
theorem kv_known {P D : Aut} {free : Int} {k : Nat} {e : Bool} {x y : Nat} (h : 0 ≤ kv P D free k e x y) : kv P D free k e x y = lk P D free x y + 1 ∧ 0 ≤ lk P D free x y ∧ (lk P D free x y < (k : Int) ∨ (lk P D free x y = (k : Int) ∧ e = true)) := by
  by_cases q : lk P D free x y < (k : Int) ∨ (lk P D free x y = (k : Int) ∧ e = true)
  · rw [kv_in q] at h ⊢
    by_cases hn : lk P D free x y < 0
    · rw [kvAll_neg hn] at h; omega
    · rw [kvAll_pos hn]
      exact ⟨rfl, by omega, q⟩
  · rw [kv_out q] at h; omega
theorem kv_neg {P D : Aut} {free : Int} {k : Nat} {x y : Nat} (h : kv P D free k false x y < 0) {j : Nat} (hj : j < k) : lk P D free x y ≠ (j : Int) := by
  intro e
  have q : lk P D free x y < (k : Int) ∨ (lk P D free x y = (k : Int) ∧ false = true) := .inl (by omega)
  rw [kv_in q, kvAll_pos (by omega)] at h
  omega
theorem kv_hit {P D : Aut} {free : Int} {k : Nat} {e : Bool} {x y : Nat} : kv P D free (k + 1) e x y = (k : Int) + 1 ↔ lk P D free x y = (k : Int) := by
  constructor
  · intro h
    have := (kv_known (k := k + 1) (e := e) (x := x) (y := y) (P := P) (D := D) (free := free) (by omega)).1
    omega
  · intro h
    have q : lk P D free x y < ((k + 1 : Nat) : Int) ∨ (lk P D free x y = ((k + 1 : Nat) : Int) ∧ e = true) := .inl (by omega)
    rw [kv_in q, kvAll_pos (by omega), h]
theorem kv_old {P D : Aut} {free : Int} {k : Nat} {x y : Nat} (h : 0 ≤ kv P D free k false x y) : kv P D free k true x y = kv P D free k false x y := by
  have h1 : lk P D free x y < (k : Int) := by
    rcases (kv_known h).2.2 with q | q
    · exact q
    · exact absurd q.2 (by decide)
  have q1 : lk P D free x y < (k : Int) ∨ (lk P D free x y = (k : Int) ∧ true = true) := .inl h1
  have q2 : lk P D free x y < (k : Int) ∨ (lk P D free x y = (k : Int) ∧ false = true) := .inl h1
  rw [kv_in q1, kv_in q2]
theorem kv_set {P D : Aut} (g : Good2 P D) {free : Int} {k x y c : Nat} (hx : x < P.next.length) (hy : y < D.next.length) (h : kv P D free (k + 1) false x y < 0) (hc : (c : Int) < P.L) (hl : lk P D free (step P x c) (step D y c) = (k : Int)) : lk P D free x y = ((k + 1 : Nat) : Int) ∧ kv P D free (k + 1) true x y = ((k + 1 : Nat) : Int) + 1 := by
  have e := lk_up g hx hy hc hl fun j hj => kv_neg h (by omega)
  have q : lk P D free x y < ((k + 1 : Nat) : Int) ∨ (lk P D free x y = ((k + 1 : Nat) : Int) ∧ true = true) := .inr ⟨e, rfl⟩
  refine ⟨e, ?_⟩
  rw [kv_in q, kvAll_pos (by omega), e]
theorem kv_keep {P D : Aut} (g : Good2 P D) {free : Int} {k x y : Nat} (hx : x < P.next.length) (hy : y < D.next.length) (h : ∀ c : Nat, (c : Int) < P.L → lk P D free (step P x c) (step D y c) ≠ (k : Int)) : kv P D free (k + 1) true x y = kv P D free (k + 1) false x y ∧ lk P D free x y ≠ ((k + 1 : Nat) : Int) := by
  have hn : lk P D free x y ≠ ((k + 1 : Nat) : Int) := fun e => by
    obtain ⟨c, hc, hl⟩ := lk_down g hx hy e
    exact h c hc hl
  refine ⟨?_, hn⟩
  by_cases q : lk P D free x y < ((k + 1 : Nat) : Int)
  · have q1 : lk P D free x y < ((k + 1 : Nat) : Int) ∨ (lk P D free x y = ((k + 1 : Nat) : Int) ∧ true = true) := .inl q
    have q2 : lk P D free x y < ((k + 1 : Nat) : Int) ∨ (lk P D free x y = ((k + 1 : Nat) : Int) ∧ false = true) := .inl q
    rw [kv_in q1, kv_in q2]
  · have q1 : ¬ (lk P D free x y < ((k + 1 : Nat) : Int) ∨ (lk P D free x y = ((k + 1 : Nat) : Int) ∧ true = true)) := fun z => z.elim q fun z => hn z.1
    have q2 : ¬ (lk P D free x y < ((k + 1 : Nat) : Int) ∨ (lk P D free x y = ((k + 1 : Nat) : Int) ∧ false = true)) := fun z => z.elim q fun z => hn z.1
    rw [kv_out q1, kv_out q2]
theorem kv_dead {P D : Aut} (g : Good2 P D) {free : Int} {k x y : Nat} (hx : x < P.next.length) (hy : y < D.next.length) (h : live2 P D x y = false) (e : Bool) : kv P D free k e x y = -1 := by
  by_cases q : lk P D free x y < (k : Int) ∨ (lk P D free x y = (k : Int) ∧ e = true)
  · rw [kv_in q, kvAll_neg (by rw [lk_live g hx hy h]; omega)]
  · exact kv_out q
theorem kv_next (P D : Aut) (free : Int) (k x y : Nat) : kv P D free k true x y = kv P D free (k + 1) false x y := by
  by_cases q : lk P D free x y < (k : Int) ∨ (lk P D free x y = (k : Int) ∧ true = true)
  · have q2 : lk P D free x y < ((k + 1 : Nat) : Int) ∨ (lk P D free x y = ((k + 1 : Nat) : Int) ∧ false = true) := .inl (by rcases q with q | q <;> omega)
    rw [kv_in q, kv_in q2]
  · have q2 : ¬ (lk P D free x y < ((k + 1 : Nat) : Int) ∨ (lk P D free x y = ((k + 1 : Nat) : Int) ∧ false = true)) := fun z => by
      rcases z with z | z
      · rcases Int.lt_or_eq_of_le (by omega : lk P D free x y ≤ (k : Int)) with q1 | q1
        · exact q (.inl q1)
        · exact q (.inr ⟨q1, rfl⟩)
      · exact absurd z.2 (by decide)
    rw [kv_out q, kv_out q2]
theorem kv_start {P D : Aut} (g : Good2 P D) {free : Int} {x y : Nat} (hx : x < P.next.length) (hy : y < D.next.length) : kv P D free 1 false x y = if lenB P D free 0 x y = true then 1 else -1 := by
  by_cases h : lenB P D free 0 x y = true
  · have e := (lk_zero g hx hy).2 h
    have q : lk P D free x y < ((1 : Nat) : Int) ∨ (lk P D free x y = ((1 : Nat) : Int) ∧ false = true) := .inl (by omega)
    rw [if_pos h, kv_in q, kvAll_pos (by omega), e]; rfl
  · have e : lk P D free x y ≠ 0 := fun e => h ((lk_zero g hx hy).1 e)
    rw [if_neg h]
    by_cases q : lk P D free x y < ((1 : Nat) : Int) ∨ (lk P D free x y = ((1 : Nat) : Int) ∧ false = true)
    · rw [kv_in q, kvAll_neg]
      rcases lk_cases P D free x y with e1 | ⟨k, e1⟩
      · omega
      · rcases q with q | q
        · omega
        · exact absurd q.2 (by decide)
    · exact kv_out q
theorem kv_end {P D : Aut} (g : Good2 P D) {free : Int} {k : Nat} (h : ∀ x y, x < P.next.length → y < D.next.length → lk P D free x y ≠ (k : Int)) {x y : Nat} (hx : x < P.next.length) (hy : y < D.next.length) (e : Bool) : kv P D free k e x y = kvAll P D free x y := by
  by_cases q : lk P D free x y < (k : Int) ∨ (lk P D free x y = (k : Int) ∧ e = true)
  · exact kv_in q
  · rw [kv_out q]
    rcases lk_cases P D free x y with q1 | ⟨j, q1⟩
    · rw [kvAll_neg (by omega)]
    · have hj : ¬ j < k := fun hlt => q (.inl (by omega))
      exact absurd q1 (lk_gap g h j (by omega) x y hx hy)
theorem kvAll_eq {P D : Aut} {free : Int} {x y k : Nat} : kvAll P D free x y = (k : Int) + 1 ↔ lk P D free x y = (k : Int) := by
  constructor
  · intro h
    by_cases q : lk P D free x y < 0
    · rw [kvAll_neg q] at h; omega
    · rw [kvAll_pos q] at h; omega
  · intro h; rw [kvAll_pos (by omega), h]
/-- The word is read off the table: at each step the first letter that leads to the level below. -/
theorem pickB_next {P D : Aut} (g : Good2 P D) {free : Int} {k x y : Nat} (hx : x < P.next.length) (hy : y < D.next.length) (h : lk P D free x y = ((k + 1 : Nat) : Int)) {c : Nat} (hc : (c : Int) < P.L) (hl : lk P D free (step P x c) (step D y c) = (k : Int))
    (hmin : ∀ e, e < c → lk P D free (step P x e) (step D y e) ≠ (k : Int)) : pickB P D free (k + 1) x y = (c : Int) :: pickB P D free k (step P x c) (step D y c) := by
  have hL := g.ga.l1
  have h0 := (lk_eq g hx hy).1 h
  have e1 : least P.L.toNat (fun c => lenB P D free k (step P x c) (step D y c)) = some c := by
    refine least_is (by omega) ((lk_eq g (g.ga.step_lt hx hc) (g.gb.step_lt hy (by rw [← g.eL]; exact hc))).1 hl).yes fun e he => ?_
    have heL : (e : Int) < P.L := by omega
    rcases q : lenB P D free k (step P x e) (step D y e) with _ | _
    · rfl
    · refine absurd ((lk_eq g (g.ga.step_lt hx heL) (g.gb.step_lt hy (by rw [← g.eL]; exact heL))).2 ⟨q, fun j hj => ?_⟩) (hmin e he)
      rcases q2 : lenB P D free j (step P x e) (step D y e) with _ | _
      · rfl
      · have := lenB_step g hx hy heL q2
        rw [h0.no (j + 1) (by omega)] at this; cases this
  rw [pickB, e1]
theorem pickB_last {P D : Aut} {free : Int} {x y c : Nat} (hc : c < P.L.toNat) (hb : badC P D free x y c = true) (hmin : ∀ e, e < c → badC P D free x y e = false) : pickB P D free 0 x y = [(c : Int)] := by
  rw [pickB, least_is hc hb hmin]
theorem keptW_lk {P D : Aut} (g : Good2 P D) {free : Int} {k : Nat} (h : lk P D free P.s.toNat D.s.toNat = (k : Int)) : keptW P D free = some (pickB P D free k P.s.toNat D.s.toNat) := by
  have hl := (lk_eq g g.ga.s_lt g.gb.s_lt).1 h
  exact keptW_pick g hl.yes hl.no
theorem keptW_no {P D : Aut} (g : Good2 P D) {free : Int} (h : lk P D free P.s.toNat D.s.toNat = -1) : keptW P D free = none :=
  keptW_never g fun k => lk_never g g.ga.s_lt g.gb.s_lt h k
end Go.Proofs.YtbciefeipiphiaaDoor.Su

namespace Go.Proofs.YtbciefeipiphiaaDoor.Su
open Go.Proofs.YtbciefeipiphiaaDoor.Df Go.Proofs.YtbciefeipiphiaaDoor.Wo Go.Proofs.YtbciefeipiphiaaDoor.Rc Go.Proofs.YtbciefeipiphiaaDoor.Sm Go.Proofs.YtbciefeipiphiaaDoor.Sa Go.Proofs.YtbciefeipiphiaaDoor.Me

/-- Whose turn is over. -/
def tn (s t x y : Nat) : Bool := decide (x < s ∨ (x = s ∧ y < t))
theorem tn_row (s n x y : Nat) (hy : y < n) : tn s n x y = tn (s + 1) 0 x y := by unfold tn; rw [decide_eq_decide]; omega
theorem tn_next (s t x y : Nat) (h : ¬(x = s ∧ y = t)) : tn s t x y = tn s (t + 1) x y := by unfold tn; rw [decide_eq_decide]; omega
theorem tn_start (x y : Nat) : tn 0 0 x y = false := by unfold tn; rw [decide_eq_false]; omega
theorem tn_all {s x : Nat} (y : Nat) (h : x < s) : tn s 0 x y = true := by unfold tn; rw [decide_eq_true]; omega
/-- Both final, or one of the first letters leads on. -/
def okTo (P S : Aut) (Y : PS) (p q c : Nat) : Bool := (finA P p && finA S q) || (List.range c).any fun e => Y (step P p e) (step S q e)
theorem okTo_zero (P S : Aut) (Y : PS) (p q : Nat) : okTo P S Y p q 0 = (finA P p && finA S q) := by unfold okTo; simp
theorem okTo_succ (P S : Aut) (Y : PS) (p q c : Nat) : okTo P S Y p q (c + 1) = (okTo P S Y p q c || Y (step P p c) (step S q c)) := by
  unfold okTo
  rw [List.range_succ, List.any_append, Bool.or_assoc]; simp
def SoundG (P S : Aut) (X Y : PS) : Prop := ∀ p q, p < P.next.length → q < S.next.length → Y p q = true → Co P S X p q
/-- A pass over the pairs, at a pair's turn: from Y0 to Y; g: has something been added? -/
structure Pass (P S : Aut) (X Y0 Y : PS) (g : Bool) (s t : Nat) : Prop where
  sound : SoundG P S X Y
  mono : ∀ p q, Y0 p q = true → Y p q = true
  grew : g = true → ∃ p q, p < P.next.length ∧ q < S.next.length ∧ Y p q = true ∧ Y0 p q = false
  same : g = false → (∀ p q, Y p q = Y0 p q) ∧ ∀ p q, p < P.next.length → q < S.next.length → tn s t p q = true → okTo P S Y p q P.L.toNat = true → X p q = true → Y p q = true
theorem pass_start {P S : Aut} {X Y : PS} (h : SoundG P S X Y) : Pass P S X Y Y false 0 0 := ⟨h, fun _ _ h => h, (fun e => by cases e), fun _ => ⟨fun _ _ => rfl, fun p q _ _ ht => by rw [tn_start] at ht; cases ht⟩⟩
theorem pass_row {P S : Aut} {X Y0 Y : PS} {g : Bool} {s N : Nat} (hN : S.next.length = N) (h : Pass P S X Y0 Y g s N) : Pass P S X Y0 Y g (s + 1) 0 := ⟨h.sound, h.mono, h.grew, fun e => ⟨(h.same e).1, fun p q hp hq ht => (h.same e).2 p q hp hq (by rw [tn_row s N p q (by omega)]; exact ht)⟩⟩
theorem pass_keep {P S : Aut} {X Y0 Y : PS} {g : Bool} {s t : Nat} (hk : okTo P S Y s t P.L.toNat = true → X s t = true → Y s t = true) (h : Pass P S X Y0 Y g s t) : Pass P S X Y0 Y g s (t + 1) := ⟨h.sound, h.mono, h.grew, fun e => ⟨(h.same e).1, fun p q hp hq ht => by
  by_cases e2 : p = s ∧ q = t
  · obtain ⟨rfl, rfl⟩ := e2; exact hk
  · exact (h.same e).2 p q hp hq (by rw [tn_next s t p q e2]; exact ht)⟩⟩
/-- One pair more. -/
def put2 (Y : PS) (i j : Nat) : PS := fun x y => if x = i ∧ y = j then true else Y x y
theorem okTo_co {P S : Aut} (g : Good2 P S) {X Y : PS} (h : SoundG P S X Y) {s t : Nat} (hs : s < P.next.length) (ht : t < S.next.length) (hx : X s t = true) (hok : okTo P S Y s t P.L.toNat = true) : Co P S X s t := by
  unfold okTo at hok
  rw [Bool.or_eq_true, Bool.and_eq_true] at hok
  rcases hok with ⟨h1, h2⟩ | hok
  · exact co_final hx h1 h2
  · obtain ⟨c, hc, hy⟩ := List.any_eq_true.1 hok
    have hc := List.mem_range.1 hc
    have hcL : (c : Int) < P.L := by omega
    exact co_step hx hcL (h _ _ (g.ga.step_lt hs hcL) (g.gb.step_lt ht (by rw [← g.eL]; exact hcL)) hy)
theorem pass_set {P S : Aut} (gd : Good2 P S) {X Y0 Y : PS} {g : Bool} {s t : Nat} (hs : s < P.next.length) (ht : t < S.next.length) (hok : okTo P S Y s t P.L.toNat = true) (hx : X s t = true) (hy : Y s t = false) (h : Pass P S X Y0 Y g s t) : Pass P S X Y0 (put2 Y s t) true s (t + 1) := by
  refine ⟨fun p q hp hq hy => ?_, fun p q h0 => ?_, fun _ => ⟨s, t, hs, ht, ?_, ?_⟩, fun e => by cases e⟩
  · unfold put2 at hy
    split at hy
    · rename_i e
      obtain ⟨rfl, rfl⟩ := e
      exact okTo_co gd h.sound hp hq hx hok
    · exact h.sound p q hp hq hy
  · unfold put2
    split
    · rfl
    · exact h.mono p q h0
  · unfold put2; rw [if_pos ⟨rfl, rfl⟩]
  · rcases e : Y0 s t with _ | _
    · rfl
    · rw [h.mono s t e] at hy; cases hy
/-- A pass that adds nothing: all is there. -/
theorem pass_end {P S : Aut} (gd : Good2 P S) {X Y0 Y : PS} {s : Nat} (hs : P.next.length = s) (h : Pass P S X Y0 Y false s 0) : ∀ p q, p < P.next.length → q < S.next.length → (Y p q = true ↔ Co P S X p q) := fun p q hp hq =>
  ⟨h.sound p q hp hq, fun hc => co_least gd (fun p q hp hq hx f1 f2 => (h.same rfl).2 p q hp hq (tn_all q (by omega)) (by unfold okTo; rw [f1, f2]; rfl) hx)
    (fun p q c hp hq hx hc hy => (h.same rfl).2 p q hp hq (tn_all q (by omega)) (by
      unfold okTo
      rw [Bool.or_eq_true]
      exact .inr (List.any_eq_true.2 ⟨c, List.mem_range.2 (by omega), hy⟩)) hx) hp hq hc⟩

/-! ### how many pairs are in -/
def cntY (M N : Nat) (Y : PS) : Nat := ((List.range (M * N)).filter fun e => Y (e / N) (e % N)).length
theorem cntY_le (M N : Nat) (Y : PS) : cntY M N Y ≤ M * N := by
  unfold cntY
  have := List.length_filter_le (fun e => Y (e / N) (e % N)) (List.range (M * N))
  rwa [List.length_range] at this
theorem cntY_congr {M N : Nat} {Y Z : PS} (h : ∀ p q, p < M → q < N → Y p q = Z p q) : cntY M N Y = cntY M N Z := by
  unfold cntY
  congr 1
  refine List.filter_congr fun e he => ?_
  have he := List.mem_range.1 he
  rcases Nat.eq_zero_or_pos N with h0 | h0
  · subst h0; simp at he
  · exact h _ _ (Nat.div_lt_of_lt_mul (by rw [Nat.mul_comm]; exact he)) (Nat.mod_lt _ h0)
theorem cntY_lt {M N : Nat} {Y Z : PS} (h : ∀ p q, p < M → q < N → Y p q = true → Z p q = true) (hd : ∃ p q, p < M ∧ q < N ∧ Z p q = true ∧ Y p q = false) : cntY M N Y < cntY M N Z := by
  obtain ⟨p, q, hp, hq, h1, h2⟩ := hd
  have hin : ∀ e, e < M * N → Y (e / N) (e % N) = true → Z (e / N) (e % N) = true := fun e he hy => by
    rcases Nat.eq_zero_or_pos N with h0 | h0
    · subst h0; simp at he
    · exact h _ _ (Nat.div_lt_of_lt_mul (by rw [Nat.mul_comm]; exact he)) (Nat.mod_lt _ h0) hy
  obtain ⟨k1, k2⟩ := filter_less (l := List.range (M * N)) (A := fun e => Z (e / N) (e % N)) (B := fun e => Y (e / N) (e % N)) fun e he hy => hin e (List.mem_range.1 he) hy
  obtain ⟨e1, e2⟩ := code_pair (p := p) hq
  by_cases e : cntY M N Y = cntY M N Z
  · have := k2 e (q + p * N) (List.mem_range.2 (code_lt hp hq)) (by show Z _ _ = true; rw [e1, e2]; exact h1)
    rw [e1, e2] at this
    rw [h2] at this; cases this
  · unfold cntY at e ⊢; omega

/-! ### the pairs that stay -/
def freeTo (P S : Aut) (free : Int) (Y : PS) (p q c : Nat) : Bool := (List.range c).all fun e => !(has free (e : Int) && isAlive P (step P p e) && !Y (step P p e) (step S q e))
theorem freeTo_zero (P S : Aut) (free : Int) (Y : PS) (p q : Nat) : freeTo P S free Y p q 0 = true := rfl
theorem freeTo_succ (P S : Aut) (free : Int) (Y : PS) (p q c : Nat) : freeTo P S free Y p q (c + 1) = (freeTo P S free Y p q c && !(has free (c : Int) && isAlive P (step P p c) && !Y (step P p c) (step S q c))) := by
  unfold freeTo
  rw [List.range_succ, List.all_append]; simp
/-- What is left of a set's pairs: Y are those of the passes. -/
def leftY (P S : Aut) (free : Int) (Y : PS) : PS := fun p q => Y p q && freeTo P S free Y p q P.L.toNat
theorem left_round {P S : Aut} (g : Good2 P S) {free : Int} {X Y : PS} (h : ∀ p q, p < P.next.length → q < S.next.length → (Y p q = true ↔ Co P S X p q)) : Round P S free X (leftY P S free Y) := fun p q hp hq => by
  unfold leftY Leaves
  rw [Bool.and_eq_true, h p q hp hq]
  constructor
  · rintro ⟨h1, h2⟩
    refine ⟨h1, fun c hc hf ha => ?_⟩
    have := List.all_eq_true.1 h2 c (List.mem_range.2 (by omega))
    rw [hf, ha] at this
    refine (h _ _ (g.ga.step_lt hp hc) (g.gb.step_lt hq (by rw [← g.eL]; exact hc))).1 ?_
    simpa using this
  · rintro ⟨h1, h2⟩
    refine ⟨h1, List.all_eq_true.2 fun c hc => ?_⟩
    have hc := List.mem_range.1 hc
    have hcL : (c : Int) < P.L := by omega
    rcases hf : has free (c : Int) with _ | _
    · rfl
    · rcases ha : isAlive P (step P p c) with _ | _
      · rfl
      · have := (h _ _ (g.ga.step_lt hp hcL) (g.gb.step_lt hq (by rw [← g.eL]; exact hcL))).2 (h2 c hcL hf ha)
        rw [this]; rfl
end Go.Proofs.YtbciefeipiphiaaDoor.Su
