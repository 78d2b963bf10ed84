/- Plain mathematics of nfa: what moves by no letter lead to, by passes over the moves. -/
import Derived.Test.YtinehjfanabegaaDoorNfaN
namespace Go.Proofs.YtinehjfanabegaaDoor.Nf
open Go.Proofs.YtinehjfanabegaaDoor.Df Go.Proofs.YtinehjfanabegaaDoor.Wo Go.Proofs.YtinehjfanabegaaDoor.Rc Go.Proofs.YtinehjfanabegaaDoor.Sm

/-- One move. -/
def put1 (p : Nat → Bool) (m : Int × Int × Int) : Nat → Bool := fun t => p t || (decide (m.2.1 = -1) && p m.1.toNat && decide (t = m.2.2.toNat))
def passP (l : List (Int × Int × Int)) (p : Nat → Bool) : Nat → Bool := l.foldl put1 p
theorem put1_mono {p : Nat → Bool} {m : Int × Int × Int} {t : Nat} (h : p t = true) : put1 p m t = true := by unfold put1; rw [h]; rfl
theorem passP_mono : ∀ (l : List (Int × Int × Int)) {p : Nat → Bool} {t : Nat}, p t = true → passP l p t = true
  | [], _, _, h => h
  | m :: l, _, _, h => passP_mono l (put1_mono (m := m) h)
theorem passP_has : ∀ (l : List (Int × Int × Int)) {p : Nat → Bool} {x y : Int}, (x, -1, y) ∈ l → p x.toNat = true → passP l p y.toNat = true
  | [], _, _, _, h, _ => by cases h
  | m :: l, p, x, y, h, hp => by
    rcases List.mem_cons.1 h with e | h
    · subst e
      refine passP_mono l ?_
      unfold put1
      simp [hp]
    · exact passP_has l h (put1_mono hp)
/-- Nothing more to find. -/
def Shut (a : Nfa) (p : Nat → Bool) : Prop := ∀ x y : Int, (x, -1, y) ∈ a.mv → p x.toNat = true → p y.toNat = true
theorem passP_shut {a : Nfa} {p : Nat → Bool} (h : Shut a p) : ∀ (l : List (Int × Int × Int)), (∀ m ∈ l, m ∈ a.mv) → passP l p = p
  | [], _ => rfl
  | m :: l, hl => by
    have e : put1 p m = p := funext fun t => by
      unfold put1
      rcases m with ⟨x, c, y⟩
      by_cases h1 : c = -1 ∧ p x.toNat = true ∧ t = y.toNat
      · obtain ⟨rfl, h2, rfl⟩ := h1
        rw [h x y (hl _ List.mem_cons_self) h2]; rfl
      · have : (decide (c = -1) && p x.toNat && decide (t = y.toNat)) = false := by
          rcases hb : (decide (c = -1) && p x.toNat && decide (t = y.toNat)) with _ | _
          · rfl
          · simp only [Bool.and_eq_true, decide_eq_true_eq] at hb
            exact absurd ⟨hb.1.1, hb.1.2, hb.2⟩ h1
        simp only [this, Bool.or_false]
    show passP l (put1 p m) = p
    rw [e]
    exact passP_shut h l fun z hz => hl z (List.mem_cons_of_mem _ hz)
def itP (a : Nfa) : Nat → (Nat → Bool) → Nat → Bool
  | 0, p => p
  | k + 1, p => passP a.mv (itP a k p)
theorem itP_mono {a : Nfa} {p : Nat → Bool} {t k j : Nat} (h : itP a k p t = true) (hj : k ≤ j) : itP a j p t = true := by
  induction hj with
  | refl => exact h
  | step _ ih => exact passP_mono _ ih
theorem itP_shut {a : Nfa} {p : Nat → Bool} {k j : Nat} (h : Shut a (itP a k p)) (hj : k ≤ j) : itP a j p = itP a k p := by
  induction hj with
  | refl => rfl
  | @step m _ ih =>
    show passP a.mv (itP a m p) = _
    rw [ih]
    exact passP_shut h a.mv fun _ hm => hm
theorem passP_sound {a : Nfa} (g : Good a) {q : Nat → Bool} : ∀ (l : List (Int × Int × Int)) {p : Nat → Bool}, (∀ m ∈ l, m ∈ a.mv) → (∀ t, p t = true → ∃ s, q s = true ∧ Rch (epsS a) s t) → ∀ t, passP l p t = true → ∃ s, q s = true ∧ Rch (epsS a) s t
  | [], _, _, hp, t, h => hp t h
  | m :: l, p, hl, hp, t, h => by
    refine passP_sound g l (p := put1 p m) (fun z hz => hl z (List.mem_cons_of_mem _ hz)) (fun u hu => ?_) t h
    unfold put1 at hu
    rcases hpu : p u with _ | _
    · rw [hpu, Bool.false_or] at hu
      simp only [Bool.and_eq_true, decide_eq_true_eq] at hu
      obtain ⟨⟨h1, h2⟩, rfl⟩ := hu
      obtain ⟨s, hs, hr⟩ := hp _ h2
      have hm := hl m List.mem_cons_self
      have hg := g.mv m hm
      refine ⟨s, hs, .next hr ((mem_epsS g).2 ?_)⟩
      rw [Int.toNat_of_nonneg hg.1.1, Int.toNat_of_nonneg hg.2.1.1, ← h1]
      exact hm
    · exact hp u hpu
theorem itP_sound {a : Nfa} (g : Good a) {p : Nat → Bool} (k : Nat) : ∀ t, itP a k p t = true → ∃ s, p s = true ∧ Rch (epsS a) s t := by
  induction k with
  | zero => intro t h; exact ⟨t, h, .base⟩
  | succ k ih => exact passP_sound g a.mv (fun _ h => h) ih
/-- After as many passes as there are states nothing more is found. -/
theorem itP_end {a : Nfa} (g : Good a) (p : Nat → Bool) : Shut a (itP a a.n.toNat p) := by
  apply Classical.byContradiction
  intro hn
  have hall : ∀ k, k ≤ a.n.toNat → ¬ Shut a (itP a k p) := fun k hk h => hn (by rw [itP_shut h hk]; exact h)
  have hcnt : ∀ k, k ≤ a.n.toNat → k ≤ ((List.range a.n.toNat).filter (itP a k p)).length := by
    intro k
    induction k with
    | zero => intro _; omega
    | succ k ih =>
      intro hk
      have h1 := ih (by omega)
      have h2 := hall k (by omega)
      obtain ⟨x, h3⟩ := Classical.not_forall.1 h2
      obtain ⟨y, h4⟩ := Classical.not_forall.1 h3
      obtain ⟨hm, h5⟩ := Classical.not_imp.1 h4
      obtain ⟨h6, h7⟩ := Classical.not_imp.1 h5
      have hy := (g.mv _ hm).2.1
      have hy1 := hy.1; have hy2 := hy.2
      simp only at hy1 hy2
      have h8 : itP a k p y.toNat = false := by
        rcases e : itP a k p y.toNat with _ | _
        · rfl
        · exact absurd e h7
      have := filter_lt (l := List.range a.n.toNat) (p := itP a k p) (q := itP a (k + 1) p) (fun t _ ht => itP_mono ht (by omega)) (z := y.toNat) (List.mem_range.2 (by omega)) (passP_has a.mv hm h6) h8
      omega
  have h1 := hcnt a.n.toNat (Nat.le_refl _)
  have hfull : ∀ t, t < a.n.toNat → itP a a.n.toNat p t = true := fun t ht => by
    have h2 : ((List.range a.n.toNat).filter (itP a a.n.toNat p)).length = (List.range a.n.toNat).length := by
      have := List.length_filter_le (itP a a.n.toNat p) (List.range a.n.toNat)
      rw [List.length_range] at this ⊢
      omega
    exact List.length_filter_eq_length_iff.1 h2 t (List.mem_range.2 ht)
  refine hn fun x y hm _ => ?_
  have hy := (g.mv _ hm).2.1
  have hy1 := hy.1; have hy2 := hy.2
  simp only at hy1 hy2
  exact hfull _ (by omega)
/-- The passes find what the moves by no letter lead to. -/
theorem itP_iff {a : Nfa} (g : Good a) {p : Nat → Bool} {t : Nat} : itP a a.n.toNat p t = true ↔ ∃ s, p s = true ∧ Way a s [] t := by
  constructor
  · intro h
    obtain ⟨s, hs, hr⟩ := itP_sound g _ t h
    exact ⟨s, hs, (way_eps g).2 hr⟩
  · rintro ⟨s, hs, hw⟩
    have hr := (way_eps g).1 hw
    induction hr with
    | base => exact itP_mono (k := 0) hs (by omega)
    | next hz ht ih =>
      have hm := (mem_epsS g).1 ht
      have := itP_end g p _ _ hm (by simpa using ih ((way_eps g).2 hz))
      simpa using this
/-- A set as a row of bools. -/
def bits (a : Nfa) (p : Nat → Bool) : List Bool := (List.range a.n.toNat).map p
theorem clo_bits {a : Nfa} (g : Good a) {X : List Nat} (hX : ∀ s ∈ X, s < a.n.toNat) {t : Nat} : decide (t ∈ clo a X) = itP a a.n.toNat (fun s => decide (s ∈ X)) t := by
  refine Bool.eq_iff_iff.2 ?_
  rw [decide_eq_true_iff, mem_clo g hX, itP_iff g]
  constructor
  · rintro ⟨s, hs, h⟩; exact ⟨s, decide_eq_true hs, h⟩
  · rintro ⟨s, hs, h⟩; exact ⟨s, of_decide_eq_true hs, h⟩
end Go.Proofs.YtinehjfanabegaaDoor.Nf
