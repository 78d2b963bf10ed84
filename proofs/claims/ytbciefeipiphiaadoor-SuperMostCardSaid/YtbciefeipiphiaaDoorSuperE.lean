/- Plain mathematics of package super's search: pairs within what is begun, each with a word; the first word that leads out. -/
import Derived.Test.YtbciefeipiphiaaDoorSmallT
import Derived.Test.YtbciefeipiphiaaDoorSuperM
namespace Go.Proofs.YtbciefeipiphiaaDoor.Su
open Go.Proofs.YtbciefeipiphiaaDoor.Df Go.Proofs.YtbciefeipiphiaaDoor.Wo Go.Proofs.YtbciefeipiphiaaDoor.Rc Go.Proofs.YtbciefeipiphiaaDoor.Sm Go.Proofs.YtbciefeipiphiaaDoor.Sa

/-- Both are final there. -/
def inE (a b : Aut) (p : Pr) : Bool := finA a p.1 && finA b p.2
/-- The next pair; back to the start where it is not within. -/
def goE (a b : Aut) (s p : Pr) (c : Nat) : Pr := if inE a b (go2 a b p c) then go2 a b p c else s
/-- A free letter leads out. -/
def outE (a b : Aut) (free : Int) (p : Pr) (c : Nat) : Bool := has free (c : Int) && (finA a (go2 a b p c).1 && !finA b (go2 a b p c).2)
/-- What is known of each that is found. -/
structure InL (a b : Aut) (s : Pr) (x : Fg Pr) : Prop where
  lt : x.1.1 < a.next.length ∧ x.1.2 < b.next.length
  run : runG (go2 a b) s x.2 = x.1
  fin : finA b x.1.2 = true
/-- The search, i of them done; none of these is led out of. -/
structure HuntE (a b : Aut) (free : Int) (s : Pr) (l : List (Fg Pr)) (i : Nat) : Prop where
  srch : SrchG (goE a b s) a.L s l i 0
  nd : (l.map (·.1)).Nodup
  all : ∀ x ∈ l, InL a b s x
  no : ∀ j y, j < i → l[j]? = some y → ∀ c : Nat, (c : Int) < a.L → outE a b free y.1 c = false
  le : i ≤ l.length
theorem huntE_start {a b : Aut} {free : Int} {s : Pr} (h : s.1 < a.next.length ∧ s.2 < b.next.length) (hf : finA b s.2 = true) : HuntE a b free s [(s, [])] 0 :=
  ⟨srchG_start _ _ _, by simp, fun x hx => by simp at hx; subst hx; exact ⟨h, rfl, hf⟩, fun j y hj => by omega, by simp⟩
theorem go2_lt {a b : Aut} (g : Good2 a b) {p : Pr} (h : p.1 < a.next.length ∧ p.2 < b.next.length) {c : Nat} (hc : (c : Int) < a.L) : (go2 a b p c).1 < a.next.length ∧ (go2 a b p c).2 < b.next.length :=
  ⟨g.ga.step_lt h.1 hc, g.gb.step_lt h.2 (by rw [← g.eL]; exact hc)⟩
theorem addGsE {a b : Aut} (g : Good2 a b) {s : Pr} {l : List (Fg Pr)} (h : ∀ x ∈ l, InL a b s x) (hs : knownG l s) {x : Fg Pr} (hx : x ∈ l) {c : Nat} (hc : (c : Int) ≤ a.L) : ∀ y ∈ addGs (goE a b s) l x c, InL a b s y := by
  induction c with
  | zero => exact h
  | succ c ih =>
    intro y hy
    rw [addGs] at hy
    unfold addG at hy
    by_cases hk : knownG (addGs (goE a b s) l x c) (goE a b s x.1 c)
    · rw [if_pos hk] at hy; exact ih (by omega) y hy
    · rw [if_neg hk] at hy
      rcases List.mem_append.1 hy with hy | hy
      · exact ih (by omega) y hy
      · simp at hy; subst hy
        have h1 := h x hx
        have hin : inE a b (go2 a b x.1 c) = true := by
          rcases e : inE a b (go2 a b x.1 c) with _ | _
          · exfalso
            apply hk
            have e2 : goE a b s x.1 c = s := by unfold goE; rw [e, if_neg (by simp)]
            rw [e2]
            obtain ⟨m, hm⟩ := addGs_prefix (goE a b s) l x c
            unfold knownG at hs ⊢
            rw [hm, List.map_append]
            exact List.mem_append_left _ hs
          · rfl
        have e : goE a b s x.1 c = go2 a b x.1 c := by unfold goE; rw [hin, if_pos rfl]
        refine ⟨by simp only [e]; exact go2_lt g h1.lt (by omega), ?_, ?_⟩
        · show runG (go2 a b) s (x.2 ++ [(c : Int)]) = goE a b s x.1 c
          rw [runG_append, h1.run, e]; rfl
        · simp only [e]
          unfold inE at hin
          simp at hin
          exact hin.2
theorem HuntE.known {a b : Aut} {free : Int} {s : Pr} {l : List (Fg Pr)} {i : Nat} (h : HuntE a b free s l i) : knownG l s :=
  List.mem_map.2 ⟨_, List.mem_of_getElem? h.srch.hd, rfl⟩
theorem HuntE.n {a b : Aut} (g : Good2 a b) {free : Int} {s : Pr} {l : List (Fg Pr)} {i : Nat} (h : HuntE a b free s l i) : l.length ≤ 1600 := by
  have h1 := nodup_le_of (l := l.map (·.1)) (n := a.next.length * b.next.length) h.nd (fun p => p.1 * b.next.length + p.2) (fun x hx y hy e => ?_) (fun x hx => ?_)
  · have h2 : a.next.length * b.next.length ≤ 40 * 40 := Nat.mul_le_mul g.ga.n40 g.gb.n40
    rw [List.length_map] at h1; omega
  · obtain ⟨x', hx', rfl⟩ := List.mem_map.1 hx
    obtain ⟨y', hy', rfl⟩ := List.mem_map.1 hy
    have h1 := (h.all _ hx').lt.2
    have h2 := (h.all _ hy').lt.2
    have e1 : x'.1.2 = y'.1.2 := by
      have := congrArg (· % b.next.length) e
      simp only [Nat.mul_add_mod_self_right] at this
      rwa [Nat.mod_eq_of_lt h1, Nat.mod_eq_of_lt h2] at this
    have e2 : x'.1.1 = y'.1.1 := by
      have e3 : x'.1.1 * b.next.length = y'.1.1 * b.next.length := by simp only [e1] at e; omega
      exact Nat.eq_of_mul_eq_mul_right (by omega) e3
    exact Prod.ext e2 e1
  · obtain ⟨x', hx', rfl⟩ := List.mem_map.1 hx
    have h1 := (h.all _ hx').lt
    have h2 : x'.1.1 * b.next.length + b.next.length ≤ a.next.length * b.next.length := by
      rw [← Nat.succ_mul]; exact Nat.mul_le_mul_right _ h1.1
    show x'.1.1 * b.next.length + x'.1.2 < _
    omega
theorem HuntE.next {a b : Aut} (g : Good2 a b) {free : Int} {s : Pr} {l : List (Fg Pr)} {i : Nat} (h : HuntE a b free s l i) {x : Fg Pr} (hx : l[i]? = some x) (hf : ∀ c : Nat, (c : Int) < a.L → outE a b free x.1 c = false) : HuntE a b free s (addGs (goE a b s) l x a.L.toNat) (i + 1) := by
  obtain ⟨hi, hxi⟩ := List.getElem?_eq_some_iff.1 hx
  obtain ⟨m, hm⟩ := addGs_prefix (goE a b s) l x a.L.toNat
  have h1 := g.ga.l1
  refine ⟨(srchG_letters h.srch hx (c := a.L.toNat) (by omega)).row (by rw [hm, List.length_append]; omega) (by omega), addGs_nodup h.nd _ _, addGsE g h.all h.known (List.mem_of_getElem? hx) (by omega), fun j y hj hy => ?_, by rw [hm, List.length_append]; omega⟩
  rw [hm, List.getElem?_append_left (by omega)] at hy
  by_cases e : j = i
  · subst e
    rw [hx] at hy; obtain rfl := Option.some.inj hy
    exact hf
  · exact h.no j y (by omega) hy
/-- Where all beginnings of what is accepted are accepted. -/
def PreC (d : Aut) : Prop := ∀ q c : Nat, q < d.next.length → (c : Int) < d.L → finA d (step d q c) = true → finA d q = true
/-- A word that leads out, by what is final. -/
def LeadE (a b : Aut) (free : Int) (s : Pr) (w : List Int) : Prop := ∃ v c, w = v ++ [c] ∧ has free c = true ∧ finA a (runA a s.1 w) = true ∧ finA b (runA b s.2 v) = true ∧ finA b (runA b s.2 w) = false
theorem preC_run {d : Aut} (g : Good d) (hp : PreC d) : ∀ (w : List Int) {q : Nat}, Word d.L w → q < d.next.length → finA d (runA d q w) = true → finA d q = true
  | [], _, _, _, h => h
  | a :: w, q, hw, hq, h => by
    have ha := hw a List.mem_cons_self
    exact hp q a.toNat hq (by omega) (preC_run g hp w (fun x hx => hw x (List.mem_cons_of_mem _ hx)) (g.step_lt hq (by omega)) h)
/-- A way that stays within is gone as it is. -/
theorem run_within {a b : Aut} (g : Good2 a b) (ha : PreC a) (hb : PreC b) (s : Pr) : ∀ (w : List Int) {p : Pr}, Word a.L w → p.1 < a.next.length ∧ p.2 < b.next.length → finA a (runA a p.1 w) = true → finA b (runA b p.2 w) = true → runG (goE a b s) p w = (runA a p.1 w, runA b p.2 w)
  | [], _, _, _, _, _ => rfl
  | c :: w, p, hw, hp, h1, h2 => by
    have hc := hw c List.mem_cons_self
    have hw' : Word a.L w := fun x hx => hw x (List.mem_cons_of_mem _ hx)
    have hl := go2_lt g hp (c := c.toNat) (by omega)
    have f1 : finA a (go2 a b p c.toNat).1 = true := preC_run g.ga ha w hw' hl.1 h1
    have f2 : finA b (go2 a b p c.toNat).2 = true := preC_run g.gb hb w (by rw [← g.eL]; exact hw') hl.2 h2
    have e : goE a b s p c.toNat = go2 a b p c.toNat := by unfold goE inE; rw [f1, f2]; rfl
    show runG (goE a b s) (goE a b s p c.toNat) w = _
    rw [e]
    exact run_within g ha hb s w hw' hl h1 h2
theorem runG_pair (a b : Aut) (s : Pr) (w : List Int) : runG (go2 a b) s w = (runA a s.1 w, runA b s.2 w) := run_go2 a b w s
/-- A word that leads out goes by a pair that is led out of. -/
theorem leadE_out {a b : Aut} (g : Good2 a b) (ha : PreC a) (hb : PreC b) {free : Int} {s : Pr} (hs : s.1 < a.next.length ∧ s.2 < b.next.length) {v : List Int} {c : Int} (hw : Word a.L (v ++ [c])) (hf : has free c = true) (h1 : finA a (runA a s.1 (v ++ [c])) = true) (h2 : finA b (runA b s.2 v) = true) (h3 : finA b (runA b s.2 (v ++ [c])) = false) :
    runG (goE a b s) s v = (runA a s.1 v, runA b s.2 v) ∧ outE a b free (runA a s.1 v, runA b s.2 v) c.toNat = true := by
  obtain ⟨hv, h0, hL⟩ := word_snoc.1 hw
  have lp := g.ga.run_lt hv hs.1
  have e1 : runA a s.1 (v ++ [c]) = step a (runA a s.1 v) c.toNat := by rw [runA_append]; rfl
  have e2 : runA b s.2 (v ++ [c]) = step b (runA b s.2 v) c.toNat := by rw [runA_append]; rfl
  rw [e1] at h1
  rw [e2] at h3
  refine ⟨run_within g ha hb s v hv hs (ha _ c.toNat lp (by omega) h1) h2, ?_⟩
  unfold outE go2
  simp only
  rw [show ((c.toNat : Nat) : Int) = c by omega, hf, h1, h3]; rfl
theorem HuntE.hit {a b : Aut} (g : Good2 a b) (ha : PreC a) (hb : PreC b) {free : Int} {s : Pr} (hs : s.1 < a.next.length ∧ s.2 < b.next.length) {l : List (Fg Pr)} {i : Nat} (h : HuntE a b free s l i) {x : Fg Pr} (hx : l[i]? = some x) {c : Nat} (hc : (c : Int) < a.L) (ho : outE a b free x.1 c = true) (hn : ∀ e, e < c → outE a b free x.1 e = false) :
    Word a.L (x.2 ++ [(c : Int)]) ∧ LeadE a b free s (x.2 ++ [(c : Int)]) ∧ ∀ u, Word a.L u → LeadE a b free s u → lss u (x.2 ++ [(c : Int)]) = false := by
  have hm := List.mem_of_getElem? hx
  have hw := (h.srch.ok x hm).1
  have hr := (h.all x hm).run
  rw [runG_pair] at hr
  have hr1 : runA a s.1 x.2 = x.1.1 := congrArg Prod.fst hr
  have hr2 : runA b s.2 x.2 = x.1.2 := congrArg Prod.snd hr
  have ho' := ho
  unfold outE go2 at ho'
  simp only [Bool.and_eq_true, Bool.not_eq_true'] at ho'
  refine ⟨word_snoc.2 ⟨hw, by omega, hc⟩, ⟨x.2, (c : Int), rfl, ho'.1, ?_, ?_, ?_⟩, ?_⟩
  · rw [runA_append, hr1]; exact ho'.2.1
  · rw [hr2]; exact (h.all x hm).fin
  · rw [runA_append, hr2]; exact ho'.2.2
  · rintro u hu ⟨v, e, rfl, k1, k2, k3, k4⟩
    obtain ⟨hv, h0, hL⟩ := word_snoc.1 hu
    obtain ⟨r1, r2⟩ := leadE_out g ha hb hs hu k1 k2 k3 k4
    have hlss := h.srch.early hx (φ := fun p => ∃ c : Nat, (c : Int) < a.L ∧ outE a b free p c = true) (fun j y hj hy ⟨c, hc, k⟩ => by
      rw [h.no j y hj hy c hc] at k; cases k) hv ⟨e.toNat, by omega, by rw [r1]; exact r2⟩
    rcases ahead_or hlss with rfl | hl
    · rw [hr] at r2
      have hce : ¬ e.toNat < c := fun q => by rw [hn _ q] at r2; cases r2
      by_cases q : c = e.toNat
      · rw [show (c : Int) = e by omega]; exact lss_irr _
      · exact lss_asym (lss_last _ (by omega))
    · exact lss_asym (lss_snoc hl _ _)
theorem HuntE.miss {a b : Aut} (g : Good2 a b) (ha : PreC a) (hb : PreC b) {free : Int} {s : Pr} (hs : s.1 < a.next.length ∧ s.2 < b.next.length) {l : List (Fg Pr)} {i : Nat} (h : HuntE a b free s l i) (hi : l.length ≤ i) {u : List Int} (hu : Word a.L u) : ¬ LeadE a b free s u := by
  rintro ⟨v, e, rfl, k1, k2, k3, k4⟩
  obtain ⟨hv, h0, hL⟩ := word_snoc.1 hu
  obtain ⟨r1, r2⟩ := leadE_out g ha hb hs hu k1 k2 k3 k4
  obtain ⟨w, hw1, _⟩ := h.srch.all hi hv
  rw [r1] at hw1
  obtain ⟨j, hj, hj2⟩ := List.getElem_of_mem hw1
  have := h.no j ((runA a s.1 v, runA b s.2 v), w) (by omega) (by rw [List.getElem?_eq_getElem hj, hj2]) e.toNat (by omega)
  rw [this] at r2
  cases r2

/-! ### of two automata's beginnings -/
theorem pre_fin {d : Aut} {q : Nat} (hq : q < d.next.length) : finA (preA d) q = isAlive d q := by rw [judge_fin hq]; rfl
theorem pre_good2 {P D : Aut} (g : Good2 P D) : Good2 (preA P) (preA D) := ⟨judge_good g.ga, judge_good g.gb, g.eL⟩
theorem pre_preC {d : Aut} (g : Good d) : PreC (preA d) := fun q c hq hc h => by
  have hq : q < d.next.length := hq
  have hs : step d q c < d.next.length := g.step_lt hq hc
  have h : finA (preA d) (step d q c) = true := h
  rw [pre_fin hs] at h
  rw [pre_fin hq]
  exact alive_step g hq hc h
theorem leadE_pre {P D : Aut} (g : Good2 P D) {free : Int} {w : List Int} (hw : Word P.L w) : LeadE (preA P) (preA D) free (P.s.toNat, D.s.toNat) w ↔ Lead P D free w := by
  rw [lead_from g hw]
  unfold LeadE LeadF
  constructor
  · rintro ⟨v, c, rfl, h1, h2, h3, h4⟩
    have hv := (word_snoc.1 hw).1
    have l1 := g.ga.run_lt hw g.ga.s_lt
    have l2 := g.gb.run_lt (w := v) (by rw [← g.eL]; exact hv) g.gb.s_lt
    have l3 := g.gb.run_lt (w := v ++ [c]) (by rw [← g.eL]; exact hw) g.gb.s_lt
    exact ⟨v, c, rfl, h1, by rw [← pre_fin l1]; exact h2, by rw [← pre_fin l2]; exact h3, by rw [← pre_fin l3]; exact h4⟩
  · rintro ⟨v, c, rfl, h1, h2, h3, h4⟩
    have hv := (word_snoc.1 hw).1
    have l1 := g.ga.run_lt hw g.ga.s_lt
    have l2 := g.gb.run_lt (w := v) (by rw [← g.eL]; exact hv) g.gb.s_lt
    have l3 := g.gb.run_lt (w := v ++ [c]) (by rw [← g.eL]; exact hw) g.gb.s_lt
    exact ⟨v, c, rfl, h1, (pre_fin l1).trans h2, (pre_fin l2).trans h3, (pre_fin l3).trans h4⟩
/-- What the search gives. -/
def EscIs (a b : Aut) (free : Int) (r : Option (List Int)) : Prop :=
  match r with
  | some w => Word a.L w ∧ LeadE a b free (a.s.toNat, b.s.toNat) w ∧ ∀ u, Word a.L u → LeadE a b free (a.s.toNat, b.s.toNat) u → lss u w = false
  | none => ∀ u, Word a.L u → ¬ LeadE a b free (a.s.toNat, b.s.toNat) u
theorem escIs_start {a b : Aut} (g : Good2 a b) (hb : PreC b) {free : Int} (h : finA b b.s.toNat = false) : EscIs a b free none := by
  rintro u hu ⟨v, c, rfl, h1, h2, h3, h4⟩
  have hv := (word_snoc.1 hu).1
  rw [preC_run g.gb hb v (by rw [← g.eL]; exact hv) g.gb.s_lt h3] at h
  cases h
theorem esc_kept {P D : Aut} (g : Good2 P D) {free : Int} {r : Option (List Int)} (h : EscIs (preA P) (preA D) free r) : keptW P D free = r := by
  rcases r with _ | w
  · rw [keptW_none, ctl_iff]
    intro w hw hl
    exact h w hw ((leadE_pre g hw).2 hl)
  · obtain ⟨h1, h2, h3⟩ := h
    exact keptW_some.2 ⟨h1, (leadE_pre g h1).1 h2, fun u hu hl => h3 u hu ((leadE_pre g hu).2 hl)⟩
end Go.Proofs.YtbciefeipiphiaaDoor.Su
