/- Plain mathematics of package super's search: pairs within what is begun, each with a word; the first word that leads out. What package super's search keeps: pairs as keys of a map; rows of pairs with words. The walk of package super's escape. -/
import Derived.Test.YtbciefeipiphiaaDoorSmallT
import Derived.Test.YtbciefeipiphiaaDoorSuperM
import Derived.Test.YtbciefeipiphiaaDoorSuperA
import Derived.Test.YtbciefeipiphiaaDoorSame2
import Derived.Test.YtbciefeipiphiaaDoorExpl

namespace Go.Proofs.YtbciefeipiphiaaDoor.Su
open Go.Proofs.YtbciefeipiphiaaDoor.Df Go.Proofs.YtbciefeipiphiaaDoor.Wo Go.Proofs.YtbciefeipiphiaaDoor.Rc Go.Proofs.YtbciefeipiphiaaDoor.Sm Go.Proofs.YtbciefeipiphiaaDoor.Sa

/-- Both are final there. -/
def inE (a b : Aut) (p : Pr) : Bool := finA a p.1 && finA b p.2
/-- The next pair; back to the start where it is not within. -/
def goE (a b : Aut) (s p : Pr) (c : Nat) : Pr := if inE a b (go2 a b p c) then go2 a b p c else s
/-- A free letter leads out. -/
def outE (a b : Aut) (free : Int) (p : Pr) (c : Nat) : Bool := has free (c : Int) && (finA a (go2 a b p c).1 && !finA b (go2 a b p c).2)
/-- What is known of each that is found. -/
structure InL (a b : Aut) (s : Pr) (x : Fg Pr) : Prop where
  lt : x.1.1 < a.next.length ∧ x.1.2 < b.next.length
  run : runG (go2 a b) s x.2 = x.1
  fin : finA b x.1.2 = true
/-- The search, i of them done; none of these is led out of. -/
structure HuntE (a b : Aut) (free : Int) (s : Pr) (l : List (Fg Pr)) (i : Nat) : Prop where
  srch : SrchG (goE a b s) a.L s l i 0
  nd : (l.map (·.1)).Nodup
  all : ∀ x ∈ l, InL a b s x
  no : ∀ j y, j < i → l[j]? = some y → ∀ c : Nat, (c : Int) < a.L → outE a b free y.1 c = false
  le : i ≤ l.length
theorem huntE_start {a b : Aut} {free : Int} {s : Pr} (h : s.1 < a.next.length ∧ s.2 < b.next.length) (hf : finA b s.2 = true) : HuntE a b free s [(s, [])] 0 :=
  ⟨srchG_start _ _ _, by simp, fun x hx => by simp at hx; subst hx; exact ⟨h, rfl, hf⟩, fun j y hj => by omega, by simp⟩
theorem go2_lt {a b : Aut} (g : Good2 a b) {p : Pr} (h : p.1 < a.next.length ∧ p.2 < b.next.length) {c : Nat} (hc : (c : Int) < a.L) : (go2 a b p c).1 < a.next.length ∧ (go2 a b p c).2 < b.next.length :=
  ⟨g.ga.step_lt h.1 hc, g.gb.step_lt h.2 (by rw [← g.eL]; exact hc)⟩
theorem addGsE {a b : Aut} (g : Good2 a b) {s : Pr} {l : List (Fg Pr)} (h : ∀ x ∈ l, InL a b s x) (hs : knownG l s) {x : Fg Pr} (hx : x ∈ l) {c : Nat} (hc : (c : Int) ≤ a.L) : ∀ y ∈ addGs (goE a b s) l x c, InL a b s y := by
  induction c with
  | zero => exact h
  | succ c ih =>
    intro y hy
    rw [addGs] at hy
    unfold addG at hy
    by_cases hk : knownG (addGs (goE a b s) l x c) (goE a b s x.1 c)
    · rw [if_pos hk] at hy; exact ih (by omega) y hy
    · rw [if_neg hk] at hy
      rcases List.mem_append.1 hy with hy | hy
      · exact ih (by omega) y hy
      · simp at hy; subst hy
        have h1 := h x hx
        have hin : inE a b (go2 a b x.1 c) = true := by
          rcases e : inE a b (go2 a b x.1 c) with _ | _
          · exfalso
            apply hk
            have e2 : goE a b s x.1 c = s := by unfold goE; rw [e, if_neg (by simp)]
            rw [e2]
            obtain ⟨m, hm⟩ := addGs_prefix (goE a b s) l x c
            unfold knownG at hs ⊢
            rw [hm, List.map_append]
            exact List.mem_append_left _ hs
          · rfl
        have e : goE a b s x.1 c = go2 a b x.1 c := by unfold goE; rw [hin, if_pos rfl]
        refine ⟨by simp only [e]; exact go2_lt g h1.lt (by omega), ?_, ?_⟩
        · show runG (go2 a b) s (x.2 ++ [(c : Int)]) = goE a b s x.1 c
          rw [runG_append, h1.run, e]; rfl
        · simp only [e]
          unfold inE at hin
          simp at hin
          exact hin.2
theorem HuntE.known {a b : Aut} {free : Int} {s : Pr} {l : List (Fg Pr)} {i : Nat} (h : HuntE a b free s l i) : knownG l s :=
  List.mem_map.2 ⟨_, List.mem_of_getElem? h.srch.hd, rfl⟩
theorem HuntE.n {a b : Aut} (g : Good2 a b) {free : Int} {s : Pr} {l : List (Fg Pr)} {i : Nat} (h : HuntE a b free s l i) : l.length ≤ 1600 := by
  have h1 := nodup_le_of (l := l.map (·.1)) (n := a.next.length * b.next.length) h.nd (fun p => p.1 * b.next.length + p.2) (fun x hx y hy e => ?_) (fun x hx => ?_)
  · have h2 : a.next.length * b.next.length ≤ 40 * 40 := Nat.mul_le_mul g.ga.n40 g.gb.n40
    rw [List.length_map] at h1; omega
  · obtain ⟨x', hx', rfl⟩ := List.mem_map.1 hx
    obtain ⟨y', hy', rfl⟩ := List.mem_map.1 hy
    have h1 := (h.all _ hx').lt.2
    have h2 := (h.all _ hy').lt.2
    have e1 : x'.1.2 = y'.1.2 := by
      have := congrArg (· % b.next.length) e
      simp only [Nat.mul_add_mod_self_right] at this
      rwa [Nat.mod_eq_of_lt h1, Nat.mod_eq_of_lt h2] at this
    have e2 : x'.1.1 = y'.1.1 := by
      have e3 : x'.1.1 * b.next.length = y'.1.1 * b.next.length := by simp only [e1] at e; omega
      exact Nat.eq_of_mul_eq_mul_right (by omega) e3
    exact Prod.ext e2 e1
  · obtain ⟨x', hx', rfl⟩ := List.mem_map.1 hx
    have h1 := (h.all _ hx').lt
    have h2 : x'.1.1 * b.next.length + b.next.length ≤ a.next.length * b.next.length := by
      rw [← Nat.succ_mul]; exact Nat.mul_le_mul_right _ h1.1
    show x'.1.1 * b.next.length + x'.1.2 < _
    omega
theorem HuntE.next {a b : Aut} (g : Good2 a b) {free : Int} {s : Pr} {l : List (Fg Pr)} {i : Nat} (h : HuntE a b free s l i) {x : Fg Pr} (hx : l[i]? = some x) (hf : ∀ c : Nat, (c : Int) < a.L → outE a b free x.1 c = false) : HuntE a b free s (addGs (goE a b s) l x a.L.toNat) (i + 1) := by
  obtain ⟨hi, hxi⟩ := List.getElem?_eq_some_iff.1 hx
  obtain ⟨m, hm⟩ := addGs_prefix (goE a b s) l x a.L.toNat
  have h1 := g.ga.l1
  refine ⟨(srchG_letters h.srch hx (c := a.L.toNat) (by omega)).row (by rw [hm, List.length_append]; omega) (by omega), addGs_nodup h.nd _ _, addGsE g h.all h.known (List.mem_of_getElem? hx) (by omega), fun j y hj hy => ?_, by rw [hm, List.length_append]; omega⟩
  rw [hm, List.getElem?_append_left (by omega)] at hy
  by_cases e : j = i
  · subst e
    rw [hx] at hy; obtain rfl := Option.some.inj hy
    exact hf
  · exact h.no j y (by omega) hy
/-- Where all beginnings of what is accepted are accepted. -/
def PreC (d : Aut) : Prop := ∀ q c : Nat, q < d.next.length → (c : Int) < d.L → finA d (Df.step d q c) = true → finA d q = true
/-- A word that leads out, by what is final. -/
def LeadE (a b : Aut) (free : Int) (s : Pr) (w : List Int) : Prop := ∃ v c, w = v ++ [c] ∧ has free c = true ∧ finA a (runA a s.1 w) = true ∧ finA b (runA b s.2 v) = true ∧ finA b (runA b s.2 w) = false
theorem preC_run {d : Aut} (g : Df.Good d) (hp : PreC d) : ∀ (w : List Int) {q : Nat}, Word d.L w → q < d.next.length → finA d (runA d q w) = true → finA d q = true
  | [], _, _, _, h => h
  | a :: w, q, hw, hq, h => by
    have ha := hw a List.mem_cons_self
    exact hp q a.toNat hq (by omega) (preC_run g hp w (fun x hx => hw x (List.mem_cons_of_mem _ hx)) (g.step_lt hq (by omega)) h)
/-- A way that stays within is gone as it is. -/
theorem run_within {a b : Aut} (g : Good2 a b) (ha : PreC a) (hb : PreC b) (s : Pr) : ∀ (w : List Int) {p : Pr}, Word a.L w → p.1 < a.next.length ∧ p.2 < b.next.length → finA a (runA a p.1 w) = true → finA b (runA b p.2 w) = true → runG (goE a b s) p w = (runA a p.1 w, runA b p.2 w)
  | [], _, _, _, _, _ => rfl
  | c :: w, p, hw, hp, h1, h2 => by
    have hc := hw c List.mem_cons_self
    have hw' : Word a.L w := fun x hx => hw x (List.mem_cons_of_mem _ hx)
    have hl := go2_lt g hp (c := c.toNat) (by omega)
    have f1 : finA a (go2 a b p c.toNat).1 = true := preC_run g.ga ha w hw' hl.1 h1
    have f2 : finA b (go2 a b p c.toNat).2 = true := preC_run g.gb hb w (by rw [← g.eL]; exact hw') hl.2 h2
    have e : goE a b s p c.toNat = go2 a b p c.toNat := by unfold goE inE; rw [f1, f2]; rfl
    show runG (goE a b s) (goE a b s p c.toNat) w = _
    rw [e]
    exact run_within g ha hb s w hw' hl h1 h2
theorem runG_pair (a b : Aut) (s : Pr) (w : List Int) : runG (go2 a b) s w = (runA a s.1 w, runA b s.2 w) := run_go2 a b w s
/-- A word that leads out goes by a pair that is led out of. -/
theorem leadE_out {a b : Aut} (g : Good2 a b) (ha : PreC a) (hb : PreC b) {free : Int} {s : Pr} (hs : s.1 < a.next.length ∧ s.2 < b.next.length) {v : List Int} {c : Int} (hw : Word a.L (v ++ [c])) (hf : has free c = true) (h1 : finA a (runA a s.1 (v ++ [c])) = true) (h2 : finA b (runA b s.2 v) = true) (h3 : finA b (runA b s.2 (v ++ [c])) = false) :
    runG (goE a b s) s v = (runA a s.1 v, runA b s.2 v) ∧ outE a b free (runA a s.1 v, runA b s.2 v) c.toNat = true := by
  obtain ⟨hv, h0, hL⟩ := word_snoc.1 hw
  have lp := g.ga.run_lt hv hs.1
  have e1 : runA a s.1 (v ++ [c]) = Df.step a (runA a s.1 v) c.toNat := by rw [runA_append]; rfl
  have e2 : runA b s.2 (v ++ [c]) = Df.step b (runA b s.2 v) c.toNat := by rw [runA_append]; rfl
  rw [e1] at h1
  rw [e2] at h3
  refine ⟨run_within g ha hb s v hv hs (ha _ c.toNat lp (by omega) h1) h2, ?_⟩
  unfold outE go2
  simp only
  rw [show ((c.toNat : Nat) : Int) = c by omega, hf, h1, h3]; rfl
theorem HuntE.hit {a b : Aut} (g : Good2 a b) (ha : PreC a) (hb : PreC b) {free : Int} {s : Pr} (hs : s.1 < a.next.length ∧ s.2 < b.next.length) {l : List (Fg Pr)} {i : Nat} (h : HuntE a b free s l i) {x : Fg Pr} (hx : l[i]? = some x) {c : Nat} (hc : (c : Int) < a.L) (ho : outE a b free x.1 c = true) (hn : ∀ e, e < c → outE a b free x.1 e = false) :
    Word a.L (x.2 ++ [(c : Int)]) ∧ LeadE a b free s (x.2 ++ [(c : Int)]) ∧ ∀ u, Word a.L u → LeadE a b free s u → lss u (x.2 ++ [(c : Int)]) = false := by
  have hm := List.mem_of_getElem? hx
  have hw := (h.srch.ok x hm).1
  have hr := (h.all x hm).run
  rw [runG_pair] at hr
  have hr1 : runA a s.1 x.2 = x.1.1 := congrArg Prod.fst hr
  have hr2 : runA b s.2 x.2 = x.1.2 := congrArg Prod.snd hr
  have ho' := ho
  unfold outE go2 at ho'
  simp only [Bool.and_eq_true, Bool.not_eq_true'] at ho'
  refine ⟨word_snoc.2 ⟨hw, by omega, hc⟩, ⟨x.2, (c : Int), rfl, ho'.1, ?_, ?_, ?_⟩, ?_⟩
  · rw [runA_append, hr1]; exact ho'.2.1
  · rw [hr2]; exact (h.all x hm).fin
  · rw [runA_append, hr2]; exact ho'.2.2
  · rintro u hu ⟨v, e, rfl, k1, k2, k3, k4⟩
    obtain ⟨hv, h0, hL⟩ := word_snoc.1 hu
    obtain ⟨r1, r2⟩ := leadE_out g ha hb hs hu k1 k2 k3 k4
    have hlss := h.srch.early hx (φ := fun p => ∃ c : Nat, (c : Int) < a.L ∧ outE a b free p c = true) (fun j y hj hy ⟨c, hc, k⟩ => by
      rw [h.no j y hj hy c hc] at k; cases k) hv ⟨e.toNat, by omega, by rw [r1]; exact r2⟩
    rcases ahead_or hlss with rfl | hl
    · rw [hr] at r2
      have hce : ¬ e.toNat < c := fun q => by rw [hn _ q] at r2; cases r2
      by_cases q : c = e.toNat
      · rw [show (c : Int) = e by omega]; exact lss_irr _
      · exact lss_asym (lss_last _ (by omega))
    · exact lss_asym (lss_snoc hl _ _)
theorem HuntE.miss {a b : Aut} (g : Good2 a b) (ha : PreC a) (hb : PreC b) {free : Int} {s : Pr} (hs : s.1 < a.next.length ∧ s.2 < b.next.length) {l : List (Fg Pr)} {i : Nat} (h : HuntE a b free s l i) (hi : l.length ≤ i) {u : List Int} (hu : Word a.L u) : ¬ LeadE a b free s u := by
  rintro ⟨v, e, rfl, k1, k2, k3, k4⟩
  obtain ⟨hv, h0, hL⟩ := word_snoc.1 hu
  obtain ⟨r1, r2⟩ := leadE_out g ha hb hs hu k1 k2 k3 k4
  obtain ⟨w, hw1, _⟩ := h.srch.all hi hv
  rw [r1] at hw1
  obtain ⟨j, hj, hj2⟩ := List.getElem_of_mem hw1
  have := h.no j ((runA a s.1 v, runA b s.2 v), w) (by omega) (by rw [List.getElem?_eq_getElem hj, hj2]) e.toNat (by omega)
  rw [this] at r2
  cases r2

/-! ### of two automata's beginnings -/
theorem pre_fin {d : Aut} {q : Nat} (hq : q < d.next.length) : finA (preA d) q = isAlive d q := by rw [judge_fin hq]; rfl
theorem pre_good2 {P D : Aut} (g : Good2 P D) : Good2 (preA P) (preA D) := ⟨judge_good g.ga, judge_good g.gb, g.eL⟩
theorem pre_preC {d : Aut} (g : Df.Good d) : PreC (preA d) := fun q c hq hc h => by
  have hq : q < d.next.length := hq
  have hs : Df.step d q c < d.next.length := g.step_lt hq hc
  have h : finA (preA d) (Df.step d q c) = true := h
  rw [pre_fin hs] at h
  rw [pre_fin hq]
  exact alive_step g hq hc h
theorem leadE_pre {P D : Aut} (g : Good2 P D) {free : Int} {w : List Int} (hw : Word P.L w) : LeadE (preA P) (preA D) free (P.s.toNat, D.s.toNat) w ↔ Lead P D free w := by
  rw [lead_from g hw]
  unfold LeadE LeadF
  constructor
  · rintro ⟨v, c, rfl, h1, h2, h3, h4⟩
    have hv := (word_snoc.1 hw).1
    have l1 := g.ga.run_lt hw g.ga.s_lt
    have l2 := g.gb.run_lt (w := v) (by rw [← g.eL]; exact hv) g.gb.s_lt
    have l3 := g.gb.run_lt (w := v ++ [c]) (by rw [← g.eL]; exact hw) g.gb.s_lt
    exact ⟨v, c, rfl, h1, by rw [← pre_fin l1]; exact h2, by rw [← pre_fin l2]; exact h3, by rw [← pre_fin l3]; exact h4⟩
  · rintro ⟨v, c, rfl, h1, h2, h3, h4⟩
    have hv := (word_snoc.1 hw).1
    have l1 := g.ga.run_lt hw g.ga.s_lt
    have l2 := g.gb.run_lt (w := v) (by rw [← g.eL]; exact hv) g.gb.s_lt
    have l3 := g.gb.run_lt (w := v ++ [c]) (by rw [← g.eL]; exact hw) g.gb.s_lt
    exact ⟨v, c, rfl, h1, (pre_fin l1).trans h2, (pre_fin l2).trans h3, (pre_fin l3).trans h4⟩
/-- What the search gives. -/
def EscIs (a b : Aut) (free : Int) (r : Option (List Int)) : Prop :=
  match r with
  | some w => Word a.L w ∧ LeadE a b free (a.s.toNat, b.s.toNat) w ∧ ∀ u, Word a.L u → LeadE a b free (a.s.toNat, b.s.toNat) u → lss u w = false
  | none => ∀ u, Word a.L u → ¬ LeadE a b free (a.s.toNat, b.s.toNat) u
theorem escIs_start {a b : Aut} (g : Good2 a b) (hb : PreC b) {free : Int} (h : finA b b.s.toNat = false) : EscIs a b free none := by
  rintro u hu ⟨v, c, rfl, h1, h2, h3, h4⟩
  have hv := (word_snoc.1 hu).1
  rw [preC_run g.gb hb v (by rw [← g.eL]; exact hv) g.gb.s_lt h3] at h
  cases h
theorem esc_kept {P D : Aut} (g : Good2 P D) {free : Int} {r : Option (List Int)} (h : EscIs (preA P) (preA D) free r) : keptW P D free = r := by
  rcases r with _ | w
  · rw [keptW_none, ctl_iff]
    intro w hw hl
    exact h w hw ((leadE_pre g hw).2 hl)
  · obtain ⟨h1, h2, h3⟩ := h
    exact keptW_some.2 ⟨h1, (leadE_pre g h1).1 h2, fun u hu hl => h3 u hu ((leadE_pre g hu).2 hl)⟩
end Go.Proofs.YtbciefeipiphiaaDoor.Su

namespace Go.Proofs.YtbciefeipiphiaaDoor.Su
open Go.RowKit Go.IntWalk Go.Proofs.YtbciefeipiphiaaDoor.Wd Go.Proofs.YtbciefeipiphiaaDoor.Wo Go.Proofs.YtbciefeipiphiaaDoor.Df Go.Proofs.YtbciefeipiphiaaDoor.Rc Go.Proofs.YtbciefeipiphiaaDoor.Sm Go.Proofs.YtbciefeipiphiaaDoor.Sa Go.Proofs.YtbciefeipiphiaaDoor.Mp
open Go.Maps (Keyed)

/-! ### pairs -/
abbrev KE (p : Pr) : Value := .agg #[.int .i64 ((p.1 : Nat) : Int), .int .i64 ((p.2 : Nat) : Int)]
theorem KE_inj : ∀ x y : Pr, KE x = KE y → x = y := fun x y h => by
  simp at h
  exact Prod.ext (by omega) (by omega)
theorem keyedE : Keyed Tryd.prog 79 := Keyed.of_law (Go.deep_law (m := 2) (by omega) (by kernel_rfl) (by kernel_rfl) (by kernel_rfl))
set_option maxRecDepth 100000 in
theorem KE_key (p : Pr) (h : p.1 < 1099511627776 ∧ p.2 < 1099511627776) : ∃ kl, keyOf Tryd.prog 79 (KE p) = some kl := by
  unfold keyOf
  rw [Tryd.underlying79]
  simp only
  rw [show Tryd.prog.keyType 79 = true by kernel_rfl, show (KE p).formed Tryd.prog 79 = true by simp [Value.formed, Tryd.underlying79, show Tryd.prog.cellsOf 79 = 2 by kernel_rfl]]
  have hk : ∃ ls, Tryd.prog.keyLits (Tryd.prog.types.size + 1) 79 (KE p).cells.toList = some ls := by
    have hi : ∀ (m : Nat) (x : Nat), x < 1099511627776 → Tryd.prog.keyLits (m + 1) 3 [.int .i64 ((x : Nat) : Int)] = some [.int .i64 ((x : Nat) : Int)] := fun m x hx => by
      unfold Program.keyLits
      rw [Tryd.underlying3]
      exact if_pos ⟨rfl, WalkArith.wf_i64 ⟨by omega, by omega⟩⟩
    obtain ⟨m, hm⟩ := types_pos
    rw [hm]
    unfold Program.keyLits
    rw [Tryd.underlying79]
    simp only
    rw [if_pos ⟨by simp [Value.cells, show Tryd.prog.cellsOf 79 = 2 by kernel_rfl], by kernel_rfl⟩]
    simp [Value.cells, show Tryd.prog.cellsOf 3 = 1 by kernel_rfl, hi m p.1 h.1, hi m p.2 h.2]
  obtain ⟨ls, hls⟩ := hk
  rw [hls]
  exact ⟨_, rfl⟩
/-- The map of the known pairs. -/
def KnowsE (w : World) (b : Nat) (l : List (Fg Pr)) : Prop := ∃ m, MapIs Tryd.prog 79 4 KE Lit.bool w b l.length m (kn l)

/-! ### rows of them -/
def eFe (v : Value) (l : List Fq) : Ent := ⟨82, 3, v, l.length, qcells l⟩
theorem infoE : (Tryd.prog.info? 82).map (fun i => (i.zero, i.size, i.bytes)) = some (some (.agg #[.int .i64 0, .int .i64 0, .slice none 0 0]), 3, 40) := by kernel_rfl
theorem own_fe {w0 w : World} {es fs : List Ent} (h : Own w0 w es fs) {v : Value} {l : List Fq} (he : eFe v l ∈ es ++ fs) :
    ∃ A cap, v = .slice A l.length cap ∧ l.length ≤ cap ∧ cap ≤ 9223372036854775807 ∧ Cells w w.heap.size A (qcells l) := by
  obtain ⟨A, cap, hv, h1, h2, _⟩ := h.form he
  simp only [eFe] at hv h1
  subst hv
  unfold maxLen at h2
  exact ⟨A, cap, rfl, h1, h2, h.cells he⟩
theorem own_found_g {w0 w : World} {ops : Array Oper} {rest : List Oper} {o : Oper} {a : Act} {Q : Exit → Act → World → Prop} (hgd : o.guard = none) (s x : Operand)
    (ho : o.op = .call { callee := .builtin .append, args := #[s, x], argTypes := #[83, 83] })
    {v : Value} {l : List Fq} {es fs : List Ent} (hs : a.eval s = v) (h : Own w0 w (eFe v l :: es) fs) {b : Nat} {ob : Obj} (hb : IsMap w b ob) {p : Fq} (hp : p.2.oneCell' = true) {t' : TypeId} (hx : a.eval x = .slice (some ⟨w.heap.size, 0, none⟩) 1 1) (hl : l.length < 1099511627776)
    (hK : ∀ g cap w', Own w0 w' (eFe (.slice (some ⟨g, 0, none⟩) (l.length + 1) cap) (l ++ [p]) :: es) fs → IsMap w' b ob → wpList Tryd.prog ops Q rest (a.put o.dst (.slice (some ⟨g, 0, none⟩) (l.length + 1) cap)) w') :
    wpList Tryd.prog ops Q (o :: rest) a (w.alloc (.cells #[.int .i64 ((p.1.1.1 : Nat) : Int), .int .i64 ((p.1.1.2 : Nat) : Int), p.2] t')) := by
  refine wpList_plain hgd fun _ hK' => ?_
  refine wp_own_append_lit_g s x _ ho Tryd.underlying83 infoE rfl (by decide) hs h hb hx rfl (fun u hu => by simp at hu; rcases hu with rfl | rfl | rfl; rfl; rfl; exact hp) (by omega) (by unfold maxLen; omega) (by omega) ?_
  intro g cap w' ho hm
  refine hK' _ _ (hK g cap w' ?_ hm)
  unfold eFe
  rw [qcells_append]
  simpa [qcells] using ho
theorem own_int_g {w0 w : World} {ops : Array Oper} {rest : List Oper} {o : Oper} {a : Act} {Q : Exit → Act → World → Prop} (hgd : o.guard = none) (s x : Operand)
    (ho : o.op = .call { callee := .builtin .append, args := #[s, x], argTypes := #[27, 27] })
    {v : Value} {l : List Int} {es fs : List Ent} (hs : a.eval s = v) (h : Own w0 w (eInts v l :: es) fs) {b : Nat} {ob : Obj} (hb : IsMap w b ob) {y : Int} {t' : TypeId} (hx : a.eval x = .slice (some ⟨w.heap.size, 0, none⟩) 1 1) (hl : l.length < 17592186044416)
    (hK : ∀ g cap w', Own w0 w' (eInts (.slice (some ⟨g, 0, none⟩) (l.length + 1) cap) (l ++ [y]) :: es) fs → IsMap w' b ob → wpList Tryd.prog ops Q rest (a.put o.dst (.slice (some ⟨g, 0, none⟩) (l.length + 1) cap)) w') :
    wpList Tryd.prog ops Q (o :: rest) a (w.alloc (.cells #[.int .i64 y] t')) := by
  refine wpList_plain hgd fun _ hK' => ?_
  refine wp_own_append_lit_g s x _ ho Tryd.underlying27 infoI rfl (by decide) hs h hb hx rfl (fun u hu => by simp at hu; subst hu; rfl) (by omega) (by unfold maxLen; omega) (by omega) ?_
  intro g cap w' ho hm
  refine hK' _ _ (hK g cap w' ?_ hm)
  unfold eInts
  simpa [i64] using ho

/-! ### the search -/
/-- What is under way. -/
def QE (w1 wr : World) (a b : Aut) (free : Int) (s : Pr) (kb i : Nat) (pv : Value) : Prop :=
  ∃ rs : List Fq, w1.heap.size ≤ kb ∧ HuntE a b free s (rs.map (·.1)) i ∧ Own w1 wr [eFe pv rs] (eEachQ rs) ∧ nilQ rs ∧ KnowsE wr kb (rs.map (·.1))
/-- The same within the letters of a pair. -/
def RE (w1 wi : World) (a b : Aut) (free : Int) (s : Pr) (kb gh : Nat) (l : List (Fg Pr)) (x : Fg Pr) (wv : Value) (c : Nat) (pv : Value) : Prop :=
  ∃ rs : List Fq, w1.heap.size ≤ kb ∧ rs.map (·.1) = addGs (goE a b s) l x c ∧ Own w1 wi [eFe pv rs, eFe (rV gh 1) [(x, wv)]] (eEachQ rs) ∧ nilQ rs ∧ (x, wv) ∈ rs ∧ KnowsE wi kb (rs.map (·.1)) ∧ ∀ e, e < c → outE a b free x.1 e = false
theorem KnowsE.on {w w' : World} {b : Nat} {l : List (Fg Pr)} (h : KnowsE w b l) (hb : Below w.heap.size w w') : KnowsE w' b l := by
  obtain ⟨m, hm⟩ := h
  exact ⟨m, hm.on hb hm.lt⟩
/-- What it returns. -/
def EscR (r : Option (List Int)) (w : World) (e : Ending) (w' : World) : Prop :=
  match r with
  | some u => ∃ wv, e = .returned (.tuple #[wv, .bool true]) ∧ Own w w' [] [eInts wv u]
  | none => e = .returned (.tuple #[.slice none 0 0, .bool false]) ∧ Below w.heap.size w w'
/-- A letter that leads to none that is new. -/
theorem addE_old {a b : Aut} {s : Pr} {l : List (Fg Pr)} {x : Fg Pr} {q : Nat} (hs : knownG l s) (h : inE a b (go2 a b x.1 q) = false ∨ knownG (addGs (goE a b s) l x q) (go2 a b x.1 q)) : addGs (goE a b s) l x (q + 1) = addGs (goE a b s) l x q := by
  rw [addGs]
  unfold addG
  rw [if_pos]
  unfold goE
  obtain ⟨m, hm⟩ := addGs_prefix (goE a b s) l x q
  have hs2 : knownG (addGs (goE a b s) l x q) s := by
    unfold knownG at hs ⊢
    rw [hm, List.map_append]
    exact List.mem_append_left _ hs
  rcases h with h | h
  · rw [h, if_neg (by simp)]; exact hs2
  · split
    · exact h
    · exact hs2
theorem addE_new {a b : Aut} {s : Pr} {l : List (Fg Pr)} {x : Fg Pr} {q : Nat} (hi : inE a b (go2 a b x.1 q) = true) (h : ¬ knownG (addGs (goE a b s) l x q) (go2 a b x.1 q)) : addGs (goE a b s) l x (q + 1) = addGs (goE a b s) l x q ++ [(go2 a b x.1 q, x.2 ++ [(q : Int)])] := by
  rw [addGs]
  unfold addG
  have e : goE a b s x.1 q = go2 a b x.1 q := by unfold goE; rw [hi, if_pos rfl]
  rw [e, if_neg h]
theorem nextE {a b : Aut} {free : Int} {x : Pr} {q : Nat} (h : ∀ e, e < q → outE a b free x e = false) (h2 : outE a b free x q = false) : ∀ e, e < q + 1 → outE a b free x e = false := fun e he => by
  by_cases k : e = q
  · subst k; exact h2
  · exact h e (by omega)
set_option linter.unusedSimpArgs false in
set_option maxRecDepth 100000 in
set_option maxHeartbeats 8000000 in
theorem escape_any (v z : Value) (a b : Aut) (free : Int) (w : World) (ha : DfaAt w w.heap.size v a) (hb : DfaAt w w.heap.size z b) (g : Good2 a b) (pa : PreC a) (pb : PreC b) (hf0 : 0 ≤ free) :
    Calls Tryd.prog 28 #[v, z, .int .i64 free] w fun e w' => Hid (∃ r, EscIs a b free r ∧ EscR r w e w') := by
  obtain ⟨L, s, A, c, F, cf, rfl, ha⟩ := ha
  obtain ⟨M, t, C, d, G, cg, rfl, hb⟩ := hb
  obtain ⟨wx, hwx, hBx, hX, hd1⟩ := box_dfa w ha
  obtain ⟨w1, hw1, hB1, hY, hd2⟩ := box_dfa wx (hb.on hBx)
  have hs1 : wx.heap.size = w.heap.size + 1 := by rw [hwx]; simp
  rw [hs1] at hY
  have HB := Lib.hid (hBx.trans (hB1.mono hBx.size))
  have HSz : Hid (w1.heap.size = w.heap.size + 1 + 1) := by rw [hw1, hwx]; simp [Hid]
  have HX := Lib.hid (hX.on hB1)
  have HY := Lib.hid hY
  have HDA := Lib.hid (hd1.on hB1)
  have HDB := Lib.hid hd2
  have HW : Hid (w1 = (w.alloc (.cells #[.int .i64 L, .int .i64 s, .slice A a.next.length c, .slice F a.fin.length cf] 25)).alloc (.cells #[.int .i64 M, .int .i64 t, .slice C b.next.length d, .slice G b.fin.length cg] 25)) := by
    rw [← hwx]; exact hw1
  have HG := Lib.hid g
  have HPA := Lib.hid pa
  have HPB := Lib.hid pb
  obtain ⟨p0, hp0⟩ := Int.eq_ofNat_of_zero_le (show 0 ≤ s by have := g.ga.st.1; have := ha.es; omega)
  obtain ⟨q0, hq0⟩ := Int.eq_ofNat_of_zero_le (show 0 ≤ t by have := g.gb.st.1; have := hb.es; omega)
  obtain ⟨n, hn⟩ := Int.eq_ofNat_of_zero_le (show 0 ≤ L by have := g.ga.l1; have := ha.eL; omega)
  have HN : Hid (a.L = (n : Int)) := by have := ha.eL; unfold Hid; omega
  have HS : Hid (a.s.toNat = p0 ∧ b.s.toNat = q0) := by have := ha.es; have := hb.es; unfold Hid; omega
  have hn1 : 1 ≤ n := by have := g.ga.l1; have := ha.eL; omega
  have hn6 : n ≤ 6 := by have := g.ga.l6; have := ha.eL; omega
  have hsl := g.ga.s_lt
  have htl := g.gb.s_lt
  rw [HS.out.1] at hsl
  rw [HS.out.2] at htl
  have h40 := g.ga.n40
  have h41 := g.gb.n40
  have hfa := Nat.le_of_eq g.ga.fin.symm
  have hfb := Nat.le_of_eq g.gb.fin.symm
  subst hn hp0 hq0
  have hc1 := HX.out.c1
  have hd1' := HY.out.c1
  have hd3 := HY.out.c3
  obtain ⟨adg0, eG0, _, hcg0, _⟩ := HDB.out.fins.at_ (HG.out.gb.fin_at htl)
  subst eG0
  clear hwx hw1 hBx hB1 hX hY hd1 hd2 hs1 ha hb g pa pb
  generalize hm1 : a.fin.length = fa at *
  generalize hm2 : b.fin.length = fb at *
  generalize hl1 : a.next.length = na at *
  generalize hl2 : b.next.length = nb at *
  have HFA : Hid (a.fin.length = fa ∧ b.fin.length = fb ∧ a.next.length = na ∧ b.next.length = nb) := ⟨hm1, hm2, hl1, hl2⟩
  clear hm1 hm2 hl1 hl2
  have HCt := Lib.hid (fun (W : World) (k : Nat) (hk : k < 6) => contains_has free (k : Int) W hf0 (by omega) (by omega))
  have e00 : (q0 : Int) < (fb : Int) := by omega
  obtain ⟨w2, hw2⟩ : ∃ w2, w2 = w1.alloc (.cells #[.int .i64 (p0 : Int), .int .i64 (q0 : Int)] 79) := ⟨_, rfl⟩
  have hb2 : Below w1.heap.size w1 w2 := by rw [hw2]; exact below_alloc _ _
  have hs2 : w2.heap.size = w1.heap.size + 1 := by rw [hw2]; simp
  have k0 : w2.cell? ⟨w1.heap.size, 0, none⟩ = some (.int .i64 (p0 : Int)) := by rw [hw2]; exact box_cell w1 _ _ 0
  have k1 : w2.cell? ⟨w1.heap.size, 1, none⟩ = some (.int .i64 (q0 : Int)) := by rw [hw2]; exact box_cell w1 _ _ 1
  have k3 := (HY.out.on hb2).c3
  have kg := (hb2.cell (p := adg0.add q0) (by rw [Wd.block_add]; assumption)).trans hcg0
  have HB2 := Lib.hid hb2
  have HSz2 := Lib.hid hs2
  have HK0 := Lib.hid k0
  have HK1 := Lib.hid k1
  have HW2 := Lib.hid hw2
  rw [HSz.out] at k0 k1
  rw [hw2, HW.out] at k0 k1 k3 kg
  clear hw2 hs2 hb2 hcg0 hd3
  rcases hf9 : finA b q0 with _ | _
  · as_aux_lemma =>
    rw [hf9] at kg
    have HEnd : Hid (∃ r, EscIs a b free r ∧ EscR r w (.returned (.tuple #[.slice none 0 0, .bool false])) w2) :=
      ⟨none, escIs_start HG.out HPB.out (by rw [HS.out.2]; exact hf9), rfl, HB.out.trans (HB2.out.mono HB.out.size)⟩
    clear hf9
    go_enter Tryd.func28, Tryd.ntmps28
    go_wp2
    rw [← HW.out]
    rw [← HW2.out]
    go_ret2
    exact HEnd
  · as_aux_lemma =>
    rw [hf9] at kg
    have HF9 := Lib.hid hf9
    clear hf9
    have hmm := @run_makeMap Tryd.prog
    go_enter Tryd.func28, Tryd.ntmps28
    go_wp2_with fail
    rw [← HW.out]
    rw [← HW2.out]
    have e2 : w2.heap.size = w.heap.size + 1 + 1 + 1 := by rw [HSz2.out, HSz.out]
    obtain ⟨kl, hkl⟩ := KE_key (p0, q0) (by omega)
    obtain ⟨w4, hrun, ht4, hm4⟩ := (map_made w2 Tryd.prog 79 4 KE Lit.bool).store keyedE Tryd.underlying80 elem_bool (by omega) hkl KE_inj (x := true) trivial
    have hb4 : Below w2.heap.size w2 w4 := (below_alloc w2 _).trans ((turned_below ht4 (Nat.le_refl _)))
    have hk4 : Hid (KnowsE w4 w2.heap.size [((p0, q0), [])]) := by
      have e : (fun y => if y = (p0, q0) then some true else (fun _ => none) y) = kn [((p0, q0), [])] := by
        have := kn_snoc [] ((p0, q0), [])
        rw [show kn [] = fun _ => none from by funext y; unfold kn knownG; simp] at this
        exact this
      rw [e] at hm4
      exact ⟨1, hm4⟩
    have hcp0 := (hb4.cell (p := ⟨w1.heap.size, 0, none⟩) (by have := HSz2.out; show w1.heap.size < _; omega)).trans HK0.out
    have hcp1 := (hb4.cell (p := ⟨w1.heap.size, 1, none⟩) (by have := HSz2.out; show w1.heap.size < _; omega)).trans HK1.out
    rw [HSz.out] at hcp0 hcp1
    have HB4 := Lib.hid hb4
    have HS0 : Hid (QE w2 (w4.alloc (.cells #[.int .i64 (p0 : Int), .int .i64 (q0 : Int), .slice none 0 0] 82)) a b free (p0, q0) w2.heap.size 0 (.slice (some ⟨w4.heap.size, 0, none⟩) 1 1)) := by
      have h2 := ((own_start w2).on hb4).lit 82 3 1 #[.int .i64 (p0 : Int), .int .i64 (q0 : Int), .slice none 0 0] rfl (by simp [maxLen])
      refine ⟨[(((p0, q0), []), .slice none 0 0)], Nat.le_refl _, huntE_start (by rw [HFA.out.2.2.1, HFA.out.2.2.2]; exact ⟨hsl, htl⟩) HF9.out, (h2.nil 3 1).fin, fun p hp _ => by simp at hp; subst hp; rfl, hk4.out.on (below_alloc _ _)⟩
    simp only [KE] at hrun
    rw [e2] at hrun
    clear ht4 hm4 hk4 hkl hb4 k0 k1 k3 kg hc1 hd1'
    rw [hrun]
    clear hrun
    go_wp2
    clear hcp0 hcp1 hmm
    have HX2 := Lib.hid (HX.out.on HB2.out)
    have HY2 := Lib.hid (HY.out.on HB2.out)
    have HDA2 := Lib.hid (HDA.out.on HB2.out)
    have HDB2 := Lib.hid (HDB.out.on HB2.out)
    have HBw := Lib.hid (HB.out.trans (HB2.out.mono HB.out.size))
    rw [← e2]
    clear HX HY HDA HDB HW HW2 HSz HSz2 HK0 HK1 HB2 HB4 e2
    generalize w2.heap.size = kb at HS0 ⊢
    generalize w4.heap.size = g4 at *
    go_loopw [10, 11] (fun pv i wr => ∃ (k : Nat), k ≤ 1600 ∧ i = .int .i64 k ∧ Hid (QE w2 wr a b free (p0, q0) kb k pv)) (fun _ i _ => 1601 - (intOf i).toNat)
    case atStart => exact ⟨0, by omega, rfl, HS0⟩
    case round =>
      clear HS0
      obtain ⟨k, hk, rfl, HQ⟩ := hrel
      obtain ⟨rs, hge, hhunt, hown, hnil, hkn⟩ := HQ.out
      obtain ⟨Ap, cp, hpv, hcp, hcp2, hpa⟩ := own_fe hown (v := u10) (l := rs) (by simp)
      subst hpv
      have HH := Lib.hid hhunt
      have HO := Lib.hid hown
      have HNil := Lib.hid hnil
      have HKn := Lib.hid hkn
      have HGe := Lib.hid hge
      have hr16 := hhunt.n HG.out
      rw [List.length_map] at hr16
      clear HQ hhunt hown hnil hkn hge hcp2
      by_cases hlt : k < rs.length
      · obtain ⟨⟨x, wv⟩, hx⟩ : ∃ q, rs[k]? = some q := ⟨_, List.getElem?_eq_getElem hlt⟩
        have hxl : (rs.map (·.1))[k]? = some x := by rw [List.getElem?_map, hx]; rfl
        obtain ⟨hx1, hx2⟩ := (HH.out.all x (List.mem_of_getElem? hxl)).lt
        obtain ⟨adp, hAp, hadp, hp0, hp1, hp2⟩ := fq_at hpa hx
        subst hAp
        simp only at hp0 hp1 hp2
        obtain ⟨Aw, cw, hwv, hy1, hy2, hy3⟩ := HO.out.form (e := eInts wv x.2) (List.mem_append_right _ (List.mem_map.2 ⟨(x, wv), List.mem_of_getElem? hx, rfl⟩))
        simp only [eInts] at hwv
        subst hwv
        have HXL := Lib.hid hxl
        have HR0 : Hid (RE w2 (wr.alloc (.cells #[.int .i64 (x.1.1 : Int), .int .i64 (x.1.2 : Int), .slice Aw x.2.length cw] 82)) a b free (p0, q0) kb wr.heap.size (rs.map (·.1)) x (.slice Aw x.2.length cw) 0 (.slice (some adp) rs.length cp)) := by
          have h1 := HO.out.lit 82 3 1 #[.int .i64 (x.1.1 : Int), .int .i64 (x.1.2 : Int), .slice Aw x.2.length cw] rfl (by simp [maxLen])
          exact ⟨rs, HGe.out, rfl, h1.two, HNil.out, List.mem_of_getElem? hx, HKn.out.on (below_alloc _ _), fun e he => by omega⟩
        have hba := HO.out.below.trans ((below_alloc wr (.cells #[.int .i64 (x.1.1 : Int), .int .i64 (x.1.2 : Int), .slice Aw x.2.length cw] 82)).mono HO.out.below.size)
        obtain ⟨rs', _, hmr', hoR, _⟩ := HR0.out
        have hh0 := (hoR.cell (t := 82) (sz := 3) (n := 1) (cap := 1) (g := wr.heap.size) (xs := [.int .i64 (x.1.1 : Int), .int .i64 (x.1.2 : Int), .slice Aw x.2.length cw]) (j := 0) (by simp [eFe, qcells]) rfl).1
        have hc2 := (HX2.out.on hba).c2
        obtain ⟨r, hr, hrm, hrl, hra, _⟩ := HG.out.ga.at_ hx1 (a := 0) (by have := HN.out; omega)
        obtain ⟨adr, A', c', eA, hb1, hcr, hb2, hb3, hIr⟩ := (HDA2.out.on hba).rows x.1.1 r hr
        obtain ⟨ar, eA', _⟩ := hIr.get hra
        subst eA eA'
        have hrn : r.length = n := by have := HN.out; omega
        rw [hrn] at hcr
        have HRow : Hid (∀ W, Below w2.heap.size w2 W → IntsAt W W.heap.size (some ar) r) := fun W hW => by
          obtain ⟨adr', A'', c'', e1, _, hcr', _, _, hI⟩ := (HDA2.out.on hW).rows x.1.1 r hr
          obtain ⟨adr2, A2, c2, e2, hlt2, hcr2, _, _, hI2⟩ := HDA2.out.rows x.1.1 r hr
          obtain rfl := Option.some.inj (e1.symm.trans e2)
          obtain rfl := Option.some.inj e1
          have h3 := (hW.cell (p := adr.add x.1.1) (by rw [Wd.block_add]; exact hlt2)).trans hcr2
          have h4 := (hba.cell (p := adr.add x.1.1) (by rw [Wd.block_add]; exact hlt2)).trans hcr2
          rw [h4] at hcr
          rw [h3] at hcr'
          simp only [Option.some.injEq, Value.slice.injEq] at hcr hcr'
          rw [← hcr.1, hcr'.1]; exact hI
        have HRl : Hid (r.length = n ∧ a.next[x.1.1]? = some r) := ⟨hrn, hr⟩
        have e1 : (x.1.1 : Int) < (na : Int) := by have := HFA.out.2.2.1; omega
        clear hy1 hy2 hy3 hoR hmr' hadp hpa hx hb1 hb2 hb3 hIr hra hrl hrm hr hxl hba
        go_wp2
        clear hh0 hc2 hcr hp0 hp1 hp2 e1
        generalize hgh : wr.heap.size = gh at *
        generalize (wr.alloc (.cells #[.int .i64 (x.1.1 : Int), .int .i64 (x.1.2 : Int), .slice Aw x.2.length cw] 82)) = wa at *
        clear hgh
        go_loopw [10, 53] (fun pv i wi => ∃ (q : Nat), q ≤ n ∧ i = .int .i64 q ∧ Hid (RE w2 wi a b free (p0, q0) kb gh (rs.map (·.1)) x (.slice Aw x.2.length cw) q pv)) (fun _ i _ => n - (intOf i).toNat)
        case atStart => exact ⟨0, by omega, rfl, HR0⟩
        case round =>
          clear HR0
          obtain ⟨q, hq, rfl, HR⟩ := hrel
          obtain ⟨rs2, hge2, hmap, hown, hnil, hmem, hkn, hno⟩ := HR.out
          have HMem := Lib.hid hmem
          have HNil2 := Lib.hid hnil
          have HMap := Lib.hid hmap
          have HO2 := Lib.hid hown
          have HKn2 := Lib.hid hkn
          have HNo := Lib.hid hno
          have HBi := Lib.hid hown.below
          clear hmem hnil hmap hown hkn hno
          by_cases hqn : q < n
          · have hqa : (q : Int) < a.L := by have := HN.out; omega
            have hqb : (q : Int) < b.L := by have := HG.out.eL; omega
            have hq6 : q < 6 := by omega
            obtain ⟨r', hr', _, _, hra, _⟩ := HG.out.ga.at_ hx1 hqa
            obtain rfl := Option.some.inj (HRl.out.2.symm.trans hr')
            obtain ⟨ar', eA', _, hcq, _⟩ := (HRow.out wr HBi.out).get hra
            obtain rfl := Option.some.inj eA'
            obtain ⟨ad2, ar2, m2, cr2, g1, g2, g3, g4', g5, g6⟩ := (HDB2.out.on HBi.out).step_at HG.out.gb hx2 hqb
            subst g1
            have hXr := HX2.out.on HBi.out
            have hYr := HY2.out.on HBi.out
            have hd2 := hYr.c2
            have hh1 := (HO2.out.cell (t := 82) (sz := 3) (n := 1) (cap := 1) (g := gh) (xs := [.int .i64 (x.1.1 : Int), .int .i64 (x.1.2 : Int), .slice Aw x.2.length cw]) (j := 1) (by simp [eFe, qcells]) rfl).1
            have e2 : (x.1.2 : Int) < (nb : Int) := by have := HFA.out.2.2.2; omega
            have e3 : (q : Int) < (n : Int) := by omega
            have e4 : (q : Int) < (m2 : Int) := by omega
            have ht1 := HG.out.ga.step_lt hx1 hqa
            have ht2 := HG.out.gb.step_lt hx2 hqb
            have HT : Hid (go2 a b x.1 q = (Df.step a x.1.1 q, Df.step b x.1.2 q)) := rfl
            generalize Df.step a x.1.1 q = t1 at *
            generalize Df.step b x.1.2 q = t2 at *
            have HSmall : Hid (t1 < 40 ∧ t2 < 40) := by have := HFA.out; unfold Hid; omega
            have hbW := below_alloc wr (.cells #[.int .i64 (t1 : Int), .int .i64 (t2 : Int)] 79)
            have HBW := Lib.hid (HBi.out.trans (hbW.mono HBi.out.size))
            obtain ⟨adf, eF, hf1, hcf, hf2⟩ := (HDA2.out.on HBW.out).fins.at_ (HG.out.ga.fin_at ht1)
            obtain ⟨adg, eG, hg1, hcg, hg2⟩ := (HDB2.out.on HBW.out).fins.at_ (HG.out.gb.fin_at ht2)
            subst eF
            obtain rfl := Option.some.inj eG
            have hc3 := (HX2.out.on HBW.out).c3
            have hd3 := (HY2.out.on HBW.out).c3
            have e5 : (t1 : Int) < (fa : Int) := by have := HFA.out.2.2.1; omega
            have e6 : (t2 : Int) < (fb : Int) := by have := HFA.out.2.2.2; omega
            have HO3 : Hid (Own w2 (wr.alloc (.cells #[.int .i64 (t1 : Int), .int .i64 (t2 : Int)] 79)) [⟨79, 2, .slice (some ⟨wr.heap.size, 0, none⟩) 1 1, 1, [.int .i64 (t1 : Int), .int .i64 (t2 : Int)]⟩, eFe u10 rs2, eFe (rV gh 1) [(x, .slice Aw x.2.length cw)]] (eEachQ rs2)) :=
              HO2.out.lit 79 2 1 #[.int .i64 (t1 : Int), .int .i64 (t2 : Int)] rfl (by simp [maxLen])
            have hn0 := (HO3.out.cell (t := 79) (sz := 2) (n := 1) (cap := 1) (g := wr.heap.size) (xs := [.int .i64 (t1 : Int), .int .i64 (t2 : Int)]) (j := 0) (by simp) rfl).1
            have hn1 := (HO3.out.cell (t := 79) (sz := 2) (n := 1) (cap := 1) (g := wr.heap.size) (xs := [.int .i64 (t1 : Int), .int .i64 (t2 : Int)]) (j := 1) (by simp) rfl).1
            have hh2 := (HO3.out.cell (t := 82) (sz := 3) (n := 1) (cap := 1) (g := gh) (xs := [.int .i64 (x.1.1 : Int), .int .i64 (x.1.2 : Int), .slice Aw x.2.length cw]) (j := 2) (by simp [eFe, qcells]) rfl).1
            obtain ⟨m9, hm9⟩ := HKn2.out
            have HM := Lib.hid (hm9.alloc (.cells #[.int .i64 (t1 : Int), .int .i64 (t2 : Int)] 79))
            obtain ⟨kl, hkl⟩ := KE_key (t1, t2) ⟨by have := HSmall.out; omega, by have := HSmall.out; omega⟩
            have HKl := Lib.hid hkl
            have hr2 : rs2.length ≤ 1606 := by
              have h1 := congrArg List.length HMap.out
              have h2 := addGs_length (goE a b (p0, q0)) (rs.map (·.1)) x q
              rw [List.length_map] at h1 h2
              omega
            obtain ⟨bk, hbk⟩ : ∃ bk, bk = (kn (rs2.map (·.1)) (t1, t2)).getD false := ⟨_, rfl⟩
            have HBk := Lib.hid hbk
            obtain ⟨ba, hba⟩ : ∃ q, finA a t1 = q := ⟨_, rfl⟩
            obtain ⟨bb, hbb⟩ : ∃ q, finA b t2 = q := ⟨_, rfl⟩
            rw [hba] at hcf
            rw [hbb] at hcg
            obtain ⟨fr, hfr⟩ : ∃ q', has free (q : Int) = q' := ⟨_, rfl⟩
            have HCk := Lib.hid (HCt.out (wr.alloc (.cells #[.int .i64 (t1 : Int), .int .i64 (t2 : Int)] 79)) q hq6)
            rw [hfr] at HCk
            have HIn : Hid (inE a b (go2 a b x.1 q) = (ba && bb)) := by unfold inE Hid; rw [HT.out, hba, hbb]
            have HOut : Hid (outE a b free x.1 q = (fr && (ba && !bb))) := by unfold outE Hid; rw [HT.out, hba, hbb, hfr]
            have hxm := List.mem_of_getElem? HXL.out
            have HOld : Hid ((ba && bb) = false ∨ knownG (rs2.map (·.1)) (t1, t2) → (fr && (ba && !bb)) = false → RE w2 (wr.alloc (.cells #[.int .i64 (t1 : Int), .int .i64 (t2 : Int)] 79)) a b free (p0, q0) kb gh (rs.map (·.1)) x (.slice Aw x.2.length cw) (q + 1) u10) := fun h1 h2 => by
              refine ⟨rs2, hge2, ?_, HO2.out.alloc _, HNil2.out, HMem.out, ⟨m9, hm9.alloc _⟩, nextE HNo.out (by rw [HOut.out]; exact h2)⟩
              rw [addE_old HH.out.known, HMap.out]
              rcases h1 with h1 | h1
              · exact .inl (by rw [HIn.out]; exact h1)
              · exact .inr (by rw [← HMap.out, HT.out]; exact h1)
            have HKb : Hid (knownG (rs2.map (·.1)) (t1, t2) → bb = true) := fun h => by
              obtain ⟨y, hy, e⟩ := List.mem_map.1 h
              rw [HMap.out] at hy
              have := (addGsE HG.out HH.out.all HH.out.known hxm (by omega) y hy).fin
              rw [e] at this
              rw [← hbb]; exact this
            have HR2 := Lib.hid hr2
            have HT2 := Lib.hid ht2
            have HBb := Lib.hid hbb
            clear hba hbb hfr hbk hkl hm9 hbW hXr hYr ht1 ht2 hf1 hf2 hg1 hg2 g2 g4' g5 hr' hra HR hr2 hxm
            rcases bk with _ | _
            · have HNk : Hid (¬ knownG (rs2.map (·.1)) (t1, t2)) := by
                have := HBk.out
                rw [kn_get] at this
                exact of_decide_eq_false this.symm
              rcases ba with _ | _
              · as_aux_lemma =>
                have HR1 := Lib.hid (HOld.out (.inl rfl) (by simp))
                clear HOld HKb HNk HCk hd3 hcg hh2
                go_wp2_with (at_lookup; refine wp_look_is HM.out keyedE Tryd.underlying80 elem_bool (by rfl) _ _ (by rfl) (by rfl) (a := (t1, t2)) (by rfl) HKl.out HBk.out ?_)
                go_roundw
                case rel => exact ⟨q + 1, by omega, by go_num, HR1⟩
                case measure => simp [intOf]; omega
              · rcases bb with _ | _
                · rcases fr with _ | _
                  · as_aux_lemma =>
                    have HR1 := Lib.hid (HOld.out (.inl rfl) (by simp))
                    clear HOld HKb HNk hh2
                    go_wp2_with (at_lookup; refine wp_look_is HM.out keyedE Tryd.underlying80 elem_bool (by rfl) _ _ (by rfl) (by rfl) (a := (t1, t2)) (by rfl) HKl.out HBk.out ?_)
                    refine HCk.out.mono ?_
                    rintro e w5 ⟨rfl, rfl⟩
                    clear HCk
                    go_wp2
                    go_roundw
                    case rel => exact ⟨q + 1, by omega, by go_num, HR1⟩
                    case measure => simp [intOf]; omega
                  · as_aux_lemma =>
                    have HEs : Hid (EscIs a b free (some (x.2 ++ [(q : Int)]))) := by
                      obtain ⟨k1, k2, k3⟩ := HH.out.hit HG.out HPA.out HPB.out (by rw [HFA.out.2.2.1, HFA.out.2.2.2]; exact ⟨hsl, htl⟩) HXL.out hqa (by rw [HOut.out]; rfl) HNo.out
                      unfold EscIs Hid
                      rw [HS.out.1, HS.out.2]
                      exact ⟨k1, k2, k3⟩
                    clear HOld HKb HNk
                    have hxw := HH.out.srch.ok x (List.mem_of_getElem? HXL.out)
                    have hxsm : ∀ y ∈ x.2, Small y := fun y hy => by
                      have h1 := hxw.1 y hy
                      have := HN.out
                      exact ⟨by omega, by omega⟩
                    have hxlen := HH.out.srch.len k x HXL.out
                    have hxl1 : x.2.length < 17592186044416 := by omega
                    have HCl := Lib.hid (clone_word (.slice Aw x.2.length cw) x.2 _ HO3.out (List.mem_append_right _ (List.mem_map.2 ⟨_, HMem.out, rfl⟩)) hxsm (fun e => HNil2.out _ HMem.out e) (by omega))
                    have HFlag : Hid (∀ W, Below w2.heap.size w2 W → W.cell? (adg0.add t2) = some (.bool false)) := fun W hW => by
                      obtain ⟨adg9, eG9, _, hc9, _⟩ := (HDB2.out.on hW).fins.at_ (HG.out.gb.fin_at HT2.out)
                      obtain rfl := Option.some.inj eG9
                      rw [HBb.out] at hc9; exact hc9
                    clear hxw hxsm hxlen
                    go_wp2_with (at_lookup; refine wp_look_is HM.out keyedE Tryd.underlying80 elem_bool (by rfl) _ _ (by rfl) (by rfl) (a := (t1, t2)) (by rfl) HKl.out HBk.out ?_)
                    refine HCk.out.mono ?_
                    rintro e w5 ⟨rfl, rfl⟩
                    clear HCk
                    go_wp2_with fail
                    refine HCl.out.mono ?_
                    rintro e w6 he
                    obtain ⟨v6, h6, ho6⟩ := he.out
                    subst h6
                    have HO6 := Lib.hid (HO3.out.join ho6)
                    have hm6 := HM.out.on ho6.below HM.out.lt
                    obtain ⟨ob6, hob6⟩ := hm6.isMap
                    have HIm6 := Lib.hid hob6
                    have HM6 := Lib.hid hm6
                    clear he ho6 hm6 hob6 HCl hn0 hn1 hh2 hc3 hcf hd3 hcg HM HO3
                    generalize wr.heap.size = gn at *
                    go_wp2_with (at_builtin; refine own_int_g (by rfl) _ _ (by rfl) (by rfl) HO6.out HIm6.out (by rfl) hxl1 ?_)
                    intro g7 cap7 w7 ho7 him7
                    have HIm7 := Lib.hid him7
                    have HM7 := Lib.hid (HM6.out.of_block (him7.1.trans HIm6.out.1.symm))
                    have HO7 := Lib.hid ho7
                    clear ho7 him7 HM6 HIm6 HO6
                    have hd3 := (HY2.out.on HO7.out.below).c3
                    have hcg7 : w7.cell? (adg0.add t2) = some (.bool false) := (HFlag.out w7 HO7.out.below)
                    have hn7 := (HO7.out.cell (t := 79) (sz := 2) (n := 1) (cap := 1) (g := gn) (xs := [.int .i64 (t1 : Int), .int .i64 (t2 : Int)]) (j := 1) (by simp) rfl).1
                    have HEnd : Hid (∃ r, EscIs a b free r ∧ EscR r w (.returned (.tuple #[.slice (some ⟨g7, 0, none⟩) (x.2.length + 1) cap7, .bool true])) w7) := by
                      refine ⟨_, HEs.out, _, rfl, ?_⟩
                      exact ((HO7.out.fin.only).weak fun e he => by simp at he; subst he; exact List.mem_cons_self).base HBw.out
                    clear HO7 HM7 HIm7 HFlag HEs
                    go_wp2
                    go_ret2
                    exact HEnd
                · as_aux_lemma =>
                  have HKN : Hid (kn (rs2.map (·.1)) (t1, t2) = none) := if_neg HNk.out
                  have hold := addE_new (q := q) (l := rs.map (·.1)) (s := (p0, q0)) (a := a) (b := b) (x := x) (by rw [HIn.out]; rfl) (by rw [← HMap.out, HT.out]; exact HNk.out)
                  rw [HT.out, ← HMap.out] at hold
                  have HNew := Lib.hid hold
                  have HNo2 := Lib.hid (nextE HNo.out (by rw [HOut.out]; simp))
                  clear HOld HKb HNk HCk hold
                  have hxw := HH.out.srch.ok x (List.mem_of_getElem? HXL.out)
                  have hxsm : ∀ y ∈ x.2, Small y := fun y hy => by
                    have h1 := hxw.1 y hy
                    have := HN.out
                    exact ⟨by omega, by omega⟩
                  have hxlen := HH.out.srch.len k x HXL.out
                  have hxl1 : x.2.length < 17592186044416 := by omega
                  have HCl := Lib.hid (clone_word (.slice Aw x.2.length cw) x.2 _ HO3.out (List.mem_append_right _ (List.mem_map.2 ⟨_, HMem.out, rfl⟩)) hxsm (fun e => HNil2.out _ HMem.out e) (by omega))
                  have HFlag : Hid (∀ W, Below w2.heap.size w2 W → W.cell? (adg0.add t2) = some (.bool true)) := fun W hW => by
                    obtain ⟨adg9, eG9, _, hc9, _⟩ := (HDB2.out.on hW).fins.at_ (HG.out.gb.fin_at HT2.out)
                    obtain rfl := Option.some.inj eG9
                    rw [HBb.out] at hc9; exact hc9
                  clear hxw hxsm hxlen
                  go_wp2_with (at_lookup; refine wp_look_is HM.out keyedE Tryd.underlying80 elem_bool (by rfl) _ _ (by rfl) (by rfl) (a := (t1, t2)) (by rfl) HKl.out HBk.out ?_)
                  refine HCl.out.mono ?_
                  rintro e w6 he
                  obtain ⟨v6, h6, ho6⟩ := he.out
                  subst h6
                  have HO6 := Lib.hid (HO3.out.join ho6)
                  have hm6 := HM.out.on ho6.below HM.out.lt
                  obtain ⟨ob6, hob6⟩ := hm6.isMap
                  have HIm6 := Lib.hid hob6
                  have HM6 := Lib.hid hm6
                  clear he ho6 hm6 hob6 HCl hn0 hn1 hh2 hc3 hcf hd3 hcg HM HO3
                  generalize wr.heap.size = gn at *
                  go_wp2_with (at_builtin; refine own_int_g (by rfl) _ _ (by rfl) (by rfl) HO6.out HIm6.out (by rfl) hxl1 ?_)
                  intro g7 cap7 w7 ho7 him7
                  have HIm7 := Lib.hid him7
                  have HM7 := Lib.hid (HM6.out.of_block (him7.1.trans HIm6.out.1.symm))
                  have HO7 := Lib.hid ho7
                  clear ho7 him7 HM6 HIm6 HO6
                  have hd3 := (HY2.out.on HO7.out.below).c3
                  have hcg7 : w7.cell? (adg0.add t2) = some (.bool true) := (HFlag.out w7 HO7.out.below)
                  have hn7 := (HO7.out.cell (t := 79) (sz := 2) (n := 1) (cap := 1) (g := gn) (xs := [.int .i64 (t1 : Int), .int .i64 (t2 : Int)]) (j := 1) (by simp) rfl).1
                  have hn6 := (HO7.out.cell (t := 79) (sz := 2) (n := 1) (cap := 1) (g := gn) (xs := [.int .i64 (t1 : Int), .int .i64 (t2 : Int)]) (j := 0) (by simp) rfl).1
                  have HMl : Hid ((rs2.map (·.1)).length < 4294967296) := by rw [List.length_map]; have := HR2.out; unfold Hid; omega
                  clear HFlag
                  go_wp2_with (at_mapUpdate; refine wp_store HM7.out keyedE Tryd.underlying80 elem_bool HMl.out KE_inj (by rfl) _ _ _ (by rfl) (by rfl) (a := (t1, t2)) (by rfl) HKl.out (x := true) (by rfl) trivial (m' := m9 + 1) (by rw [HKN.out]; rfl) ?_)
                  intro w8 ht8 hm8
                  have ho8 := own_put HO7.out hge2 HM7.out ht8
                  rw [kn_snoc _ ((t1, t2), x.2 ++ [(q : Int)])] at hm8
                  obtain ⟨ob8, hob8⟩ := hm8.isMap
                  have HIm8 := Lib.hid hob8
                  have HM8 := Lib.hid hm8
                  have HO8 := Lib.hid (ho8.re [2, 0, 1, 3] 4 rfl (by decide))
                  have hn8 := (HO8.out.cell (t := 79) (sz := 2) (n := 1) (cap := 1) (g := gn) (xs := [.int .i64 (t1 : Int), .int .i64 (t2 : Int)]) (j := 0) (by simp) rfl).1
                  have hn9 := (HO8.out.cell (t := 79) (sz := 2) (n := 1) (cap := 1) (g := gn) (xs := [.int .i64 (t1 : Int), .int .i64 (t2 : Int)]) (j := 1) (by simp) rfl).1
                  have HLen : Hid (rs2.length < 1099511627776) := by have := HR2.out; unfold Hid; omega
                  clear ht8 hm8 ho8 hob8 HO7 HM7 HIm7 hd3 hcg7 hn7 hn6
                  go_wp2_with (at_builtin; refine own_found_g (p := (((t1, t2), x.2 ++ [(q : Int)]), .slice (some ⟨g7, 0, none⟩) (x.2.length + 1) cap7)) (by rfl) _ _ (by rfl) (by rfl) HO8.out HIm8.out rfl (by rfl) HLen.out ?_)
                  intro g10 cap10 w10 ho10 him10
                  have HR1 : Hid (RE w2 w10 a b free (p0, q0) kb gh (rs.map (·.1)) x (.slice Aw x.2.length cw) (q + 1) (.slice (some ⟨g10, 0, none⟩) (rs2.length + 1) cap10)) := by
                    refine ⟨rs2 ++ [(((t1, t2), x.2 ++ [(q : Int)]), .slice (some ⟨g7, 0, none⟩) (x.2.length + 1) cap7)], hge2, ?_, ?_, nilQ_snoc HNil2.out _ _ _ _, List.mem_append_left _ HMem.out, ?_, HNo2.out⟩
                    · rw [HNew.out, List.map_append]; rfl
                    · refine ((((ho10.re [1, 0, 2, 3] 4 rfl (by decide)).fin).re [1, 0, 2] 3 rfl (by decide)).tail).weak fun e he => ?_
                      rw [eEachQ_snoc] at he
                      rcases List.mem_append.1 he with he | he
                      · exact List.mem_cons_of_mem _ he
                      · simp at he; subst he
                        simp [eInts]
                    · have h3 := HM8.out.of_block (him10.1.trans HIm8.out.1.symm)
                      have hl : (rs2.map (·.1) ++ [((t1, t2), x.2 ++ [(q : Int)])]).length = (rs2.map (·.1)).length + 1 := by simp
                      have hl2 : (rs2.map (·.1) ++ [((t1, t2), x.2 ++ [(q : Int)])]).length = rs2.length + 1 := by simp
                      first | rw [← hl2] at h3 | rw [← hl] at h3
                      rw [List.map_append]
                      exact ⟨_, h3⟩
                  clear ho10 him10 HO8 HM8 HIm8 hn8 hn9
                  go_wp2
                  go_roundw
                  case rel => exact ⟨q + 1, by omega, by go_num, HR1⟩
                  case measure => simp [intOf]; omega
            · as_aux_lemma =>
              have hkw : knownG (rs2.map (·.1)) (t1, t2) := by
                have := HBk.out
                rw [kn_get] at this
                exact of_decide_eq_true this.symm
              have HKw := Lib.hid hkw
              clear hkw
              have hbb := HKb.out HKw.out
              subst hbb
              have HR1 := Lib.hid (HOld.out (.inr HKw.out) (by simp))
              clear HOld HKb HKw HCk hc3 hcf hd3 hcg hh2
              go_wp2_with (at_lookup; refine wp_look_is HM.out keyedE Tryd.underlying80 elem_bool (by rfl) _ _ (by rfl) (by rfl) (a := (t1, t2)) (by rfl) HKl.out HBk.out ?_)
              go_roundw
              case rel => exact ⟨q + 1, by omega, by go_num, HR1⟩
              case measure => simp [intOf]; omega
          · as_aux_lemma =>
            obtain rfl : q = n := by omega
            have HEnd : Hid (QE w2 wr a b free (p0, q0) kb (k + 1) u10) := by
              have hx3 := HH.out.next HG.out HXL.out (fun c hc => HNo.out c (by have := HN.out; omega))
              rw [HN.out, Int.toNat_natCast] at hx3
              exact ⟨rs2, hge2, by rw [HMap.out]; exact hx3, HO2.out.two.tail, HNil2.out, HKn2.out⟩
            have hk9 : k + 1 ≤ 1600 := by omega
            clear HR HMem HNil2 HMap HO2 HKn2
            go_wp2
            go_roundw
            case rel => exact ⟨k + 1, hk9, by go_num, HEnd⟩
            case measure => simp [intOf]; omega
      · as_aux_lemma =>
        have hkl : k = rs.length := by have := HH.out.le; rw [List.length_map] at this; omega
        have HEnd : Hid (∃ r, EscIs a b free r ∧ EscR r w (.returned (.tuple #[.slice none 0 0, .bool false])) wr) := by
          refine ⟨none, fun u hu => ?_, rfl, HBw.out.trans (HO.out.below.mono HBw.out.size)⟩
          rw [HS.out.1, HS.out.2]
          exact HH.out.miss HG.out HPA.out HPB.out (by rw [HFA.out.2.2.1, HFA.out.2.2.2]; exact ⟨hsl, htl⟩) (by rw [List.length_map]; omega) hu
        clear HO HNil HKn hpa
        go_wp2
        go_ret2
        exact HEnd
end Go.Proofs.YtbciefeipiphiaaDoor.Su
