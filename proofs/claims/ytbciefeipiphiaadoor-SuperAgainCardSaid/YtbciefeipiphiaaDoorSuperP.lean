/- Plain mathematics of package super's Make: states of the product that are shut, pass by pass. -/
import Derived.Test.YtbciefeipiphiaaDoorSuperM
namespace Go.Proofs.YtbciefeipiphiaaDoor.Su
open Go.Proofs.YtbciefeipiphiaaDoor.Df Go.Proofs.YtbciefeipiphiaaDoor.Wo Go.Proofs.YtbciefeipiphiaaDoor.Rc Go.Proofs.YtbciefeipiphiaaDoor.Sm Go.Proofs.YtbciefeipiphiaaDoor.Sa

/-- What is wrong with a plant, another automaton, and free letters. -/
def plantE (P D : Aut) (free : Int) : Nat := if chkD2 P D ≠ 0 then chkD2 P D else if setOk P.L free then 0 else 1
/-- A free letter slips out of what can still be finished. -/
def SlipP (P S : Aut) (free : Int) (W : PS) (p q : Nat) : Prop := ∃ c : Nat, (c : Int) < P.L ∧ has free (c : Int) = true ∧ isAlive P (step P p c) = true ∧ ¬ Co P S W (step P p c) (step S q c)
/-- What a pass leaves. -/
noncomputable def cutW (P S : Aut) (free : Int) (W : PS) : PS := fun p q => @decide (W p q = true ∧ ¬ (Co P S W p q ∧ SlipP P S free W p q)) (Classical.propDecidable _)
theorem cutW_iff {P S : Aut} {free : Int} {W : PS} {p q : Nat} : cutW P S free W p q = true ↔ W p q = true ∧ ¬ (Co P S W p q ∧ SlipP P S free W p q) := by
  unfold cutW; exact @decide_eq_true_iff _ (Classical.propDecidable _)
/-- What some passes leave. -/
inductive Cuts (P S : Aut) (free : Int) : PS → Prop
  | all : Cuts P S free (fun _ _ => true)
  | cut {W : PS} : Cuts P S free W → Cuts P S free (cutW P S free W)
theorem stay_mono {P S : Aut} {X Y : PS} (h : ∀ p q, X p q = true → Y p q = true) {p q : Nat} {w : List Int} (hs : Stay P S X p q w) : Stay P S Y p q w := fun k hk => h _ _ (hs k hk)
theorem co_mono {P S : Aut} {X Y : PS} (h : ∀ p q, X p q = true → Y p q = true) {p q : Nat} (hc : Co P S X p q) : Co P S Y p q := by
  obtain ⟨w, hw, hs, h1, h2⟩ := hc
  exact ⟨w, hw, stay_mono h hs, h1, h2⟩
/-- A way to the end stays where each place has one. -/
theorem stay_if {P S : Aut} (g : Good2 P S) {X Y : PS} (h : ∀ p q, p < P.next.length → q < S.next.length → X p q = true → Co P S X p q → Y p q = true) : ∀ (w : List Int) {p q : Nat}, Word P.L w → p < P.next.length → q < S.next.length → Stay P S X p q w → finA P (runA P p w) = true → finA S (runA S q w) = true → Stay P S Y p q w
  | [], p, q, hw, hp, hq, hs, f1, f2 => stay_nil.2 (h p q hp hq (stay_first hs) ⟨[], hw, hs, f1, f2⟩)
  | a :: w, p, q, hw, hp, hq, hs, f1, f2 => by
    have ha := hw a List.mem_cons_self
    have hw' : Word P.L w := fun x hx => hw x (List.mem_cons_of_mem _ hx)
    obtain ⟨s1, s2⟩ := stay_cons.1 hs
    exact stay_cons.2 ⟨h p q hp hq s1 ⟨a :: w, hw, hs, f1, f2⟩, stay_if g h w hw' (g.ga.step_lt hp (by omega)) (g.gb.step_lt hq (by rw [← g.eL]; omega)) s2 f1 f2⟩
theorem co_if {P S : Aut} (g : Good2 P S) {X Y : PS} (h : ∀ p q, p < P.next.length → q < S.next.length → X p q = true → Co P S X p q → Y p q = true) {p q : Nat} (hp : p < P.next.length) (hq : q < S.next.length) (hc : Co P S X p q) : Co P S Y p q := by
  obtain ⟨w, hw, hs, f1, f2⟩ := hc
  exact ⟨w, hw, stay_if g h w hw hp hq hs f1 f2, f1, f2⟩
noncomputable def leaveX (P S : Aut) (free : Int) (X : PS) : PS := fun p q => @decide (Leaves P S free X p q) (Classical.propDecidable _)
theorem leaveX_iff {P S : Aut} {free : Int} {X : PS} {p q : Nat} : leaveX P S free X p q = true ↔ Leaves P S free X p q := by
  unfold leaveX; exact @decide_eq_true_iff _ (Classical.propDecidable _)
/-- The passes go with the rounds. -/
theorem cuts_rounds {P S : Aut} (g : Good2 P S) {free : Int} {W : PS} (h : Cuts P S free W) : ∃ Z, Rounds P S free Z ∧ ∀ p q, p < P.next.length → q < S.next.length → (Co P S W p q ↔ Co P S Z p q) := by
  induction h with
  | all => exact ⟨fun _ _ => true, .all fun _ _ _ _ => rfl, fun _ _ _ _ => Iff.rfl⟩
  | @cut W _ ih =>
    obtain ⟨Z, hZ, hco⟩ := ih
    have hL : ∀ p q, p < P.next.length → q < S.next.length → (Leaves P S free Z p q ↔ Co P S W p q ∧ ¬ SlipP P S free W p q) := fun p q hp hq => by
      unfold Leaves SlipP
      rw [← hco p q hp hq]
      refine and_congr_right fun _ => ⟨?_, fun h c hc hf ha => ?_⟩
      · rintro k ⟨c, hc, hf, ha, hn⟩
        exact hn ((hco _ _ (g.ga.step_lt hp hc) (g.gb.step_lt hq (by rw [← g.eL]; exact hc))).2 (k c hc hf ha))
      · rw [← hco _ _ (g.ga.step_lt hp hc) (g.gb.step_lt hq (by rw [← g.eL]; exact hc))]
        rcases Classical.em (Co P S W (step P p c) (step S q c)) with k | k
        · exact k
        · exact absurd ⟨c, hc, hf, ha, k⟩ h
    refine ⟨leaveX P S free Z, .round hZ fun p q _ _ => leaveX_iff, fun p q hp hq => ⟨fun hc => ?_, fun hc => ?_⟩⟩
    · refine co_if g (fun p q hp hq hx hcx => ?_) hp hq hc
      have h1 := cutW_iff.1 hx
      have h2 : Co P S W p q := co_mono (fun p q h => (cutW_iff.1 h).1) hcx
      exact leaveX_iff.2 ((hL p q hp hq).2 ⟨h2, fun k => h1.2 ⟨h2, k⟩⟩)
    · refine co_if g (fun p q hp hq hx _ => ?_) hp hq hc
      obtain ⟨h1, h2⟩ := (hL p q hp hq).1 (leaveX_iff.1 hx)
      exact cutW_iff.2 ⟨co_in h1, fun k => h2 k.2⟩
/-- What a set that leaves itself lets, where words lead. -/
theorem fix_sub_at {P S : Aut} (g : Good2 P S) {free : Int} {X : PS} (hfix : ∀ v, Word P.L v → X (runA P P.s.toNat v) (runA S S.s.toNat v) = true → Leaves P S free X (runA P P.s.toNat v) (runA S S.s.toNat v)) {w : List Int} (hw : Word P.L w) (hs : Stay P S X P.s.toNat S.s.toNat w) (h1 : accA P w = true) (h2 : accA S w = true) : sup P S free w := by
  refine sup_most (K := fun u => Word P.L u ∧ Stay P S X P.s.toNat S.s.toNat u ∧ accA P u = true ∧ accA S u = true) ⟨fun u k => ⟨k.1, k.2.2⟩, fun v a hv h0 hL hf hp hq => ?_⟩ ⟨hw, hs, h1, h2⟩
  obtain ⟨x, _, _, hsx, _⟩ := hp
  have hsv := (stay_app v).1 hsx
  obtain ⟨_, hl⟩ := hfix v hv (stay_end hsv.1)
  have ea : ((a.toNat : Nat) : Int) = a := Int.toNat_of_nonneg h0
  have hva : Word P.L (v ++ [a]) := word_snoc.2 ⟨hv, h0, hL⟩
  have hal := (preK_alive g.ga rfl hva).1 hq
  rw [runA_append] at hal
  obtain ⟨u, hu, hsu, f1, f2⟩ := hl a.toNat (by omega) (by rw [ea]; exact hf) hal
  refine ⟨u, hu, word_append hva hu, ?_, ?_, ?_⟩
  · rw [List.append_assoc, stay_app]
    refine ⟨hsv.1, ?_⟩
    show Stay P S X _ _ (a :: u)
    exact stay_cons.2 ⟨stay_end hsv.1, hsu⟩
  · unfold accA
    rw [runA_append, runA_append]; exact f1
  · unfold accA
    rw [runA_append, runA_append]; exact f2
noncomputable def coX (P S : Aut) (W : PS) : PS := fun p q => @decide (Co P S W p q) (Classical.propDecidable _)
theorem coX_iff {P S : Aut} {W : PS} {p q : Nat} : coX P S W p q = true ↔ Co P S W p q := by
  unfold coX; exact @decide_eq_true_iff _ (Classical.propDecidable _)
/-- Of what is kept each beginning can be finished. -/
theorem cuts_keep {P S : Aut} (g : Good2 P S) {free : Int} {W : PS} (h : Cuts P S free W) {w : List Int} (hw : Word P.L w) (hs : sup P S free w) (k : Nat) : Co P S W (runA P P.s.toNat (w.take k)) (runA S S.s.toNat (w.take k)) := by
  obtain ⟨Z, hZ, hco⟩ := cuts_rounds g h
  obtain ⟨K, hK, hk⟩ := hs
  have hv := word_take hw k
  rw [hco _ _ (g.ga.run_lt hv g.ga.s_lt) (g.gb.run_lt (by rw [← g.eL]; exact hv) g.gb.s_lt)]
  exact (keep_round g hK (rounds_keep g hZ hK) hv ⟨w.drop k, word_drop hw k, by rw [List.take_append_drop]; exact hk⟩).1
/-- When no pass would take any away. -/
theorem cuts_end {P S : Aut} (g : Good2 P S) {free : Int} {W : PS} (h : Cuts P S free W) (hend : ∀ v, Word P.L v → Co P S W (runA P P.s.toNat v) (runA S S.s.toNat v) → ¬ SlipP P S free W (runA P P.s.toNat v) (runA S S.s.toNat v)) {w : List Int} (hw : Word P.L w) :
    sup P S free w ↔ Stay P S W P.s.toNat S.s.toNat w ∧ accA P w = true ∧ accA S w = true := by
  have hself : ∀ p q, p < P.next.length → q < S.next.length → Co P S W p q → Co P S (coX P S W) p q := fun p q hp hq hc => co_if g (fun p q _ _ _ hc => coX_iff.2 hc) hp hq hc
  constructor
  · intro hs
    refine ⟨fun k _ => co_in (cuts_keep g h hw hs k), ?_⟩
    obtain ⟨K, hK, hk⟩ := hs
    exact (hK.within w hk).2
  · rintro ⟨hs, h1, h2⟩
    refine fix_sub_at g (X := coX P S W) (fun v hv hx => ?_) hw (stay_if g (fun p q _ _ _ hc => coX_iff.2 hc) w hw g.ga.s_lt g.gb.s_lt hs h1 h2) h1 h2
    have lp := g.ga.run_lt hv g.ga.s_lt
    have lq := g.gb.run_lt (w := v) (by rw [← g.eL]; exact hv) g.gb.s_lt
    have hc := coX_iff.1 hx
    refine ⟨hself _ _ lp lq hc, fun c hcL hf ha => hself _ _ (g.ga.step_lt lp hcL) (g.gb.step_lt lq (by rw [← g.eL]; exact hcL)) ?_⟩
    rcases Classical.em (Co P S W (step P (runA P P.s.toNat v) c) (step S (runA S S.s.toNat v) c)) with k | k
    · exact k
    · exact absurd ⟨c, hcL, hf, ha, k⟩ (hend v hv hc)
theorem cuts_none {P S : Aut} (g : Good2 P S) {free : Int} {W : PS} (h : Cuts P S free W) (hn : ¬ Co P S W P.s.toNat S.s.toNat) : ∀ w, Word P.L w → ¬ sup P S free w := fun w hw hs => hn (by
  have := cuts_keep g h hw hs 0
  rwa [List.take_zero] at this)

/-! ### the automaton under way -/
abbrev Pr' := Nat × Nat
def rowW (P S : Aut) (W : PS) (l : List Pr') (p : Pr') : List Int := if W p.1 p.2 then srow (S2 P S) l p else List.replicate P.L.toNat ((num l p : Nat) : Int)
def finW' (P S : Aut) (W : PS) (p : Pr') : Bool := W p.1 p.2 && (finA P p.1 && finA S p.2)
def autW (P S : Aut) (W : PS) (l : List Pr') : Aut := ⟨P.L, 0, l.map (rowW P S W l), l.map (finW' P S W)⟩
theorem autW_all (P S : Aut) (l : List Pr') : autW P S (fun _ _ => true) l = autOf P.L (S2 P S) l (fun p => finA P p.1 && finA S p.2) := by
  unfold autW autOf
  congr 1
theorem rowW_length {P S : Aut} (g : Good2 P S) (W : PS) (l : List Pr') (p : Pr') : ((rowW P S W l p).length : Int) = P.L := by
  unfold rowW
  split
  · rw [srow_length]; exact S2_len g p
  · rw [List.length_replicate]; have := g.ga.l1; omega
theorem autW_good {P S : Aut} (g : Good2 P S) {W : PS} {l : List Pr'} (h : Whole (S2 P S) (start2 P S) l) : Good (autW P S W l) := by
  refine ⟨g.ga.l1, g.ga.l6, by simpa [autW] using h.n1, by simpa [autW] using h.n40, by simp [autW], fun r hr => ?_, ⟨Int.le_refl _, ?_⟩, fun r hr x hx => ?_⟩
  · obtain ⟨p, hp, rfl⟩ := List.mem_map.1 hr
    exact rowW_length g W l p
  · have := h.n1
    simp only [autW, List.length_map]; omega
  · obtain ⟨p, hp, rfl⟩ := List.mem_map.1 hr
    have hlt : ∀ t ∈ l, isSt (autW P S W l) ((num l t : Nat) : Int) := fun t ht => by
      have := idx_lt ht
      refine ⟨by omega, ?_⟩
      simp only [autW, List.length_map]; omega
    unfold rowW at hx
    split at hx
    · obtain ⟨t, ht, rfl⟩ := List.mem_map.1 hx
      exact hlt t (h.closed p hp t ht)
    · rw [List.eq_of_mem_replicate hx]
      exact hlt p hp
theorem go_in {P S : Aut} {l : List Pr'} (h : Whole (S2 P S) (start2 P S) l) {x : Pr'} (hx : x ∈ l) {c : Nat} (hc : (c : Int) < P.L) : (step P x.1 c, step S x.2 c) ∈ l :=
  h.closed x hx _ (List.mem_of_getElem? (S2_get P S x hc))
theorem autW_step {P S : Aut} {W : PS} {l : List Pr'} {x : Pr'} (hx : x ∈ l) {c : Nat} (hc : (c : Int) < P.L) : step (autW P S W l) (num l x) c = if W x.1 x.2 then num l (step P x.1 c, step S x.2 c) else num l x := by
  unfold step autW
  simp only [List.getElem?_map]
  rw [idx_get hx]
  simp only [Option.map_some, Option.getD_some, rowW]
  by_cases hw : W x.1 x.2 = true
  · rw [if_pos hw, if_pos hw]
    unfold srow
    rw [List.getElem?_map, S2_get P S x hc]
    simp [step]
  · rw [if_neg hw, if_neg hw, List.getElem?_replicate, if_pos (by omega)]
    simp
theorem autW_fin {P S : Aut} {W : PS} {l : List Pr'} {x : Pr'} (hx : x ∈ l) : finA (autW P S W l) (num l x) = finW' P S W x := by
  unfold finA autW
  simp only [List.getElem?_map]
  rw [idx_get hx]; rfl
theorem autW_run {P S : Aut} {W : PS} {l : List Pr'} (h : Whole (S2 P S) (start2 P S) l) : ∀ (w : List Int) {x : Pr'}, Word P.L w → x ∈ l →
    (finA (autW P S W l) (runA (autW P S W l) (num l x) w) = true ↔ Stay P S W x.1 x.2 w ∧ finA P (runA P x.1 w) = true ∧ finA S (runA S x.2 w) = true)
  | [], x, _, hx => by
    show finA (autW P S W l) (num l x) = true ↔ _
    rw [autW_fin hx, stay_nil]
    unfold finW'
    simp [runA]
  | a :: w, x, hw, hx => by
    have ha := hw a List.mem_cons_self
    have hw' : Word P.L w := fun y hy => hw y (List.mem_cons_of_mem _ hy)
    have hc : ((a.toNat : Nat) : Int) < P.L := by omega
    show finA (autW P S W l) (runA (autW P S W l) (step (autW P S W l) (num l x) a.toNat) w) = true ↔ _
    rw [autW_step hx hc, stay_cons]
    by_cases hW : W x.1 x.2 = true
    · rw [if_pos hW, autW_run h w hw' (go_in h hx hc)]
      exact ⟨fun ⟨k1, k2⟩ => ⟨⟨hW, k1⟩, k2⟩, fun ⟨⟨_, k1⟩, k2⟩ => ⟨k1, k2⟩⟩
    · rw [if_neg hW, autW_run h w hw' hx]
      exact ⟨fun ⟨k1, _⟩ => absurd (stay_first k1) hW, fun ⟨⟨k1, _⟩, _⟩ => absurd k1 hW⟩
theorem autW_alive {P S : Aut} (g : Good2 P S) {W : PS} {l : List Pr'} (h : Whole (S2 P S) (start2 P S) l) {x : Pr'} (hx : x ∈ l) : isAlive (autW P S W l) (num l x) = true ↔ Co P S W x.1 x.2 := by
  rw [isAlive_iff (autW_good g h) (by simp only [autW, List.length_map]; exact idx_lt hx)]
  unfold Co
  exact ⟨fun ⟨w, hw, k⟩ => ⟨w, hw, (autW_run h w hw hx).1 k⟩, fun ⟨w, hw, k⟩ => ⟨w, hw, (autW_run h w hw hx).2 k⟩⟩
theorem start_in {P S : Aut} {l : List Pr'} (h : Whole (S2 P S) (start2 P S) l) : start2 P S ∈ l ∧ num l (start2 P S) = 0 := ⟨List.mem_of_getElem? h.hd, idx_of h.nd h.hd⟩
theorem autW_acc {P S : Aut} {W : PS} {l : List Pr'} (h : Whole (S2 P S) (start2 P S) l) {w : List Int} (hw : Word P.L w) : accA (autW P S W l) w = true ↔ Stay P S W P.s.toNat S.s.toNat w ∧ accA P w = true ∧ accA S w = true := by
  obtain ⟨h1, h2⟩ := start_in h
  have := autW_run (W := W) h w hw h1
  rw [h2] at this
  exact this
/-- Where words lead is found. -/
theorem run_in {P S : Aut} {l : List Pr'} (h : Whole (S2 P S) (start2 P S) l) : ∀ (v : List Int) {x : Pr'}, Word P.L v → x ∈ l → (runA P x.1 v, runA S x.2 v) ∈ l
  | [], _, _, hx => hx
  | a :: v, x, hv, hx => run_in h v (x := (step P x.1 a.toNat, step S x.2 a.toNat)) (fun y hy => hv y (List.mem_cons_of_mem _ hy)) (go_in h hx (by have := hv a List.mem_cons_self; omega))

/-! ### a pass, by states -/
def flagAt (l : List Bool) (s : Nat) : Bool := l[s]?.getD false
/-- A free letter leads from a state to where nothing can be accepted, and the plant can go there. -/
def slipAt (al pr : List Bool) (free : Int) (r : List Int) (c : Nat) : Bool := has free (c : Int) && (flagAt pr (r[c]?.getD 0).toNat && !flagAt al (r[c]?.getD 0).toNat)
def slipB (al pr : List Bool) (free : Int) (r : List Int) : Bool := (List.range r.length).any (slipAt al pr free r)
theorem slipB_hit {al pr : List Bool} {free : Int} {r : List Int} {c : Nat} (hc : c < r.length) (h : slipAt al pr free r c = true) : slipB al pr free r = true :=
  List.any_eq_true.2 ⟨c, List.mem_range.2 hc, h⟩
theorem slipB_no {al pr : List Bool} {free : Int} {r : List Int} (h : ∀ c, c < r.length → slipAt al pr free r c = false) : slipB al pr free r = false :=
  List.any_eq_false.2 fun c hc => by rw [h c (List.mem_range.1 hc)]; simp
/-- A state is shut. -/
def cutB (d : Aut) (al pr : List Bool) (free : Int) (s : Nat) : Bool := flagAt al s && slipB al pr free (d.next[s]?.getD [])
def cutRow (d : Aut) (al pr : List Bool) (free : Int) (s : Nat) : List Int := if cutB d al pr free s then List.replicate (d.next[s]?.getD []).length (s : Int) else d.next[s]?.getD []
def cutFin (d : Aut) (al pr : List Bool) (free : Int) (s : Nat) : Bool := if cutB d al pr free s then false else finA d s
def shutA (d : Aut) (al pr : List Bool) (free : Int) : Aut := ⟨d.L, d.s, (List.range d.next.length).map (cutRow d al pr free), (List.range d.fin.length).map (cutFin d al pr free)⟩
def shutAny (d : Aut) (al pr : List Bool) (free : Int) (k : Nat) : Bool := (List.range k).any (cutB d al pr free)
theorem shutAny_succ (d : Aut) (al pr : List Bool) (free : Int) (k : Nat) : shutAny d al pr free (k + 1) = (shutAny d al pr free k || cutB d al pr free k) := by
  unfold shutAny; rw [List.range_succ, List.any_append]; simp
theorem map_num {β : Type} {l : List Pr'} (hn : l.Nodup) (f : Nat → β) (h : Pr' → β) (hf : ∀ x ∈ l, f (num l x) = h x) : (List.range l.length).map f = l.map h := by
  refine List.ext_getElem (by simp) fun i h1 h2 => ?_
  have hi : i < l.length := by simpa using h1
  rw [List.getElem_map, List.getElem_map, List.getElem_range, ← hf _ (List.getElem_mem hi), idx_of hn (List.getElem?_eq_getElem hi)]
section
variable {P S : Aut} {free : Int} {W : PS} {l : List Pr'} {al pr : List Bool}
theorem slip_iff (g : Good2 P S) (h : Whole (S2 P S) (start2 P S) l) (hal : ∀ x ∈ l, flagAt al (num l x) = isAlive (autW P S W l) (num l x)) (hpr : ∀ x ∈ l, flagAt pr (num l x) = isAlive P x.1) {x : Pr'} (hx : x ∈ l) : slipB al pr free (srow (S2 P S) l x) = true ↔ SlipP P S free W x.1 x.2 := by
  have hlen : (srow (S2 P S) l x).length = P.L.toNat := by rw [srow_length, S2_length]
  have hat : ∀ c : Nat, (c : Int) < P.L → ((srow (S2 P S) l x)[c]?.getD 0).toNat = num l (step P x.1 c, step S x.2 c) := fun c hc => by
    unfold srow
    rw [List.getElem?_map, S2_get P S x hc]; simp
  unfold slipB SlipP
  rw [List.any_eq_true, hlen]
  constructor
  · rintro ⟨c, hc, k⟩
    have hc : (c : Int) < P.L := by have := List.mem_range.1 hc; omega
    have hi := go_in h hx hc
    unfold slipAt at k
    rw [hat c hc, hpr _ hi, hal _ hi] at k
    simp only [Bool.and_eq_true, Bool.not_eq_true'] at k
    refine ⟨c, hc, k.1, k.2.1, fun q => ?_⟩
    rw [(autW_alive g h hi).2 q] at k
    exact absurd k.2.2 (by simp)
  · rintro ⟨c, hc, k1, k2, k3⟩
    have hi := go_in h hx hc
    refine ⟨c, List.mem_range.2 (by omega), ?_⟩
    unfold slipAt
    rw [hat c hc, hpr _ hi, hal _ hi, k1, k2]
    rcases e : isAlive (autW P S W l) (num l (step P x.1 c, step S x.2 c)) with _ | _
    · rfl
    · exact absurd ((autW_alive g h hi).1 e) k3
theorem autW_next {x : Pr'} (hx : x ∈ l) : (autW P S W l).next[num l x]?.getD [] = rowW P S W l x := by
  unfold autW
  simp only [List.getElem?_map]
  rw [idx_get hx]; rfl
theorem cut_iff (g : Good2 P S) (h : Whole (S2 P S) (start2 P S) l) (hal : ∀ x ∈ l, flagAt al (num l x) = isAlive (autW P S W l) (num l x)) (hpr : ∀ x ∈ l, flagAt pr (num l x) = isAlive P x.1) {x : Pr'} (hx : x ∈ l) : cutB (autW P S W l) al pr free (num l x) = true ↔ Co P S W x.1 x.2 ∧ SlipP P S free W x.1 x.2 := by
  unfold cutB
  rw [hal x hx, autW_next hx, Bool.and_eq_true, autW_alive g h hx]
  refine and_congr_right fun hc => ?_
  unfold rowW
  rw [if_pos (co_in hc)]
  exact slip_iff g h hal hpr hx
/-- A pass takes away just what it should. -/
theorem shut_cut (g : Good2 P S) (h : Whole (S2 P S) (start2 P S) l) (hal : ∀ x ∈ l, flagAt al (num l x) = isAlive (autW P S W l) (num l x)) (hpr : ∀ x ∈ l, flagAt pr (num l x) = isAlive P x.1) : shutA (autW P S W l) al pr free = autW P S (cutW P S free W) l := by
  have hc := fun x hx => cut_iff (free := free) g h hal hpr (x := x) hx
  have e1 : (List.range l.length).map (cutRow (autW P S W l) al pr free) = l.map (rowW P S (cutW P S free W) l) := map_num h.nd _ _ fun x hx => by
    unfold cutRow
    rw [autW_next hx]
    by_cases hb : cutB (autW P S W l) al pr free (num l x) = true
    · rw [if_pos hb]
      have h1 := (hc x hx).1 hb
      have h2 : ¬ cutW P S free W x.1 x.2 = true := fun k => (cutW_iff.1 k).2 h1
      have h3 : (rowW P S W l x).length = P.L.toNat := by have := rowW_length g W l x; omega
      rw [h3]
      show _ = rowW P S (cutW P S free W) l x
      rw [show rowW P S (cutW P S free W) l x = List.replicate P.L.toNat ((num l x : Nat) : Int) from if_neg h2]
    · rw [if_neg hb]
      unfold rowW
      by_cases hW : W x.1 x.2 = true
      · rw [if_pos hW, if_pos (cutW_iff.2 ⟨hW, fun k => hb ((hc x hx).2 k)⟩)]
      · rw [if_neg hW, if_neg (fun k => hW (cutW_iff.1 k).1)]
  have e2 : (List.range l.length).map (cutFin (autW P S W l) al pr free) = l.map (finW' P S (cutW P S free W)) := map_num h.nd _ _ fun x hx => by
    unfold cutFin
    rw [autW_fin hx]
    unfold finW'
    by_cases hb : cutB (autW P S W l) al pr free (num l x) = true
    · rw [if_pos hb]
      have h2 : cutW P S free W x.1 x.2 = false := by
        rcases e : cutW P S free W x.1 x.2 with _ | _
        · rfl
        · exact absurd ((hc x hx).1 hb) (cutW_iff.1 e).2
      rw [h2]; rfl
    · rw [if_neg hb]
      have h2 : cutW P S free W x.1 x.2 = W x.1 x.2 := by
        rcases e : W x.1 x.2 with _ | _
        · rcases e2 : cutW P S free W x.1 x.2 with _ | _
          · rfl
          · rw [(cutW_iff.1 e2).1] at e; cases e
        · exact cutW_iff.2 ⟨e, fun k => hb ((hc x hx).2 k)⟩
      rw [h2]
  unfold shutA
  rw [show (autW P S W l).next.length = l.length by simp [autW], show (autW P S W l).fin.length = l.length by simp [autW], e1, e2]
  rfl
/-- No state is shut: nothing slips out. -/
theorem shut_none (g : Good2 P S) (h : Whole (S2 P S) (start2 P S) l) (hal : ∀ x ∈ l, flagAt al (num l x) = isAlive (autW P S W l) (num l x)) (hpr : ∀ x ∈ l, flagAt pr (num l x) = isAlive P x.1) (hn : shutAny (autW P S W l) al pr free l.length = false) {v : List Int} (hv : Word P.L v) (hc : Co P S W (runA P P.s.toNat v) (runA S S.s.toNat v)) : ¬ SlipP P S free W (runA P P.s.toNat v) (runA S S.s.toNat v) := fun hs => by
  have hi := run_in h v hv (start_in h).1
  have h1 := (cut_iff (free := free) g h hal hpr hi).2 ⟨hc, hs⟩
  have := List.any_eq_false.1 hn _ (List.mem_range.2 (idx_lt hi))
  exact this h1
/-- Some state is shut: there are fewer that are alive. -/
theorem shut_fewer (g : Good2 P S) (h : Whole (S2 P S) (start2 P S) l) (hal : ∀ x ∈ l, flagAt al (num l x) = isAlive (autW P S W l) (num l x)) (hpr : ∀ x ∈ l, flagAt pr (num l x) = isAlive P x.1) (hn : shutAny (autW P S W l) al pr free l.length = true) :
    ((List.range l.length).filter fun i => isAlive (autW P S (cutW P S free W) l) i).length < ((List.range l.length).filter fun i => isAlive (autW P S W l) i).length := by
  obtain ⟨i, hi, hb⟩ := List.any_eq_true.1 hn
  have hi := List.mem_range.1 hi
  have hx : l[i] ∈ l := List.getElem_mem hi
  have hnum : num l l[i] = i := idx_of h.nd (List.getElem?_eq_getElem hi)
  have hcut := (cut_iff (free := free) g h hal hpr hx).1 (by rw [hnum]; exact hb)
  have hno : isAlive (autW P S (cutW P S free W) l) i = false := by
    rcases e : isAlive (autW P S (cutW P S free W) l) i with _ | _
    · rfl
    · rw [← hnum] at e
      exact absurd hcut (cutW_iff.1 (co_in ((autW_alive g h hx).1 e))).2
  have hyes : isAlive (autW P S W l) i = true := by
    rw [← hnum]; exact (autW_alive g h hx).2 hcut.1
  have key : ∀ (m : List Nat) (p q : Nat → Bool), (∀ j ∈ m, p j = true → q j = true) → (∃ j ∈ m, p j = false ∧ q j = true) → (m.filter p).length < (m.filter q).length := by
    intro m p q
    induction m with
    | nil => rintro _ ⟨j, hj, _⟩; simp at hj
    | cons a m ih =>
      intro h1 h2
      have hle : ∀ (m : List Nat), (∀ j ∈ m, p j = true → q j = true) → (m.filter p).length ≤ (m.filter q).length := by
        intro m
        induction m with
        | nil => intro _; exact Nat.le_refl _
        | cons b m ih2 =>
          intro h
          have := ih2 fun j hj => h j (List.mem_cons_of_mem _ hj)
          have hb := h b List.mem_cons_self
          rw [List.filter_cons, List.filter_cons]
          by_cases e : p b = true
          · rw [if_pos e, if_pos (hb e)]; simp only [List.length_cons]; omega
          · rw [if_neg e]
            split
            · simp only [List.length_cons]; omega
            · exact this
      have hl := hle m fun j hj => h1 j (List.mem_cons_of_mem _ hj)
      rw [List.filter_cons, List.filter_cons]
      obtain ⟨j, hj, k1, k2⟩ := h2
      rcases List.mem_cons.1 hj with rfl | hj
      · rw [if_neg (by rw [k1]; simp), if_pos k2]
        simp only [List.length_cons]; omega
      · have := ih (fun j hj => h1 j (List.mem_cons_of_mem _ hj)) ⟨j, hj, k1, k2⟩
        by_cases e : p a = true
        · rw [if_pos e, if_pos (h1 a List.mem_cons_self e)]; simp only [List.length_cons]; omega
        · rw [if_neg e]
          split
          · simp only [List.length_cons]; omega
          · exact this
  refine key _ _ _ (fun j hj hp => ?_) ⟨i, List.mem_range.2 hi, hno, hyes⟩
  have hj := List.mem_range.1 hj
  have hjx : l[j] ∈ l := List.getElem_mem hj
  have hjn : num l l[j] = j := idx_of h.nd (List.getElem?_eq_getElem hj)
  rw [← hjn] at hp ⊢
  exact (autW_alive g h hjx).2 (co_mono (fun p q k => (cutW_iff.1 k).1) ((autW_alive g h hjx).1 hp))
end
end Go.Proofs.YtbciefeipiphiaaDoor.Su
