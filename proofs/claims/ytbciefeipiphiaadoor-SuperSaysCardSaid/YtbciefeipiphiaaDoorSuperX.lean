/- Plain mathematics of the automaton of the pairs that are in, with one state more for all others. Plain mathematics of the rows of the pairs that are in: -1 for what is not, then the last state's number. -/
import Derived.Test.YtbciefeipiphiaaDoorSuperM
import Derived.Test.YtbciefeipiphiaaDoorBigM

namespace Go.Proofs.YtbciefeipiphiaaDoor.Su
open Go.Proofs.YtbciefeipiphiaaDoor.Df Go.Proofs.YtbciefeipiphiaaDoor.Wo Go.Proofs.YtbciefeipiphiaaDoor.Rc Go.Proofs.YtbciefeipiphiaaDoor.Sm Go.Proofs.YtbciefeipiphiaaDoor.Sa Go.Proofs.YtbciefeipiphiaaDoor.Me

abbrev Pr := Nat × Nat
def nextP (P S : Aut) (x : Pr) (c : Nat) : Pr := (Df.step P x.1 c, Df.step S x.2 c)
def inX (X : PS) (x : Pr) : Bool := X x.1 x.2
def nxW (P S : Aut) (X : PS) (K : List Pr) (x : Pr) (c : Nat) : Int := if inX X (nextP P S x c) = true then ((num K (nextP P S x c) : Nat) : Int) else ((K.length : Nat) : Int)
def wRowW (P S : Aut) (X : PS) (K : List Pr) (x : Pr) : List Int := (List.range P.L.toNat).map (nxW P S X K x)
def finW (P S : Aut) (x : Pr) : Bool := finA P x.1 && finA S x.2
/-- All of them, and the last state. -/
def wA (P S : Aut) (X : PS) (K : List Pr) : Aut := ⟨P.L, 0, K.map (wRowW P S X K) ++ [List.replicate P.L.toNat ((K.length : Nat) : Int)], K.map (finW P S) ++ [false]⟩
/-- Without the last one. -/
def wA0 (P S : Aut) (X : PS) (K : List Pr) : Aut := ⟨P.L, 0, K.map (wRowW P S X K), K.map (finW P S)⟩
/-- The pairs that are found. -/
structure Wi (P S : Aut) (X : PS) (K : List Pr) : Prop where
  hd : K[0]? = some (start2 P S)
  nd : K.Nodup
  inn : ∀ x ∈ K, x.1 < P.next.length ∧ x.2 < S.next.length ∧ inX X x = true
  closed : ∀ x ∈ K, ∀ c : Nat, (c : Int) < P.L → inX X (nextP P S x c) = true → nextP P S x c ∈ K
  rch : ∀ x ∈ K, Rch (S2 P S) (start2 P S) x
theorem num_at {K : List Pr} {t : Pr} (h : t ∈ K) : num K t < K.length ∧ K[num K t]? = some t := by
  exact ⟨(List.getElem?_eq_some_iff.1 (idx_get h)).1, idx_get h⟩
theorem Wi.pos {P S : Aut} {X : PS} {K : List Pr} (h : Wi P S X K) : 0 < K.length := (List.getElem?_eq_some_iff.1 h.hd).1
theorem nxW_lt {P S : Aut} {X : PS} {K : List Pr} (h : Wi P S X K) {x : Pr} (hx : x ∈ K) {c : Nat} (hc : (c : Int) < P.L) : 0 ≤ nxW P S X K x c ∧ nxW P S X K x c ≤ (K.length : Int) := by
  unfold nxW
  split
  · rename_i e
    have := (num_at (h.closed x hx c hc e)).1
    omega
  · omega
theorem wA_len (P S : Aut) (X : PS) (K : List Pr) : (wA P S X K).next.length = K.length + 1 := by simp [wA]
theorem wA_step {P S : Aut} {X : PS} {K : List Pr} {i c : Nat} {x : Pr} (hx : K[i]? = some x) (hc : (c : Int) < P.L) : Df.step (wA P S X K) i c = (nxW P S X K x c).toNat := by
  have hi := (List.getElem?_eq_some_iff.1 hx).1
  have hcl : c < P.L.toNat := by omega
  have e : (wA P S X K).next[i]? = some (wRowW P S X K x) := by
    show (K.map (wRowW P S X K) ++ _)[i]? = _
    rw [List.getElem?_append_left (by rw [List.length_map]; exact hi), List.getElem?_map, hx]; rfl
  unfold Df.step
  rw [e]
  show (((wRowW P S X K x)[c]?).getD 0).toNat = _
  unfold wRowW
  rw [List.getElem?_map, List.getElem?_range hcl]; rfl
theorem wA_last {P S : Aut} {X : PS} {K : List Pr} {c : Nat} (hc : (c : Int) < P.L) : Df.step (wA P S X K) K.length c = K.length := by
  have hcl : c < P.L.toNat := by omega
  have e : (wA P S X K).next[K.length]? = some (List.replicate P.L.toNat ((K.length : Nat) : Int)) := by
    show (K.map (wRowW P S X K) ++ _)[K.length]? = _
    rw [List.getElem?_append_right (by rw [List.length_map]; exact Nat.le_refl _), List.length_map, Nat.sub_self]; rfl
  unfold Df.step
  rw [e]
  show (((List.replicate P.L.toNat ((K.length : Nat) : Int))[c]?).getD 0).toNat = _
  rw [List.getElem?_replicate, if_pos hcl]
  show (((K.length : Nat) : Int)).toNat = _
  omega
theorem wA_fin {P S : Aut} {X : PS} {K : List Pr} {i : Nat} {x : Pr} (hx : K[i]? = some x) : finA (wA P S X K) i = finW P S x := by
  have hi := (List.getElem?_eq_some_iff.1 hx).1
  unfold finA
  show ((K.map (finW P S) ++ [false])[i]?).getD false = _
  rw [List.getElem?_append_left (by rw [List.length_map]; exact hi), List.getElem?_map, hx]; rfl
theorem wA_fin_last {P S : Aut} {X : PS} {K : List Pr} : finA (wA P S X K) K.length = false := by
  unfold finA
  show ((K.map (finW P S) ++ [false])[K.length]?).getD false = _
  rw [List.getElem?_append_right (by rw [List.length_map]; exact Nat.le_refl _), List.length_map, Nat.sub_self]; rfl
theorem run_last {P S : Aut} {X : PS} {K : List Pr} : ∀ (w : List Int), Word P.L w → runA (wA P S X K) K.length w = K.length
  | [], _ => rfl
  | a :: w, hw => by
    have ha := hw a List.mem_cons_self
    show runA (wA P S X K) (Df.step (wA P S X K) K.length a.toNat) w = _
    rw [wA_last (by omega)]
    exact run_last w fun x hx => hw x (List.mem_cons_of_mem _ hx)
theorem wrun_in {P S : Aut} {X : PS} {K : List Pr} (h : Wi P S X K) : ∀ (w : List Int) {i : Nat} {x : Pr}, K[i]? = some x → Word P.L w →
    (Stay P S X x.1 x.2 w → K[runA (wA P S X K) i w]? = some (runA P x.1 w, runA S x.2 w)) ∧ (¬ Stay P S X x.1 x.2 w → runA (wA P S X K) i w = K.length)
  | [], i, x, hx, _ => ⟨fun _ => hx, fun hn => absurd (stay_nil.2 (h.inn x (List.mem_of_getElem? hx)).2.2) hn⟩
  | a :: w, i, x, hx, hw => by
    have ha := hw a List.mem_cons_self
    have hm := List.mem_of_getElem? hx
    have hw' : Word P.L w := fun y hy => hw y (List.mem_cons_of_mem _ hy)
    have hs := wA_step (P := P) (S := S) (X := X) hx (c := a.toNat) (by omega)
    by_cases hin : inX X (nextP P S x a.toNat) = true
    · have hk := h.closed x hm a.toNat (by omega) hin
      obtain ⟨n1, n2⟩ := num_at hk
      have e : Df.step (wA P S X K) i a.toNat = num K (nextP P S x a.toNat) := by
        rw [hs]; unfold nxW; rw [if_pos hin]; omega
      obtain ⟨i1, i2⟩ := wrun_in h w n2 hw'
      constructor
      · intro hst
        show K[runA (wA P S X K) (Df.step (wA P S X K) i a.toNat) w]? = _
        rw [e]
        exact i1 (stay_cons.1 hst).2
      · intro hst
        show runA (wA P S X K) (Df.step (wA P S X K) i a.toNat) w = _
        rw [e]
        exact i2 fun q => hst (stay_cons.2 ⟨(h.inn x hm).2.2, q⟩)
    · have e : Df.step (wA P S X K) i a.toNat = K.length := by
        rw [hs]; unfold nxW; rw [if_neg hin]; omega
      constructor
      · intro hst
        exact absurd (stay_first (stay_cons.1 hst).2) hin
      · intro _
        show runA (wA P S X K) (Df.step (wA P S X K) i a.toNat) w = _
        rw [e]
        exact run_last w hw'
theorem wA_acc {P S : Aut} {X : PS} {K : List Pr} (h : Wi P S X K) {w : List Int} (hw : Word P.L w) : accA (wA P S X K) w = true ↔ Stay P S X P.s.toNat S.s.toNat w ∧ accA P w = true ∧ accA S w = true := by
  obtain ⟨i1, i2⟩ := wrun_in h w h.hd hw
  have e0 : accA (wA P S X K) w = finA (wA P S X K) (runA (wA P S X K) 0 w) := rfl
  rw [e0]
  by_cases hst : Stay P S X P.s.toNat S.s.toNat w
  · rw [wA_fin (i1 hst)]
    unfold finW
    rw [Bool.and_eq_true]
    exact ⟨fun q => ⟨hst, q⟩, fun q => q.2⟩
  · rw [i2 hst, wA_fin_last]
    exact ⟨fun q => (by cases q), fun q => absurd q.1 hst⟩
theorem wA_goodB {P S : Aut} (g : Good2 P S) {X : PS} {K : List Pr} (h : Wi P S X K) (h40 : K.length ≤ 40) : GoodB (wA P S X K) := by
  have hL := g.ga.l1
  have hp := h.pos
  refine ⟨g.ga.l1, g.ga.l6, by rw [wA_len]; omega, by rw [wA_len]; omega, by simp [wA], fun r hr => ?_, ?_, fun r hr x hx => ?_⟩
  · rcases List.mem_append.1 hr with hr | hr
    · obtain ⟨y, _, rfl⟩ := List.mem_map.1 hr
      unfold wRowW
      rw [List.length_map, List.length_range]
      show ((P.L.toNat : Nat) : Int) = P.L
      omega
    · simp at hr; subst hr
      rw [List.length_replicate]
      show ((P.L.toNat : Nat) : Int) = P.L
      omega
  · show isSt (wA P S X K) 0
    unfold isSt
    rw [wA_len]; omega
  · unfold isSt
    rw [wA_len]
    rcases List.mem_append.1 hr with hr | hr
    · obtain ⟨y, hy, rfl⟩ := List.mem_map.1 hr
      obtain ⟨c, hc, rfl⟩ := List.mem_map.1 hx
      have hc := List.mem_range.1 hc
      have := nxW_lt h hy (c := c) (by omega)
      omega
    · simp at hr; subst hr
      have := List.eq_of_mem_replicate hx
      subst this
      omega
theorem wA_good {P S : Aut} (g : Good2 P S) {X : PS} {K : List Pr} (h : Wi P S X K) (h39 : K.length ≤ 39) : Df.Good (wA P S X K) := by
  have hb := wA_goodB g h (by omega)
  exact ⟨hb.l1, hb.l6, hb.n1, by rw [wA_len]; omega, hb.fin, hb.row, hb.st, hb.go⟩

/-! ### forty pairs: the last state is not reached -/
theorem all_of_nodup {K l : List Pr} (hK : K.Nodup) (hs : ∀ x ∈ K, x ∈ l) (hl : l.length ≤ K.length) {y : Pr} (hy : y ∈ l) : y ∈ K := by
  rcases Classical.em (y ∈ K) with h | h
  · exact h
  · exfalso
    have := nodup_le_of (l := y :: K) (n := l.length) (List.nodup_cons.2 ⟨h, hK⟩) (num l) (fun a ha b hb e => by
      have hal : a ∈ l := by rcases List.mem_cons.1 ha with rfl | ha; exact hy; exact hs a ha
      have hbl : b ∈ l := by rcases List.mem_cons.1 hb with rfl | hb; exact hy; exact hs b hb
      have h1 := (num_at hal).2
      rw [e, (num_at hbl).2] at h1
      exact (Option.some.inj h1).symm) (fun a ha => by
      have hal : a ∈ l := by rcases List.mem_cons.1 ha with rfl | ha; exact hy; exact hs a ha
      exact (num_at hal).1)
    simp at this
    omega
theorem wA0_step {P S : Aut} {X : PS} {K : List Pr} {i c : Nat} {x : Pr} (hx : K[i]? = some x) (hc : (c : Int) < P.L) : Df.step (wA0 P S X K) i c = (nxW P S X K x c).toNat := by
  have hcl : c < P.L.toNat := by omega
  have e : (wA0 P S X K).next[i]? = some (wRowW P S X K x) := by
    show (K.map (wRowW P S X K))[i]? = _
    rw [List.getElem?_map, hx]; rfl
  unfold Df.step
  rw [e]
  show (((wRowW P S X K x)[c]?).getD 0).toNat = _
  unfold wRowW
  rw [List.getElem?_map, List.getElem?_range hcl]; rfl
theorem wA0_fin {P S : Aut} {X : PS} {K : List Pr} {i : Nat} {x : Pr} (hx : K[i]? = some x) : finA (wA0 P S X K) i = finW P S x := by
  unfold finA
  show ((K.map (finW P S))[i]?).getD false = _
  rw [List.getElem?_map, hx]; rfl
/-- No letter leads out. -/
def Shut2 (P S : Aut) (X : PS) (K : List Pr) : Prop := ∀ x ∈ K, ∀ c : Nat, (c : Int) < P.L → inX X (nextP P S x c) = true
theorem wi_in {P S : Aut} {X : PS} {K l : List Pr} (h : Wi P S X K) (hf : found (S2 P S) (start2 P S) = some l) : ∀ y ∈ K, y ∈ l := fun y hy => (found_whole hf).mem_iff.2 (h.rch y hy)
theorem wi_le {P S : Aut} {X : PS} {K l : List Pr} (h : Wi P S X K) (hf : found (S2 P S) (start2 P S) = some l) : K.length ≤ 40 := by
  have hl := wi_in h hf
  have h1 := nodup_le_of (l := K) (n := l.length) h.nd (num l) (fun a ha b hb e => by
    have h1 := (num_at (hl a ha)).2
    rw [e, (num_at (hl b hb)).2] at h1
    exact (Option.some.inj h1).symm) (fun a ha => (num_at (hl a ha)).1)
  have h2 := (found_whole hf).n40
  omega
theorem shut_40 {P S : Aut} {X : PS} {K l : List Pr} (h : Wi P S X K) (hf : found (S2 P S) (start2 P S) = some l) (h40 : 40 ≤ K.length) : Shut2 P S X K := fun x hx c hc => by
  have hw := found_whole hf
  have hl := wi_in h hf
  have hn : nextP P S x c ∈ l := hw.closed x (hl x hx) _ (List.mem_of_getElem? (S2_get P S x hc))
  exact (h.inn _ (all_of_nodup h.nd hl (by have := hw.n40; omega) hn)).2.2
theorem nxW_in {P S : Aut} {X : PS} {K : List Pr} (h : Wi P S X K) (hs : Shut2 P S X K) {x : Pr} (hx : x ∈ K) {c : Nat} (hc : (c : Int) < P.L) : 0 ≤ nxW P S X K x c ∧ nxW P S X K x c < (K.length : Int) := by
  unfold nxW
  rw [if_pos (hs x hx c hc)]
  have := (num_at (h.closed x hx c hc (hs x hx c hc))).1
  omega
theorem wA0_good {P S : Aut} (g : Good2 P S) {X : PS} {K : List Pr} (h : Wi P S X K) (hs : Shut2 P S X K) (h40 : K.length ≤ 40) : Df.Good (wA0 P S X K) := by
  have hL := g.ga.l1
  have hp := h.pos
  have hlen : (wA0 P S X K).next.length = K.length := by simp [wA0]
  refine ⟨g.ga.l1, g.ga.l6, by omega, by omega, by simp [wA0], fun r hr => ?_, ?_, fun r hr x hx => ?_⟩
  · obtain ⟨y, _, rfl⟩ := List.mem_map.1 hr
    unfold wRowW
    rw [List.length_map, List.length_range]
    show ((P.L.toNat : Nat) : Int) = P.L
    omega
  · show isSt (wA0 P S X K) 0
    unfold isSt
    omega
  · unfold isSt
    obtain ⟨y, hy, rfl⟩ := List.mem_map.1 hr
    obtain ⟨c, hc, rfl⟩ := List.mem_map.1 hx
    have hc := List.mem_range.1 hc
    have := nxW_in h hs hy (c := c) (by omega)
    omega
theorem step_same {P S : Aut} {X : PS} {K : List Pr} (h : Wi P S X K) (hs : Shut2 P S X K) {i c : Nat} (hi : i < K.length) (hc : (c : Int) < P.L) : Df.step (wA P S X K) i c = Df.step (wA0 P S X K) i c ∧ Df.step (wA0 P S X K) i c < K.length := by
  have hx := List.getElem?_eq_getElem hi
  have := nxW_in h hs (List.getElem_mem hi) hc
  rw [wA_step hx hc, wA0_step hx hc]
  exact ⟨rfl, by omega⟩
theorem fin_same {P S : Aut} {X : PS} {K : List Pr} {i : Nat} (hi : i < K.length) : finA (wA P S X K) i = finA (wA0 P S X K) i := by
  have hx := List.getElem?_eq_getElem hi
  rw [wA_fin hx, wA0_fin hx]
theorem run_same {P S : Aut} {X : PS} {K : List Pr} (h : Wi P S X K) (hs : Shut2 P S X K) : ∀ (w : List Int) {i : Nat}, i < K.length → Word P.L w → runA (wA P S X K) i w = runA (wA0 P S X K) i w ∧ runA (wA0 P S X K) i w < K.length
  | [], _, hi, _ => ⟨rfl, hi⟩
  | a :: w, i, hi, hw => by
    have ha := hw a List.mem_cons_self
    obtain ⟨e1, e2⟩ := step_same h hs hi (c := a.toNat) (by omega)
    have ih := run_same h hs w e2 fun x hx => hw x (List.mem_cons_of_mem _ hx)
    show runA (wA P S X K) (Df.step (wA P S X K) i a.toNat) w = runA (wA0 P S X K) (Df.step (wA0 P S X K) i a.toNat) w ∧ _
    rw [e1]
    exact ih
theorem alike_same {P S : Aut} {X : PS} {K : List Pr} (h : Wi P S X K) (hs : Shut2 P S X K) {i j : Nat} (hi : i < K.length) (hj : j < K.length) : Sm.Alike (wA P S X K) (wA P S X K) i j ↔ Sm.Alike (wA0 P S X K) (wA0 P S X K) i j := by
  have e : ∀ w, Word P.L w → (finA (wA P S X K) (runA (wA P S X K) i w) = finA (wA0 P S X K) (runA (wA0 P S X K) i w) ∧ finA (wA P S X K) (runA (wA P S X K) j w) = finA (wA0 P S X K) (runA (wA0 P S X K) j w)) := fun w hw => by
    obtain ⟨a1, a2⟩ := run_same h hs w hi hw
    obtain ⟨b1, b2⟩ := run_same h hs w hj hw
    rw [a1, b1, fin_same a2, fin_same b2]
    exact ⟨rfl, rfl⟩
  constructor
  · intro q w hw
    rw [← (e w hw).1, ← (e w hw).2]; exact q w hw
  · intro q w hw
    rw [(e w hw).1, (e w hw).2]; exact q w hw
theorem sameB_same {P S : Aut} (g : Good2 P S) {X : PS} {K : List Pr} (h : Wi P S X K) (hs : Shut2 P S X K) (h40 : K.length ≤ 40) {i j : Nat} (hi : i < K.length) (hj : j < K.length) : sameB (wA P S X K) (wA P S X K) i j = sameB (wA0 P S X K) (wA0 P S X K) i j := by
  rw [Bool.eq_iff_iff, same_iffB (Good2B.self (wA_goodB g h h40)) (by rw [wA_len]; omega) (by rw [wA_len]; omega), same_iff (Good2.self (wA0_good g h hs h40)) (by simp [wA0]; exact hi) (by simp [wA0]; exact hj)]
  exact alike_same h hs hi hj
theorem kin_same {P S : Aut} (g : Good2 P S) {X : PS} {K : List Pr} (h : Wi P S X K) (hs : Shut2 P S X K) (h40 : K.length ≤ 40) {i : Nat} (hi : i < K.length) : kin (wA P S X K) (wA P S X K) i = kin (wA0 P S X K) (wA0 P S X K) i := by
  have hl0 : (wA0 P S X K).next.length = K.length := by simp [wA0]
  unfold kin
  rw [wA_len, hl0]
  rcases e : least K.length (sameB (wA0 P S X K) (wA0 P S X K) i) with _ | t
  · have := least_none e hi
    rw [(same_iff (Good2.self (wA0_good g h hs h40)) (by omega) (by omega)).2 fun w _ => rfl] at this
    cases this
  · obtain ⟨h1, h2, h3⟩ := least_some e
    rw [least_is (k := t) (by omega) (by rw [sameB_same g h hs h40 hi h1]; exact h2) fun j hj => by rw [sameB_same g h hs h40 hi (by omega)]; exact h3 j hj]
theorem s1_same {P S : Aut} (g : Good2 P S) {X : PS} {K : List Pr} (h : Wi P S X K) (hs : Shut2 P S X K) (h40 : K.length ≤ 40) {i : Nat} (hi : i < K.length) : S1 (quo (wA P S X K)) i = (S1 (quo (wA0 P S X K)) i).map id := by
  rw [List.map_id]
  show (List.range P.L.toNat).map (Df.step (quo (wA P S X K)) i) = (List.range P.L.toNat).map (Df.step (quo (wA0 P S X K)) i)
  refine List.map_congr_left fun c hc => ?_
  have hc := List.mem_range.1 hc
  have hcL : (c : Int) < P.L := by omega
  obtain ⟨e1, e2⟩ := step_same h hs hi hcL
  rw [quo_step (d := wA P S X K) (by rw [wA_len]; omega) hcL, quo_step (d := wA0 P S X K) (by simp [wA0]; exact hi) hcL, e1]
  exact kin_same g h hs h40 e2
theorem start_same {P S : Aut} (g : Good2 P S) {X : PS} {K : List Pr} (h : Wi P S X K) (hs : Shut2 P S X K) (h40 : K.length ≤ 40) : (quo (wA P S X K)).s.toNat = (quo (wA0 P S X K)).s.toNat := by
  show (((kin (wA P S X K) (wA P S X K) 0 : Nat) : Int)).toNat = (((kin (wA0 P S X K) (wA0 P S X K) 0 : Nat) : Int)).toNat
  rw [kin_same g h hs h40 h.pos]
theorem min_same {P S : Aut} (g : Good2 P S) {X : PS} {K : List Pr} (h : Wi P S X K) (hs : Shut2 P S X K) (h40 : K.length ≤ 40) : minA (wA P S X K) = minA (wA0 P S X K) ∧ found (S1 (quo (wA P S X K))) (quo (wA P S X K)).s.toNat ≠ none := by
  have g0 := quo_good (wA0_good g h hs h40)
  have hl0 : (quo (wA0 P S X K)).next.length = K.length := by rw [quo_len]; simp [wA0]
  have hlt : ∀ x ∈ rset (quo (wA0 P S X K)) (quo (wA0 P S X K)).s.toNat, x < K.length := fun x hx => by
    have := rset_lt g0 g0.s_lt hx
    omega
  constructor
  · exact trim_as g0 rfl (φ := id) (start_same g h hs h40).symm (fun x _ y _ e => e) (fun x hx => s1_same g h hs h40 (hlt x hx)) fun x hx => fin_same (P := P) (S := S) (X := X) (hlt x hx)
  · obtain ⟨l, hl⟩ := found1 g0 g0.s_lt
    have hw := found_whole hl
    have hr : rset (quo (wA0 P S X K)) (quo (wA0 P S X K)).s.toNat = l := by unfold rset; rw [hl]; rfl
    rw [hr] at hlt
    have h1 := expl_as (S := S1 (quo (wA0 P S X K))) (T := S1 (quo (wA P S X K))) (l := l) (φ := id) hw.closed (fun x _ y _ e => e) (fun x hx => s1_same g h hs h40 (hlt x hx)) 41 0 [(quo (wA0 P S X K)).s.toNat] hl (fun x hx => by
      simp at hx; subst hx
      exact List.mem_of_getElem? hw.hd)
    rw [start_same g h hs h40]
    have h2 : found (S1 (quo (wA P S X K))) (quo (wA0 P S X K)).s.toNat = some (l.map id) := h1
    rw [h2]
    exact fun q => by cases q
/-- What the document takes the smallest automaton of. -/
theorem within_min {P S : Aut} (g : Good2 P S) {X : PS} {K l : List Pr} (h : Wi P S X K) (hf : found (S2 P S) (start2 P S) = some l) :
    GoodB (wA P S X K) ∧ found (S1 (quo (wA P S X K))) (quo (wA P S X K)).s.toNat ≠ none ∧ ∃ d, Df.Good d ∧ d.L = P.L ∧ (∀ w, Word P.L w → accA d w = accA (wA P S X K) w) ∧ minA (wA P S X K) = minA d := by
  have h40 := wi_le h hf
  refine ⟨wA_goodB g h h40, ?_⟩
  by_cases h39 : K.length ≤ 39
  · have gd := wA_good g h h39
    have gq := quo_good gd
    obtain ⟨m, hm⟩ := found1 gq gq.s_lt
    exact ⟨by rw [hm]; exact fun q => (by cases q), _, gd, rfl, fun _ _ => rfl, rfl⟩
  · have hs := shut_40 h hf (by omega)
    obtain ⟨m1, m2⟩ := min_same g h hs h40
    refine ⟨m2, _, wA0_good g h hs h40, rfl, fun w hw => ?_, m1⟩
    obtain ⟨e1, e2⟩ := run_same h hs w h.pos hw
    show finA (wA0 P S X K) (runA (wA0 P S X K) 0 w) = finA (wA P S X K) (runA (wA P S X K) 0 w)
    rw [e1, fin_same e2]
end Go.Proofs.YtbciefeipiphiaaDoor.Su

namespace Go.Proofs.YtbciefeipiphiaaDoor.Su
open Go.Proofs.YtbciefeipiphiaaDoor.Df Go.Proofs.YtbciefeipiphiaaDoor.Wo Go.Proofs.YtbciefeipiphiaaDoor.Rc Go.Proofs.YtbciefeipiphiaaDoor.Sm Go.Proofs.YtbciefeipiphiaaDoor.Sa Go.Proofs.YtbciefeipiphiaaDoor.Me

/-- The pairs that follow and are in. -/
def SX (P S : Aut) (X : PS) (x : Pr) : List Pr := (S2 P S x).filter (inX X)
def SXc (P S : Aut) (X : PS) (x : Pr) (c : Nat) : List Pr := ((S2 P S x).take c).filter (inX X)
def numX (X : PS) (K : List Pr) (t : Pr) : Int := if inX X t = true then ((num K t : Nat) : Int) else -1
def rowX (P S : Aut) (X : PS) (l : List Pr) (x : Pr) (c : Nat) : List Int := ((S2 P S x).take c).map (numX X (addAll l (SXc P S X x c)))
def srowX (P S : Aut) (X : PS) (K : List Pr) (x : Pr) : List Int := (S2 P S x).map (numX X K)
theorem numX_in {X : PS} {K : List Pr} {t : Pr} (h : inX X t = true) : numX X K t = ((num K t : Nat) : Int) := by unfold numX; rw [if_pos h]
theorem numX_out {X : PS} {K : List Pr} {t : Pr} (h : inX X t = false) : numX X K t = -1 := by unfold numX; rw [if_neg (by rw [h]; decide)]
theorem sxc_succ_in {P S : Aut} {X : PS} {x t : Pr} {c : Nat} (h : (S2 P S x)[c]? = some t) (hi : inX X t = true) : SXc P S X x (c + 1) = SXc P S X x c ++ [t] := by
  unfold SXc; rw [take_succ' _ h, List.filter_append]; simp [hi]
theorem sxc_succ_out {P S : Aut} {X : PS} {x t : Pr} {c : Nat} (h : (S2 P S x)[c]? = some t) (hi : inX X t = false) : SXc P S X x (c + 1) = SXc P S X x c := by
  unfold SXc; rw [take_succ' _ h, List.filter_append]; simp [hi]
theorem addAll_snoc (l ts : List Pr) (t : Pr) : addAll l (ts ++ [t]) = addTo (addAll l ts) t := by unfold addAll; rw [List.foldl_append]; rfl
theorem all_in {P S : Aut} {X : PS} {l : List Pr} {x t : Pr} {c : Nat} (h : (S2 P S x)[c]? = some t) (hi : inX X t = true) : addAll l (SXc P S X x (c + 1)) = addTo (addAll l (SXc P S X x c)) t := by
  rw [sxc_succ_in h hi, addAll_snoc]
theorem all_out {P S : Aut} {X : PS} {l : List Pr} {x t : Pr} {c : Nat} (h : (S2 P S x)[c]? = some t) (hi : inX X t = false) : addAll l (SXc P S X x (c + 1)) = addAll l (SXc P S X x c) := by
  rw [sxc_succ_out h hi]
theorem mem_sxc {P S : Aut} {X : PS} {x y : Pr} {c : Nat} : y ∈ SXc P S X x c ↔ y ∈ (S2 P S x).take c ∧ inX X y = true := List.mem_filter
theorem rowX_in {P S : Aut} {X : PS} {l : List Pr} {x t : Pr} {c : Nat} (h : (S2 P S x)[c]? = some t) (hi : inX X t = true) :
    rowX P S X l x (c + 1) = rowX P S X l x c ++ [((num (addTo (addAll l (SXc P S X x c)) t) t : Nat) : Int)] := by
  unfold rowX
  rw [take_succ' _ h, List.map_append, List.map_singleton, all_in h hi, numX_in hi]
  congr 1
  refine List.map_congr_left fun y hy => ?_
  obtain ⟨m, hm⟩ := addTo_prefix (addAll l (SXc P S X x c)) t
  by_cases hy2 : inX X y = true
  · rw [numX_in hy2, numX_in hy2, hm, idx_append (mem_addAll.2 (.inr (mem_sxc.2 ⟨hy, hy2⟩)))]
  · have := Bool.eq_false_iff.2 hy2
    rw [numX_out this, numX_out this]
theorem rowX_out {P S : Aut} {X : PS} {l : List Pr} {x t : Pr} {c : Nat} (h : (S2 P S x)[c]? = some t) (hi : inX X t = false) : rowX P S X l x (c + 1) = rowX P S X l x c ++ [-1] := by
  unfold rowX
  rw [take_succ' _ h, List.map_append, List.map_singleton, all_out h hi, numX_out hi]
theorem sxc_full {P S : Aut} {X : PS} {x : Pr} {c : Nat} (h : (S2 P S x).length = c) : SXc P S X x c = SX P S X x := by
  unfold SXc SX; rw [List.take_of_length_le (by omega)]
theorem rowX_full {P S : Aut} {X : PS} {l : List Pr} {x : Pr} {c : Nat} (h : (S2 P S x).length = c) : rowX P S X l x c = srowX P S X (addAll l (SX P S X x)) x := by
  unfold rowX srowX; rw [sxc_full h, List.take_of_length_le (by omega)]
theorem rowX_len (P S : Aut) (X : PS) (l : List Pr) (x : Pr) (c : Nat) : (rowX P S X l x c).length ≤ c := by unfold rowX; rw [List.length_map, List.length_take]; omega
theorem sxc_len (P S : Aut) (X : PS) (x : Pr) (c : Nat) : (SXc P S X x c).length ≤ c := by
  have := List.length_filter_le (inX X) ((S2 P S x).take c)
  rw [List.length_take] at this
  unfold SXc; omega
theorem rowsX_next {P S : Aut} {X : PS} {a : Pr} {i : Nat} {l : List Pr} (h : Part (SX P S X) a i l) {x : Pr} (hx : l[i]? = some x) :
    ((addAll l (SX P S X x)).take (i + 1)).map (srowX P S X (addAll l (SX P S X x))) = (l.take i).map (srowX P S X l) ++ [srowX P S X (addAll l (SX P S X x)) x] := by
  obtain ⟨hi, he⟩ := List.getElem?_eq_some_iff.1 hx
  obtain ⟨m, hm⟩ := addAll_prefix l (SX P S X x)
  have e1 : (addAll l (SX P S X x)).take (i + 1) = l.take i ++ [x] := by
    rw [hm, List.take_append_of_le_length (by omega), ← List.take_append_getElem hi, he]
  rw [e1, List.map_append, List.map_singleton]
  congr 1
  refine List.map_congr_left fun y hy => ?_
  rw [hm]
  obtain ⟨k, hk, rfl⟩ := List.getElem_of_mem hy
  rw [List.length_take] at hk
  refine List.map_congr_left fun t ht => ?_
  by_cases hy2 : inX X t = true
  · rw [numX_in hy2, numX_in hy2, idx_append]
    refine h.closed k (by omega) _ ?_ t (List.mem_filter.2 ⟨ht, hy2⟩)
    rw [List.getElem_take]; exact List.getElem?_eq_getElem (by omega)
  · have := Bool.eq_false_iff.2 hy2
    rw [numX_out this, numX_out this]
theorem rch_sx {P S : Aut} {X : PS} {x : Pr} (h : Rch (SX P S X) (start2 P S) x) : Rch (S2 P S) (start2 P S) x := by
  induction h with
  | base => exact .base
  | next _ ht ih => exact .next ih (List.mem_filter.1 ht).1
theorem rch_in {P S : Aut} {X : PS} (h0 : inX X (start2 P S) = true) {x : Pr} (h : Rch (SX P S X) (start2 P S) x) : inX X x = true := by
  cases h with
  | base => exact h0
  | next _ ht => exact (List.mem_filter.1 ht).2
/-- There are never more than 40 of them. -/
theorem sx_few {P S : Aut} {X : PS} {l0 l : List Pr} (hf : found (S2 P S) (start2 P S) = some l0) (hn : l.Nodup) (hr : ∀ x ∈ l, Rch (SX P S X) (start2 P S) x) : l.length ≤ 40 := by
  have hl : ∀ y ∈ l, y ∈ l0 := fun y hy => (found_whole hf).mem_iff.2 (rch_sx (hr y hy))
  have h1 := nodup_le_of (l := l) (n := l0.length) hn (num l0) (fun a ha b hb e => by
    have h1 := (num_at (hl a ha)).2
    rw [e, (num_at (hl b hb)).2] at h1
    exact (Option.some.inj h1).symm) (fun a ha => (num_at (hl a ha)).1)
  have h2 := (found_whole hf).n40
  omega
theorem sx_step {P S : Aut} {X : PS} {l0 l : List Pr} {i : Nat} {x : Pr} (hf : found (S2 P S) (start2 P S) = some l0) (h : Part (SX P S X) (start2 P S) i l) (hx : l[i]? = some x) : Part (SX P S X) (start2 P S) (i + 1) (addAll l (SX P S X x)) := by
  refine (h.step hx).2 fun h40 => ?_
  have hn := (h.step hx).1 h40
  rcases found_cases (SX P S X) (start2 P S) with ⟨m, hm, _⟩ | ⟨_, m, h1, h2, h3⟩
  · rw [hn] at hm; cases hm
  · have := sx_few hf h1 h3
    omega
theorem sx_wi {P S : Aut} (g : Good2 P S) {X : PS} {K : List Pr} (h0 : inX X (start2 P S) = true) (h : Whole (SX P S X) (start2 P S) K) : Wi P S X K :=
  ⟨h.hd, h.nd, fun x hx => ⟨(rch_lt g (rch_sx (h.rch x hx))).1, (rch_lt g (rch_sx (h.rch x hx))).2, rch_in h0 (h.rch x hx)⟩,
    fun x hx _ hc hi => h.closed x hx _ (List.mem_filter.2 ⟨List.mem_of_getElem? (S2_get P S x hc), hi⟩), fun x hx => rch_sx (h.rch x hx)⟩
/-- The numbers below zero become n, as far as place j. -/
def fxI (n : Nat) (z : Int) : Int := if z < 0 then (n : Int) else z
def fixR (n : Nat) (r : List Int) (j : Nat) : List Int := (r.take j).map (fxI n) ++ r.drop j
theorem fixR_len (n : Nat) (r : List Int) (j : Nat) : (fixR n r j).length = r.length := by unfold fixR; simp; omega
theorem fixR_zero (n : Nat) (r : List Int) : fixR n r 0 = r := by simp [fixR]
theorem fixR_all (n : Nat) (r : List Int) {j : Nat} (h : r.length ≤ j) : fixR n r j = r.map (fxI n) := by unfold fixR; rw [List.take_of_length_le h, List.drop_of_length_le h, List.append_nil]
theorem fixR_get {n : Nat} {r : List Int} {j : Nat} {z : Int} (h : r[j]? = some z) : (fixR n r j)[j]? = some z := by
  have hl := (List.getElem?_eq_some_iff.1 h).1
  unfold fixR
  rw [List.getElem?_append_right (by rw [List.length_map, List.length_take]; omega), List.getElem?_drop]
  have : j + (j - ((r.take j).map (fxI n)).length) = j := by rw [List.length_map, List.length_take]; omega
  rw [this, h]
theorem fixR_next {n : Nat} {r : List Int} {j : Nat} {z : Int} (h : r[j]? = some z) : fixR n r (j + 1) = (fixR n r j).set j (fxI n z) := by
  obtain ⟨hl, he⟩ := List.getElem?_eq_some_iff.1 h
  unfold fixR
  rw [take_succ' _ h, List.map_append, List.drop_eq_getElem_cons hl, he, List.set_append_right _ _ (by rw [List.length_map, List.length_take]; omega)]
  have : j - ((r.take j).map (fxI n)).length = 0 := by rw [List.length_map, List.length_take]; omega
  rw [this, List.set_cons_zero, List.append_assoc]
  rfl
theorem fixR_stay {n : Nat} {r : List Int} {j : Nat} {z : Int} (h : r[j]? = some z) (hz : ¬ z < 0) : fixR n r (j + 1) = fixR n r j := by
  rw [fixR_next h]
  have e : fxI n z = z := by unfold fxI; rw [if_neg hz]
  rw [e]
  obtain ⟨h1, h2⟩ := List.getElem?_eq_some_iff.1 (fixR_get (n := n) h)
  conv => rhs; rw [← List.set_getElem_self h1]
  rw [h2]
/-- The rows ahead of row i are through, row i as far as place j. -/
def fixT (n : Nat) (rows : List (List Int)) (i j : Nat) : List (List Int) := rows.mapIdx fun k r => if k < i then r.map (fxI n) else if k = i then fixR n r j else r
theorem fixT_len (n : Nat) (rows : List (List Int)) (i j : Nat) : (fixT n rows i j).length = rows.length := by simp [fixT]
theorem fixT_zero (n : Nat) (rows : List (List Int)) : fixT n rows 0 0 = rows := by
  refine List.ext_getElem? fun k => ?_
  unfold fixT
  rw [List.getElem?_mapIdx]
  rcases e : rows[k]? with _ | r
  · rfl
  · show some _ = some r
    congr 1
    dsimp only
    rw [if_neg (by omega)]
    split
    · exact fixR_zero _ _
    · rfl
theorem fixT_get {n : Nat} {rows : List (List Int)} {i j : Nat} {r : List Int} (h : rows[i]? = some r) : (fixT n rows i j)[i]? = some (fixR n r j) := by
  unfold fixT
  rw [List.getElem?_mapIdx, h]
  show some _ = some _
  dsimp only
  rw [if_neg (by omega), if_pos rfl]
theorem fixT_set {n : Nat} {rows : List (List Int)} {i j : Nat} {r : List Int} (h : rows[i]? = some r) {j' : Nat} : (fixT n rows i j).set i (fixR n r j') = fixT n rows i j' := by
  refine List.ext_getElem? fun k => ?_
  rw [List.getElem?_set]
  by_cases e : i = k
  · subst e
    rw [if_pos rfl, if_pos (by rw [fixT_len]; exact (List.getElem?_eq_some_iff.1 h).1), fixT_get h]
  · rw [if_neg e]
    unfold fixT
    rw [List.getElem?_mapIdx, List.getElem?_mapIdx]
    rcases rows[k]? with _ | r2
    · rfl
    · show some _ = some _
      dsimp only
      rw [if_neg (show ¬ k = i by omega), if_neg (show ¬ k = i by omega)]
theorem fixT_row {n : Nat} {rows : List (List Int)} {i j : Nat} {r : List Int} (h : rows[i]? = some r) (hj : r.length ≤ j) : fixT n rows i j = fixT n rows (i + 1) 0 := by
  refine List.ext_getElem? fun k => ?_
  unfold fixT
  rw [List.getElem?_mapIdx, List.getElem?_mapIdx]
  rcases e : rows[k]? with _ | r2
  · rfl
  · show some _ = some _
    congr 1
    dsimp only
    by_cases e1 : k < i
    · rw [if_pos e1, if_pos (by omega)]
    · rw [if_neg e1]
      by_cases e2 : k = i
      · subst e2
        rw [h] at e; cases e
        rw [if_pos rfl, if_pos (by omega), fixR_all _ _ hj]
      · rw [if_neg e2, if_neg (by omega)]
        split
        · exact (fixR_zero _ _).symm
        · rfl
theorem fixT_end (n : Nat) (rows : List (List Int)) {i : Nat} (hi : rows.length ≤ i) : fixT n rows i 0 = rows.map fun r => r.map (fxI n) := by
  refine List.ext_getElem? fun k => ?_
  unfold fixT
  rw [List.getElem?_mapIdx, List.getElem?_map]
  rcases e : rows[k]? with _ | r2
  · rfl
  · show some _ = some _
    dsimp only
    rw [if_pos (by have := (List.getElem?_eq_some_iff.1 e).1; omega)]
theorem fix_row (P S : Aut) (X : PS) (K : List Pr) (x : Pr) : (srowX P S X K x).map (fxI K.length) = wRowW P S X K x := by
  unfold srowX wRowW S2
  rw [List.map_map, List.map_map]
  refine List.map_congr_left fun c _ => ?_
  show fxI K.length (numX X K (nextP P S x c)) = nxW P S X K x c
  unfold nxW
  split
  · rename_i h
    rw [numX_in h]; unfold fxI; rw [if_neg (by omega)]
  · rename_i h
    rw [numX_out (Bool.eq_false_iff.2 h)]; rfl
theorem fix_all (P S : Aut) (X : PS) (K : List Pr) : (K.map (srowX P S X K) ++ [List.replicate P.L.toNat (-1)]).map (fun (r : List Int) => r.map (fxI K.length)) = (wA P S X K).next := by
  show _ = K.map (wRowW P S X K) ++ [List.replicate P.L.toNat ((K.length : Nat) : Int)]
  rw [List.map_append, List.map_map, List.map_singleton, List.map_replicate]
  congr 1
  exact List.map_congr_left fun x _ => fix_row P S X K x
end Go.Proofs.YtbciefeipiphiaaDoor.Su
