/- Good arenas in a variable, place by place; what the laws of duels reckon. -/
import Derived.Test.YtkphdegelhlpeaaDuelL
namespace Go.Proofs.Ytkphdegelhlpeaa.Du
open Go.RowKit Go.IntWalk Go.Proofs.Ytkphdegelhlpeaa.Wd Go.Proofs.Ytkphdegelhlpeaa.Wo Go.Proofs.Ytkphdegelhlpeaa.Df Go.Proofs.Ytkphdegelhlpeaa.Rc

/-- A good arena that lies in a variable at block gb. -/
structure ArG (u : World) (gb : Nat) (ao : Addr) (co : Nat) (aa : Addr) (c : Nat) (af : Addr) (cf : Nat) (a : Ar) (n : Nat) : Prop where
  len : a.next.length = n
  good : Good a
  box : BoxA u gb (some ao) n co (some aa) n c (some af) n cf
  is : ArIs u u.heap.size (some ao) co (some aa) c (some af) cf a
theorem ArG.on {u u' : World} {gb : Nat} {ao aa af : Addr} {co c cf n : Nat} {a : Ar} (h : ArG u gb ao co aa c af cf a n) (hb : Below u.heap.size u u') : ArG u' gb ao co aa c af cf a n := ⟨h.len, h.good, h.box.on hb, h.is.on hb⟩
theorem ArG.at_ {u : World} {gb : Nat} {ao aa af : Addr} {co c cf n : Nat} {a : Ar} (h : ArG u gb ao co aa c af cf a n) : ArAt u u.heap.size (.agg #[.slice (some ao) n co, .slice (some aa) n c, .slice (some af) n cf]) a :=
  ⟨some ao, co, some aa, c, some af, cf, by rw [h.good.own, h.good.goal, h.len], h.is⟩
theorem arG_new (w : World) {v : Value} {a : Ar} (h : ArAt w w.heap.size v a) (gd : Good a) :
    ∃ ao co aa c af cf n u, v = .agg #[.slice (some ao) n co, .slice (some aa) n c, .slice (some af) n cf] ∧ u = w.alloc (.cells #[.slice (some ao) n co, .slice (some aa) n c, .slice (some af) n cf] 26) ∧ Below w.heap.size w u ∧ 1 ≤ n ∧ n ≤ 40 ∧ ArG u w.heap.size ao co aa c af cf a n := by
  obtain ⟨O, co, A, c, F, cf, rfl, h⟩ := h
  have h1 := gd.n1
  obtain ⟨ao, rfl, _⟩ := h.owns.at_ 0 (by rw [gd.own]; omega)
  obtain ⟨aa, _, _, rfl, _⟩ := h.rows 0 _ (List.getElem?_eq_getElem (by omega))
  obtain ⟨af, rfl, _⟩ := h.goals.at_ (List.getElem?_eq_getElem (show 0 < a.goal.length by rw [gd.goal]; omega))
  obtain ⟨u, hu, hb, hx, hi⟩ := box_ar w h
  rw [gd.own, gd.goal] at hu hx
  refine ⟨ao, co, aa, c, af, cf, a.next.length, u, by rw [gd.own, gd.goal], hu, hb, gd.n1, gd.n40, rfl, gd, hx, hi⟩
theorem ArG.own_at {u : World} {gb : Nat} {ao aa af : Addr} {co c cf n : Nat} {a : Ar} (h : ArG u gb ao co aa c af cf a n) {p : Nat} (hp : p < n) : u.cell? (ao.add p) = some (.int .i64 (ownA a p)) := by
  have hl : p < a.own.length := by rw [h.good.own, h.len]; exact hp
  obtain ⟨ad, e, _, hc, _⟩ := h.is.owns.at_ p hl
  obtain rfl := Option.some.inj e
  rw [show ownA a p = a.own[p] from by unfold ownA; rw [List.getElem?_eq_getElem hl]; rfl]
  exact hc
theorem ArG.goal_at {u : World} {gb : Nat} {ao aa af : Addr} {co c cf n : Nat} {a : Ar} (h : ArG u gb ao co aa c af cf a n) {p : Nat} (hp : p < n) : u.cell? (af.add p) = some (.bool (goalA a p)) := by
  have hl : p < a.goal.length := by rw [h.good.goal, h.len]; exact hp
  obtain ⟨ad, e, _, hc, _⟩ := h.is.goals.at_ (k := p) (b := goalA a p) (by unfold goalA; rw [List.getElem?_eq_getElem hl]; rfl)
  obtain rfl := Option.some.inj e
  exact hc
theorem ArG.row_at {u : World} {gb : Nat} {ao aa af : Addr} {co c cf n : Nat} {a : Ar} (h : ArG u gb ao co aa c af cf a n) {p : Nat} (hp : p < n) : ∃ R cr, u.cell? (aa.add p) = some (.slice (some R) (rowA a p).length cr) ∧ IntsAt u u.heap.size (some R) (rowA a p) ∧ 1 ≤ (rowA a p).length ∧ (rowA a p).length ≤ 40 ∧ ∀ x ∈ rowA a p, 0 ≤ x ∧ x < (n : Int) := by
  have hl : p < a.next.length := by rw [h.len]; exact hp
  have hf := h.good.fit p hl
  have hr : a.next[p]? = some (rowA a p) := by unfold rowA; rw [List.getElem?_eq_getElem hl]; rfl
  obtain ⟨ad, A', c', e, _, hc, _, _, hz⟩ := h.is.rows p _ hr
  obtain rfl := Option.some.inj e
  obtain ⟨R, rfl, _⟩ := hz.at_ 0 hf.r1
  exact ⟨R, c', hc, hz, hf.r1, hf.r40, fun x hx => by rw [← h.len]; exact hf.go x hx⟩
/-- A cell of a row. -/
theorem ints_cell {u : World} {R : Addr} {l : List Int} (h : IntsAt u u.heap.size (some R) l) {k : Nat} {x : Int} (hk : l[k]? = some x) : u.cell? (R.add k) = some (.int .i64 x) := by
  obtain ⟨ad, e, _, hc, _⟩ := h.get hk
  obtain rfl := Option.some.inj e
  exact hc
theorem rw_cell {u : World} {g : Nat} {l : List Int} (h : IntsAt u u.heap.size (some ⟨g, 0, none⟩) l) {k : Nat} {x : Int} (hk : l[k]? = some x) : u.cell? ⟨g, k, none⟩ = some (.int .i64 x) := by
  have h1 := ints_cell h hk
  have e : (⟨g, 0, none⟩ : Addr).add k = ⟨g, k, none⟩ := by
    by_cases e : k = 0
    · subst e; rfl
    · simp [Addr.add, e]
  rwa [e] at h1
/-- A place behind: its number. -/
theorem row_get {r : List Int} {n j : Nat} (h : ∀ x ∈ r, 0 ≤ x ∧ x < (n : Int)) (hj : j < r.length) : ∃ q : Nat, q < n ∧ r[j]? = some (q : Int) := by
  obtain ⟨h1, h2⟩ := h _ (List.getElem_mem hj)
  obtain ⟨q, hq⟩ := Int.eq_ofNat_of_zero_le h1
  exact ⟨q, by omega, by rw [List.getElem?_eq_getElem hj, hq]⟩
theorem row_succ {a : Ar} {p q j : Nat} (h : (rowA a p)[j]? = some (q : Int)) : q ∈ succs a p := by
  unfold succs
  exact List.mem_map.2 ⟨(q : Int), List.mem_of_getElem? h, by simp⟩
theorem succ_row {a : Ar} (g : Good a) {p q : Nat} (hp : p < a.next.length) (h : q ∈ succs a p) : ∃ j, j < (rowA a p).length ∧ (rowA a p)[j]? = some (q : Int) := by
  obtain ⟨j, hj, e⟩ := List.getElem_of_mem ((mem_succs g hp).1 h)
  exact ⟨j, hj, by rw [List.getElem?_eq_getElem hj, e]⟩

/-! ### Bellman's equations, as the law reckons them -/
/-- The least, the greatest, and whether all are there, of the first ones. -/
structure Inv (L : List Int) (l m : Int) (b : Bool) : Prop where
  lo : (l = -1 ∧ ∀ r ∈ L, r < 0) ∨ (l ∈ L ∧ 0 ≤ l ∧ ∀ r ∈ L, 0 ≤ r → l ≤ r)
  hi : (m = -1 ∧ ∀ r ∈ L, r < 0) ∨ (m ∈ L ∧ 0 ≤ m ∧ ∀ r ∈ L, r ≤ m)
  al : b = true ↔ ∀ r ∈ L, 0 ≤ r
theorem inv_nil : Inv [] (-1) (-1) true := ⟨.inl ⟨rfl, by simp⟩, .inl ⟨rfl, by simp⟩, by simp⟩
theorem mem_snoc {L : List Int} {r x : Int} : x ∈ L ++ [r] ↔ x ∈ L ∨ x = r := by simp
theorem inv_neg {L : List Int} {l m r : Int} {b : Bool} (h : Inv L l m b) (hr : r < 0) : Inv (L ++ [r]) l m false := by
  refine ⟨?_, ?_, ?_⟩
  · rcases h.lo with ⟨h1, h2⟩ | ⟨h1, h2, h3⟩
    · exact .inl ⟨h1, fun x hx => by rcases mem_snoc.1 hx with hx | rfl; exact h2 x hx; exact hr⟩
    · exact .inr ⟨mem_snoc.2 (.inl h1), h2, fun x hx h0 => by rcases mem_snoc.1 hx with hx | rfl; exact h3 x hx h0; omega⟩
  · rcases h.hi with ⟨h1, h2⟩ | ⟨h1, h2, h3⟩
    · exact .inl ⟨h1, fun x hx => by rcases mem_snoc.1 hx with hx | rfl; exact h2 x hx; exact hr⟩
    · exact .inr ⟨mem_snoc.2 (.inl h1), h2, fun x hx => by rcases mem_snoc.1 hx with hx | rfl; exact h3 x hx; omega⟩
  · constructor
    · intro q; cases q
    · intro q
      have := q r (mem_snoc.2 (.inr rfl))
      omega
theorem inv_pos {L : List Int} {l m r : Int} {b : Bool} (h : Inv L l m b) (hr : 0 ≤ r) {l' m' : Int} (hl : (l' = r ∧ (l < 0 ∨ r < l)) ∨ (l' = l ∧ ¬ l < 0 ∧ ¬ r < l)) (hm : (m' = r ∧ r > m) ∨ (m' = m ∧ ¬ r > m)) : Inv (L ++ [r]) l' m' b := by
  refine ⟨.inr ?_, .inr ?_, ?_⟩
  · rcases hl with ⟨rfl, hl⟩ | ⟨rfl, hl1, hl2⟩
    · refine ⟨mem_snoc.2 (.inr rfl), hr, fun x hx h0 => ?_⟩
      rcases mem_snoc.1 hx with hx | rfl
      · rcases h.lo with ⟨h1, h2⟩ | ⟨h1, h2, h3⟩
        · have := h2 x hx; omega
        · have := h3 x hx h0; omega
      · exact Int.le_refl _
    · rcases h.lo with ⟨h1, h2⟩ | ⟨h1, h2, h3⟩
      · omega
      · exact ⟨mem_snoc.2 (.inl h1), h2, fun x hx h0 => by rcases mem_snoc.1 hx with hx | rfl; exact h3 x hx h0; omega⟩
  · rcases hm with ⟨rfl, hm⟩ | ⟨rfl, hm⟩
    · refine ⟨mem_snoc.2 (.inr rfl), hr, fun x hx => ?_⟩
      rcases mem_snoc.1 hx with hx | rfl
      · rcases h.hi with ⟨h1, h2⟩ | ⟨h1, h2, h3⟩
        · have := h2 x hx; omega
        · have := h3 x hx; omega
      · exact Int.le_refl _
    · rcases h.hi with ⟨h1, h2⟩ | ⟨h1, h2, h3⟩
      · omega
      · exact ⟨mem_snoc.2 (.inl h1), h2, fun x hx => by rcases mem_snoc.1 hx with hx | rfl; exact h3 x hx; omega⟩
  · rw [h.al]
    constructor
    · intro q x hx
      rcases mem_snoc.1 hx with hx | rfl
      · exact q x hx
      · exact hr
    · exact fun q x hx => q x (mem_snoc.2 (.inl hx))
/-- The ranks of the first places behind. -/
def rksTo (a : Ar) (p j : Nat) : List Int := ((succs a p).take j).map (rank a)
theorem rksTo_next {a : Ar} {p j q : Nat} (h : (rowA a p)[j]? = some (q : Int)) : rksTo a p (j + 1) = rksTo a p j ++ [rank a q] := by
  unfold rksTo
  have : (succs a p)[j]? = some q := by unfold succs; rw [List.getElem?_map, h]; simp
  rw [List.take_add_one, this, List.map_append]; rfl
theorem rksTo_all {a : Ar} {p j : Nat} (h : (rowA a p).length ≤ j) : rksTo a p j = (succs a p).map (rank a) := by
  unfold rksTo
  rw [List.take_of_length_le (by unfold succs; rw [List.length_map]; exact h)]
theorem inv_want {a : Ar} (g : Good a) {p : Nat} (hp : p < a.next.length) {l m : Int} {b : Bool} (h : Inv ((succs a p).map (rank a)) l m b) (hg : goalA a p = false) :
    (ownA a p = 0 → 0 ≤ l → rank a p = l + 1) ∧ (ownA a p = 0 → l < 0 → rank a p = -1) ∧ (ownA a p = 1 → b = true → rank a p = m + 1) ∧ (ownA a p = 1 → b = false → rank a p = -1) := by
  have hm : ∀ q, q ∈ succs a p → rank a q ∈ (succs a p).map (rank a) := fun q hq => List.mem_map.2 ⟨q, hq, rfl⟩
  refine ⟨fun ho hl => ?_, fun ho hl => ?_, fun ho hb => ?_, fun ho hb => ?_⟩
  · rcases h.lo with ⟨h1, h2⟩ | ⟨h1, h2, h3⟩
    · omega
    · obtain ⟨q, hq, rfl⟩ := List.mem_map.1 h1
      exact rank_own0 g hp hg ho hq h2 fun r hr h0 => h3 _ (hm r hr) h0
  · rcases h.lo with ⟨h1, h2⟩ | ⟨h1, h2, h3⟩
    · exact rank_own0_no g hp hg ho fun q hq => h2 _ (hm q hq)
    · omega
  · have hall := h.al.1 hb
    rcases h.hi with ⟨h1, h2⟩ | ⟨h1, h2, h3⟩
    · obtain ⟨q, hq⟩ := succ_some g hp
      have k1 := hall _ (hm q hq)
      have k2 := h2 _ (hm q hq)
      omega
    · obtain ⟨q, hq, rfl⟩ := List.mem_map.1 h1
      exact rank_own1 g hp hg ho hq fun r hr => ⟨hall _ (hm r hr), h3 _ (hm r hr)⟩
  · have hn : ¬ ∀ r ∈ (succs a p).map (rank a), 0 ≤ r := fun q => by
      rw [h.al.2 q] at hb; cases hb
    obtain ⟨r, hr⟩ := Classical.not_forall.1 hn
    obtain ⟨hr1, hr2⟩ := Classical.not_imp.1 hr
    obtain ⟨q, hq, rfl⟩ := List.mem_map.1 hr1
    exact rank_own1_no g hp hg ho hq (by omega)
theorem inv_bounds {a : Ar} (g : Good a) {p j : Nat} (hp : p < a.next.length) {l m : Int} {b : Bool} (h : Inv (rksTo a p j) l m b) : -1 ≤ l ∧ l ≤ 40 ∧ -1 ≤ m ∧ m ≤ 40 := by
  have hm : ∀ x ∈ rksTo a p j, x ≤ 40 := fun x hx => by
    obtain ⟨q, hq, rfl⟩ := List.mem_map.1 hx
    have := rank_lt g (succ_lt g hp (List.mem_of_mem_take hq))
    have := g.n40
    omega
  refine ⟨?_, ?_, ?_, ?_⟩
  · rcases h.lo with ⟨h1, h2⟩ | ⟨h1, h2, h3⟩ <;> omega
  · rcases h.lo with ⟨h1, h2⟩ | ⟨h1, h2, h3⟩
    · omega
    · exact hm _ h1
  · rcases h.hi with ⟨h1, h2⟩ | ⟨h1, h2, h3⟩ <;> omega
  · rcases h.hi with ⟨h1, h2⟩ | ⟨h1, h2, h3⟩
    · omega
    · exact hm _ h1
end Go.Proofs.Ytkphdegelhlpeaa.Du
