/- Plain mathematics of nfa: mirrors; automata seen so; Brzozowski. -/
import Derived.Test.YtinehjfanabegaaDoorNfaM
namespace Go.Proofs.YtinehjfanabegaaDoor.Nf
open Go.Proofs.YtinehjfanabegaaDoor.Df Go.Proofs.YtinehjfanabegaaDoor.Wo Go.Proofs.YtinehjfanabegaaDoor.Rc Go.Proofs.YtinehjfanabegaaDoor.Sm

/-! ### mirrors -/
def turn (m : Int × Int × Int) : Int × Int × Int := (m.2.2, m.2.1, m.1)
def mir (a : Nfa) : Nfa := ⟨a.L, a.n, a.fin, a.mv.map turn, a.st⟩
theorem mir_mir (a : Nfa) : mir (mir a) = a := by
  unfold mir
  simp only [List.map_map]
  have : a.mv.map (turn ∘ turn) = a.mv := by
    conv => rhs; rw [← List.map_id a.mv]
    rfl
  rw [this]
theorem mem_mir {a : Nfa} {x c y : Int} : (x, c, y) ∈ (mir a).mv ↔ (y, c, x) ∈ a.mv := by
  show (x, c, y) ∈ a.mv.map turn ↔ _
  rw [List.mem_map]
  constructor
  · rintro ⟨⟨p, q, r⟩, hm, e⟩
    have e : (r, q, p) = (x, c, y) := e
    obtain ⟨rfl, e2⟩ := Prod.mk.inj e
    obtain ⟨rfl, rfl⟩ := Prod.mk.inj e2
    exact hm
  · intro h; exact ⟨_, h, rfl⟩
theorem mir_good {a : Nfa} (g : Good a) : Good (mir a) := by
  refine ⟨g.l1, g.l6, g.n1, g.n40, g.f40, g.s40, by show (a.mv.map turn).length ≤ 240; rw [List.length_map]; exact g.m240, g.fin, g.st, fun m hm => ?_⟩
  obtain ⟨m', hm', rfl⟩ := List.mem_map.1 hm
  obtain ⟨h1, h2, h3, h4⟩ := g.mv m' hm'
  exact ⟨h2, h1, h3, h4⟩
theorem way_mir1 {a : Nfa} {s t : Nat} {w : List Int} (h : Way a s w t) : Way (mir a) t w.reverse s := by
  induction h with
  | nil => exact .nil
  | eps _ h2 ih => exact Way.eps_head (mem_mir.2 h2) ih
  | one _ h2 h3 ih =>
    rw [List.reverse_append]
    exact Way.one_head (mem_mir.2 h2) h3 ih
theorem way_mir {a : Nfa} {s t : Nat} {w : List Int} : Way (mir a) t w.reverse s ↔ Way a s w t := by
  constructor
  · intro h
    have := way_mir1 h
    rwa [mir_mir, List.reverse_reverse] at this
  · exact way_mir1
theorem mir_acc {a : Nfa} (g : Good a) {w : List Int} (hw : ∀ c ∈ w, 0 ≤ c) : accN (mir a) w.reverse = accN a w := by
  refine Bool.eq_iff_iff.2 ?_
  rw [accN_iff (mir_good g) fun c hc => hw c (List.mem_reverse.1 hc), accN_iff g hw]
  constructor
  · rintro ⟨s, t, hs, h, ht⟩
    exact ⟨t, s, ht, way_mir.1 h, hs⟩
  · rintro ⟨s, t, hs, h, ht⟩
    exact ⟨t, s, ht, way_mir.2 h, hs⟩

/-! ### a deterministic one -/
def ofA (d : Aut) : Nfa := ⟨d.L, (d.next.length : Int), [d.s], (List.range d.next.length).flatMap fun (q : Nat) => (List.range d.L.toNat).map fun (c : Nat) => ((q : Int), (c : Int), ((step d q c : Nat) : Int)),
  ((List.range d.next.length).filter (finA d)).map fun (q : Nat) => (q : Int)⟩
theorem mem_of {d : Aut} {x c y : Int} : (x, c, y) ∈ (ofA d).mv ↔ ∃ q k : Nat, q < d.next.length ∧ (k : Int) < d.L ∧ x = q ∧ c = k ∧ y = (step d q k : Nat) := by
  show (x, c, y) ∈ (List.range d.next.length).flatMap _ ↔ _
  rw [List.mem_flatMap]
  constructor
  · rintro ⟨q, hq, h⟩
    obtain ⟨k, hk, e⟩ := List.mem_map.1 h
    obtain ⟨rfl, e2⟩ := Prod.mk.inj e
    obtain ⟨rfl, rfl⟩ := Prod.mk.inj e2
    have := List.mem_range.1 hk
    exact ⟨q, k, List.mem_range.1 hq, by omega, rfl, rfl, rfl⟩
  · rintro ⟨q, k, hq, hk, rfl, rfl, rfl⟩
    exact ⟨q, List.mem_range.2 hq, List.mem_map.2 ⟨k, List.mem_range.2 (by omega), rfl⟩⟩
theorem of_moves (d : Aut) : (ofA d).mv.length = d.next.length * d.L.toNat := by
  show ((List.range d.next.length).flatMap _).length = _
  generalize d.next.length = n
  induction n with
  | zero => simp
  | succ n ih =>
    rw [List.range_succ, List.flatMap_append, List.length_append, ih, Nat.succ_mul]
    simp
theorem mem_fin {d : Aut} {t : Nat} : (t : Int) ∈ (ofA d).fin ↔ t < d.next.length ∧ finA d t = true := by
  show (t : Int) ∈ ((List.range d.next.length).filter (finA d)).map _ ↔ _
  rw [List.mem_map]
  constructor
  · rintro ⟨q, hq, e⟩
    obtain rfl : q = t := by omega
    obtain ⟨h1, h2⟩ := List.mem_filter.1 hq
    exact ⟨List.mem_range.1 h1, h2⟩
  · rintro ⟨h1, h2⟩
    exact ⟨t, List.mem_filter.2 ⟨List.mem_range.2 h1, h2⟩, rfl⟩
theorem of_good {d : Aut} (g : Df.Good d) : Good (ofA d) := by
  have h1 := g.n1; have h2 := g.n40; have h3 := g.l6; have h4 := g.l1
  refine ⟨g.l1, g.l6, ?_, ?_, ?_, ?_, ?_, ?_, ?_, ?_⟩
  · show (1 : Int) ≤ (d.next.length : Int); omega
  · show (d.next.length : Int) ≤ 40; omega
  · show [d.s].length ≤ 40; simp
  · show (((List.range d.next.length).filter (finA d)).map fun (q : Nat) => (q : Int)).length ≤ 40
    have := List.length_filter_le (finA d) (List.range d.next.length)
    rw [List.length_range] at this
    rw [List.length_map]; omega
  · rw [of_moves]
    have : d.next.length * d.L.toNat ≤ 40 * 6 := Nat.mul_le_mul h2 (by omega)
    omega
  · intro x hx
    have : x = d.s := by simpa [ofA] using hx
    rw [this]; exact g.st
  · intro x hx
    obtain ⟨q, hq, rfl⟩ := List.mem_map.1 hx
    have := List.mem_range.1 (List.mem_filter.1 hq).1
    exact ⟨by omega, by show (q : Int) < (d.next.length : Int); omega⟩
  · rintro ⟨x, c, y⟩ hm
    obtain ⟨q, k, hq, hk, rfl, rfl, rfl⟩ := mem_of.1 hm
    have := g.step_lt hq hk
    refine ⟨⟨?_, ?_⟩, ⟨?_, ?_⟩, ?_, ?_⟩
    · show (0 : Int) ≤ (q : Int); omega
    · show (q : Int) < (d.next.length : Int); omega
    · show (0 : Int) ≤ ((step d q k : Nat) : Int); omega
    · show ((step d q k : Nat) : Int) < (d.next.length : Int); omega
    · show (-1 : Int) ≤ (k : Int); omega
    · exact hk
theorem of_way1 {d : Aut} {s t : Nat} {w : List Int} (h : Way (ofA d) s w t) : Word d.L w ∧ t = runA d s w := by
  induction h with
  | nil => exact ⟨by intro a ha; simp at ha, rfl⟩
  | eps _ h2 _ =>
    obtain ⟨q, k, _, _, _, e, _⟩ := mem_of.1 h2
    omega
  | one _ h2 _ ih =>
    obtain ⟨q, k, hq, hk, e1, rfl, e3⟩ := mem_of.1 h2
    obtain ⟨i1, i2⟩ := ih
    refine ⟨fun a ha => ?_, ?_⟩
    · rcases List.mem_append.1 ha with ha | ha
      · exact i1 a ha
      · simp at ha; subst ha; exact ⟨by omega, hk⟩
    · rw [runA_append, ← i2]
      show _ = step d _ ((k : Int)).toNat
      have e4 : ((k : Int)).toNat = k := by simp
      rw [e4]
      rename_i t' u' _ _
      have : q = t' := by omega
      subst this
      omega
theorem of_way {d : Aut} (g : Df.Good d) {s t : Nat} (hs : s < d.next.length) {w : List Int} : Way (ofA d) s w t ↔ Word d.L w ∧ t = runA d s w := by
  refine ⟨of_way1, ?_⟩
  rintro ⟨hw, rfl⟩
  induction w generalizing s with
  | nil => exact .nil
  | cons c w ih =>
    have hc := hw c List.mem_cons_self
    have hcc : ((c.toNat : Nat) : Int) = c := Int.toNat_of_nonneg hc.1
    have hk : ((c.toNat : Nat) : Int) < d.L := by rw [hcc]; exact hc.2
    exact Way.one_head (u := step d s c.toNat) (mem_of.2 ⟨s, c.toNat, hs, hk, rfl, hcc.symm, rfl⟩) hc.1 (ih (g.step_lt hs hk) fun e he => hw e (List.mem_cons_of_mem _ he))
theorem nn {L : Int} {w : List Int} (hw : Word L w) : ∀ c ∈ w, 0 ≤ c := fun c hc => (hw c hc).1
theorem of_acc {d : Aut} (g : Df.Good d) {w : List Int} (hw : Word d.L w) : accN (ofA d) w = accA d w := by
  refine Bool.eq_iff_iff.2 ?_
  rw [accN_iff (of_good g) (nn hw)]
  constructor
  · rintro ⟨s, t, hs, h, ht⟩
    have e : (s : Int) = d.s := by simpa [ofA] using hs
    have e2 : s = d.s.toNat := by omega
    obtain ⟨_, rfl⟩ := of_way1 h
    rw [e2] at ht
    exact (mem_fin.1 ht).2
  · intro h
    refine ⟨d.s.toNat, runA d d.s.toNat w, ?_, (of_way g g.s_lt).2 ⟨hw, rfl⟩, mem_fin.2 ⟨g.run_lt hw g.s_lt, h⟩⟩
    rw [g.s_eq]; simp [ofA]

/-! ### one by one it is as trimmed -/
theorem setQ_one {a : Nfa} {q : Nat} (h : q < a.n.toNat) : setQ a (fun t => decide (t = q)) = [q] := by
  unfold setQ
  generalize a.n.toNat = n at h
  induction n with
  | zero => omega
  | succ n ih =>
    rw [List.range_succ, List.filter_append]
    rcases Nat.lt_or_eq_of_le (Nat.le_of_lt_succ h) with h1 | rfl
    · rw [ih h1]
      have : decide (n = q) = false := decide_eq_false (by omega)
      simp [this]
    · have : (List.range q).filter (fun t => decide (t = q)) = [] := List.filter_eq_nil_iff.2 fun t ht => by
        have := List.mem_range.1 ht
        simp; omega
      rw [this]; simp
theorem clo_set (a : Nfa) (X : List Nat) : clo a X = setQ a fun t => decide (t ∈ clo a X) := by
  have : ∀ t, t ∈ clo a X ↔ t < a.n.toNat ∧ t ∈ clo a X := fun t => ⟨fun h => ⟨(mem_setQ.1 h).1, h⟩, fun h => h.2⟩
  conv => lhs; unfold clo
  refine setQ_ext fun t ht => ?_
  rw [decide_eq_true_iff]
  unfold clo
  rw [mem_setQ]
  exact ⟨fun h => ⟨ht, h⟩, fun h => h.2⟩
/-- Two sets that hold the same are the same. -/
theorem clo_ext {a : Nfa} {X Y : List Nat} (h : ∀ t, t < a.n.toNat → (t ∈ clo a X ↔ t ∈ clo a Y)) : clo a X = clo a Y := by
  rw [clo_set a X, clo_set a Y]
  exact setQ_ext fun t ht => by rw [decide_eq_true_iff, decide_eq_true_iff]; exact h t ht
theorem clo_one {a : Nfa} {X : List Nat} {q : Nat} (hq : q < a.n.toNat) (h : ∀ t, t < a.n.toNat → (t ∈ clo a X ↔ t = q)) : clo a X = [q] := by
  rw [clo_set a X, ← setQ_one hq]
  exact setQ_ext fun t ht => by rw [decide_eq_true_iff, decide_eq_true_iff]; exact h t ht
theorem of_n (d : Aut) : (ofA d).n.toNat = d.next.length := by show ((d.next.length : Nat) : Int).toNat = _; simp
theorem of_beg {d : Aut} (g : Df.Good d) : beg (ofA d) = [d.s.toNat] := by
  have go := of_good g
  have hs := g.s_lt
  unfold beg
  refine clo_one (by rw [of_n]; exact hs) fun t _ => ?_
  rw [mem_clo go fun s hs => st_lt go hs]
  constructor
  · rintro ⟨s, hs, h⟩
    have e : s = d.s.toNat := by simpa [ofA] using hs
    obtain ⟨_, e2⟩ := of_way1 h
    rw [e2, e]; rfl
  · rintro rfl
    exact ⟨_, by simp [ofA], .nil⟩
theorem of_go {d : Aut} (g : Df.Good d) {q c : Nat} (hq : q < d.next.length) (hc : (c : Int) < d.L) : goN (ofA d) [q] (c : Int) = [step d q c] := by
  have go := of_good g
  unfold goN
  refine clo_one (by rw [of_n]; exact g.step_lt hq hc) fun t _ => ?_
  rw [mem_clo go fun s hs => to_lt go hs]
  constructor
  · rintro ⟨s, hs, h⟩
    obtain ⟨u, hu, hm⟩ := (mem_to go).1 hs
    obtain ⟨q', k, _, _, e1, e2, e3⟩ := mem_of.1 hm
    obtain ⟨_, e4⟩ := of_way1 h
    have e5 : u = q := by simpa using hu
    have e6 : q' = q := by omega
    have e7 : k = c := by omega
    subst e6 e7
    rw [e4]
    show s = _
    omega
  · rintro rfl
    exact ⟨_, (mem_to go).2 ⟨q, by simp, mem_of.2 ⟨q, c, hq, hc, rfl, rfl, rfl⟩⟩, .nil⟩
/-- Made one state at a time again, an automaton is trimmed. -/
theorem make_of {d : Aut} (g : Df.Good d) : ∃ l, found (T (ofA d)) (beg (ofA d)) = some l ∧ makeA (ofA d) l = trimA d := by
  have hw := rset_whole g g.s_lt
  obtain ⟨l, hl⟩ := found1 g g.s_lt
  have hr : rset d d.s.toNat = l := by unfold rset; rw [hl]; rfl
  rw [hr] at hw
  have hlt : ∀ x ∈ l, x < d.next.length := fun x hx => rset_lt g g.s_lt (by rw [hr]; exact hx)
  have hi : ∀ x ∈ l, ∀ y ∈ l, (fun q : Nat => [q]) x = (fun q : Nat => [q]) y → x = y := fun x _ y _ e => by simpa using e
  have hT : ∀ x ∈ l, T (ofA d) ((fun q : Nat => [q]) x) = (S1 d x).map fun q => [q] := fun x hx => by
    unfold T S1
    rw [List.map_map]
    refine List.map_congr_left fun c hc => ?_
    have h1 := g.l1
    have hc' : c < d.L.toNat := List.mem_range.1 hc
    exact of_go g (hlt x hx) (by omega)
  have h1 := expl_as hw.closed hi hT 41 0 [d.s.toNat] hl (fun x hx => by simp at hx; subst hx; exact List.mem_of_getElem? hw.hd)
  have h2 : found (T (ofA d)) (beg (ofA d)) = some (l.map fun q => [q]) := by rw [of_beg g]; exact h1
  refine ⟨_, h2, ?_⟩
  unfold makeA trimA
  rw [hr]
  unfold autOf
  rw [List.map_map, List.map_map]
  congr 1
  · refine List.map_congr_left fun x hx => ?_
    show srow (T (ofA d)) (l.map fun q => [q]) [x] = srow (S1 d) l x
    unfold srow
    rw [show T (ofA d) [x] = (S1 d x).map fun q => [q] from hT x hx, List.map_map]
    refine List.map_congr_left fun t ht => ?_
    show ((num (l.map fun q => [q]) [t] : Nat) : Int) = _
    rw [num_map (φ := fun q : Nat => [q]) hi (hw.closed x hx t ht)]
  · refine List.map_congr_left fun x hx => ?_
    show finN (ofA d) [x] = finA d x
    refine Bool.eq_iff_iff.2 ?_
    unfold finN
    rw [List.any_eq_true]
    constructor
    · rintro ⟨t, ht, h⟩
      obtain rfl : t = x := by simpa using ht
      exact (mem_fin.1 (of_decide_eq_true h)).2
    · intro h
      exact ⟨x, by simp, decide_eq_true (mem_fin.2 ⟨hlt x hx, h⟩)⟩

/-! ### Brzozowski -/
theorem mir_of_acc {x : Aut} (gx : Df.Good x) {w : List Int} (hw : Word x.L w) : accN (mir (ofA x)) w = accA x w.reverse := by
  have go := of_good gx
  have hw' : Word x.L w.reverse := fun c hc => hw c (List.mem_reverse.1 hc)
  have := mir_acc go (nn hw')
  rw [List.reverse_reverse] at this
  rw [this, of_acc gx hw']
/-- The states of a set, by what a word leads to. -/
theorem mir_set {x : Aut} (gx : Df.Good x) {u : List Int} (hu : Word x.L u) {i : Nat} (hi : i < x.next.length) : i ∈ runN (mir (ofA x)) (beg (mir (ofA x))) u ↔ finA x (runA x i u.reverse) = true := by
  have go := of_good gx
  have gm := mir_good go
  have hu' : Word x.L u.reverse := fun c hc => hu c (List.mem_reverse.1 hc)
  rw [mem_run gm (nn hu)]
  constructor
  · rintro ⟨s, hs, hway⟩
    have h2 : Way (mir (ofA x)) s (u.reverse).reverse i := by rw [List.reverse_reverse]; exact hway
    obtain ⟨_, e⟩ := of_way1 (way_mir.1 h2)
    have hs' : (s : Int) ∈ (ofA x).fin := hs
    rw [← e]; exact (mem_fin.1 hs').2
  · intro hf
    refine ⟨runA x i u.reverse, mem_fin.2 ⟨gx.run_lt hu' hi, hf⟩, ?_⟩
    have h2 := way_mir.2 ((of_way gx hi).2 ⟨hu', rfl⟩)
    rw [List.reverse_reverse] at h2
    exact h2
theorem rch_run {a : Nfa} (g : Good a) {X : List Nat} (h : Rch (T a) (beg a) X) : ∃ u, Word a.L u ∧ X = runN a (beg a) u ∧ ∃ Z, X = clo a Z := by
  induction h with
  | base => exact ⟨[], by intro a ha; simp at ha, rfl, _, rfl⟩
  | next _ ht ih =>
    obtain ⟨u, hu, rfl, _⟩ := ih
    obtain ⟨c, hc, rfl⟩ := List.mem_map.1 ht
    have hcL : (c : Int) < a.L := by
      have := g.l1
      have : c < a.L.toNat := List.mem_range.1 hc
      omega
    refine ⟨u ++ [(c : Int)], fun b hb => ?_, ?_, _, rfl⟩
    · rcases List.mem_append.1 hb with hb | hb
      · exact hu b hb
      · simp at hb; subst hb; exact ⟨by omega, hcL⟩
    · unfold runN; rw [List.foldl_append]; rfl
/-- No two sets of the mirror of one all of whose states are reached are alike. -/
theorem mir_apart {x : Aut} (gx : Df.Good x) (hr : ∀ i, i < x.next.length → ∃ v, Word x.L v ∧ runA x x.s.toNat v = i) {X Y : List Nat} (hX : Rch (T (mir (ofA x))) (beg (mir (ofA x))) X) (hY : Rch (T (mir (ofA x))) (beg (mir (ofA x))) Y)
    (hXY : ∀ w, Word x.L w → finN (mir (ofA x)) (runN (mir (ofA x)) X w) = finN (mir (ofA x)) (runN (mir (ofA x)) Y w)) : X = Y := by
  have gm := mir_good (of_good gx)
  obtain ⟨u, hu, eX, Z, eZ⟩ := rch_run gm hX
  obtain ⟨u', hu', eY, Z', eZ'⟩ := rch_run gm hY
  have hu : Word x.L u := hu
  have hu' : Word x.L u' := hu'
  have hmn : (mir (ofA x)).n.toNat = x.next.length := of_n x
  have key : ∀ t, t < (mir (ofA x)).n.toNat → (t ∈ X ↔ t ∈ Y) := fun t ht => by
    rw [hmn] at ht
    obtain ⟨v, hv, e⟩ := hr t ht
    have hv' : Word x.L v.reverse := fun c hc => hv c (List.mem_reverse.1 hc)
    have h1 := hXY v.reverse hv'
    rw [eX, eY] at h1
    have h2 : ∀ u, Word x.L u → finN (mir (ofA x)) (runN (mir (ofA x)) (runN (mir (ofA x)) (beg (mir (ofA x))) u) v.reverse) = finA x (runA x t u.reverse) := fun u hu => by
      have e1 : runN (mir (ofA x)) (runN (mir (ofA x)) (beg (mir (ofA x))) u) v.reverse = runN (mir (ofA x)) (beg (mir (ofA x))) (u ++ v.reverse) := by unfold runN; rw [List.foldl_append]
      have hw2 : Word x.L (u ++ v.reverse) := fun a ha => by
        rcases List.mem_append.1 ha with ha | ha
        · exact hu a ha
        · exact hv' a ha
      rw [e1]
      have := mir_of_acc gx hw2
      rw [List.reverse_append, List.reverse_reverse] at this
      unfold accN at this
      rw [this]
      unfold accA
      rw [runA_append, e]
    rw [h2 u hu, h2 u' hu'] at h1
    rw [eX, eY, mir_set gx hu ht, mir_set gx hu' ht, h1]
  rw [eZ, eZ'] at key ⊢
  exact clo_ext key
/-- They are no more than another automaton of the mirror has states. -/
theorem mir_found {x d : Aut} (gx : Df.Good x) (gd : Df.Good d) (eL : d.L = x.L) (hr : ∀ i, i < x.next.length → ∃ v, Word x.L v ∧ runA x x.s.toNat v = i) (h : ∀ w, Word d.L w → accA d w = accA x w.reverse) :
    ∃ l, found (T (mir (ofA x))) (beg (mir (ofA x))) = some l := by
  have gm := mir_good (of_good gx)
  rcases found_cases (T (mir (ofA x))) (beg (mir (ofA x))) with ⟨m, hm, _⟩ | ⟨_, m, h1, h2, h3⟩
  · exact ⟨m, hm⟩
  · exfalso
    have hu : ∀ X : List Nat, ∃ u : List Int, X ∈ m → Word x.L u ∧ X = runN (mir (ofA x)) (beg (mir (ofA x))) u := fun X => by
      by_cases hX : X ∈ m
      · obtain ⟨u, p1, p2, _⟩ := rch_run gm (h3 X hX)
        exact ⟨u, fun _ => ⟨p1, p2⟩⟩
      · exact ⟨[], fun q => absurd q hX⟩
    have hc : ∃ U : List Nat → List Int, ∀ X, X ∈ m → Word x.L (U X) ∧ X = runN (mir (ofA x)) (beg (mir (ofA x))) (U X) := ⟨fun X => Classical.choose (hu X), fun X => Classical.choose_spec (hu X)⟩
    obtain ⟨U, hU⟩ := hc
    have hfin : ∀ X, X ∈ m → ∀ w, Word x.L w → finN (mir (ofA x)) (runN (mir (ofA x)) X w) = finA d (runA d (runA d d.s.toNat (U X)) w) := fun X hX w hw => by
      obtain ⟨p1, p2⟩ := hU X hX
      have hw2 : Word x.L (U X ++ w) := fun a ha => by
        rcases List.mem_append.1 ha with ha | ha
        · exact p1 a ha
        · exact hw a ha
      have e1 := mir_of_acc gx hw2
      rw [← h _ (by rw [eL]; exact hw2)] at e1
      have e2 : runN (mir (ofA x)) (beg (mir (ofA x))) (U X ++ w) = runN (mir (ofA x)) X w := by
        have : runN (mir (ofA x)) (beg (mir (ofA x))) (U X ++ w) = runN (mir (ofA x)) (runN (mir (ofA x)) (beg (mir (ofA x))) (U X)) w := by unfold runN; rw [List.foldl_append]
        rw [this, ← p2]
      unfold accN accA at e1
      rw [e2, runA_append] at e1
      exact e1
    have hle := nodup_le_of (n := d.next.length) h1 (fun X => runA d d.s.toNat (U X)) (fun X hX Y hY e => mir_apart gx hr (h3 X hX) (h3 Y hY) fun w hw => by
      have e : runA d d.s.toNat (U X) = runA d d.s.toNat (U Y) := e
      rw [hfin X hX w hw, hfin Y hY w hw, e]) (fun X hX => gd.run_lt (by rw [eL]; exact (hU X hX).1) gd.s_lt)
    have := gd.n40
    omega
/-- What is made of the mirror of an automaton all of whose states are reached, is the smallest. -/
theorem make_mir {x d : Aut} (gx : Df.Good x) (gd : Df.Good d) (eL : d.L = x.L) (hr : ∀ i, i < x.next.length → ∃ v, Word x.L v ∧ runA x x.s.toNat v = i) (h : ∀ w, Word d.L w → accA d w = accA x w.reverse)
    {l : List (List Nat)} (hl : found (T (mir (ofA x))) (beg (mir (ofA x))) = some l) : makeA (mir (ofA x)) l = minA d := by
  have gm := mir_good (of_good gx)
  have hw := found_whole hl
  unfold makeA
  refine autOf_min hl (fun X _ => T_len gm X) (fun X hX Y hY hXY => mir_apart gx hr (hw.rch X hX) (hw.rch Y hY) fun w hwx => ?_) gd eL fun w hwm => ?_
  · have := hXY w hwx
    have hwm : Word (mir (ofA x)).L w := hwx
    rwa [viaN hwm, viaN hwm] at this
  · have hwx : Word x.L w := hwm
    rw [viaN hwm, h w (by rw [eL]; exact hwx)]
    exact (mir_of_acc gx hwx).symm
theorem make_reached {a : Nfa} (g : Good a) {l : List (List Nat)} (hl : found (T a) (beg a) = some l) {i : Nat} (hi : i < (makeA a l).next.length) : ∃ v, Word a.L v ∧ runA (makeA a l) (makeA a l).s.toNat v = i := by
  have hw := found_whole hl
  have hn : (makeA a l).next.length = l.length := by unfold makeA autOf; simp
  rw [hn] at hi
  have hm := List.getElem_mem hi
  have key : ∀ X, Rch (T a) (beg a) X → ∃ v, Word a.L v ∧ viaAll (T a) (beg a) v = X := fun X hX => by
    induction hX with
    | base => exact ⟨[], by intro a ha; simp at ha, rfl⟩
    | next _ ht ih =>
      obtain ⟨v, hv, rfl⟩ := ih
      obtain ⟨c, hc, rfl⟩ := List.mem_map.1 ht
      have hcL : (c : Int) < a.L := by
        have := g.l1
        have : c < a.L.toNat := List.mem_range.1 hc
        omega
      have hv2 : Word a.L (v ++ [(c : Int)]) := fun b hb => by
        rcases List.mem_append.1 hb with hb | hb
        · exact hv b hb
        · simp at hb; subst hb; exact ⟨by omega, hcL⟩
      refine ⟨v ++ [(c : Int)], hv2, ?_⟩
      rw [viaN hv2, viaN hv]
      unfold runN; rw [List.foldl_append]; rfl
  obtain ⟨v, hv, e⟩ := key _ (hw.rch _ hm)
  obtain ⟨_, p2⟩ := autOf_run (f := finN a) hw (fun X _ => T_len g X) hv (List.mem_of_getElem? hw.hd)
  refine ⟨v, hv, ?_⟩
  rw [idx_of hw.nd hw.hd, e, idx_of hw.nd (List.getElem?_eq_getElem hi)] at p2
  exact p2
/-- Mirrored and made one state at a time, twice: the smallest one. -/
theorem twice {d : Aut} (g : Df.Good d) {l : List (List Nat)} (hl : found (T (mir (ofA d))) (beg (mir (ofA d))) = some l) {x : Aut} (hx : x = makeA (mir (ofA d)) l) :
    ∃ k, found (T (mir (ofA x))) (beg (mir (ofA x))) = some k ∧ makeA (mir (ofA x)) k = minA d := by
  have go := of_good g
  have gm := mir_good go
  have gx := make_good gm hl
  have hr := fun i (hi : i < (makeA (mir (ofA d)) l).next.length) => make_reached gm hl hi
  have hacc : ∀ w, Word d.L w → accA d w = accA (makeA (mir (ofA d)) l) w.reverse := fun w hw => by
    have hw' : Word d.L w.reverse := fun c hc => hw c (List.mem_reverse.1 hc)
    rw [make_acc gm hl hw', mir_acc go (nn hw), of_acc g hw]
  subst hx
  obtain ⟨k, hk⟩ := mir_found gx g rfl hr hacc
  exact ⟨k, hk, make_mir gx g rfl hr hacc hk⟩
end Go.Proofs.YtinehjfanabegaaDoor.Nf
