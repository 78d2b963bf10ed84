/- Two automata in variables that are laid anew: what DfaPairs' walk carries. -/
import Derived.Test.YtloihkoamccacaaDoorRefPair
namespace Go.Proofs.YtloihkoamccacaaDoor.Df
open Go.RowKit Go.IntWalk Go.Proofs.YtloihkoamccacaaDoor.Wd Go.Proofs.YtloihkoamccacaaDoor.Wo

/-- An automaton in rows that are done. -/
def Held (fs : List Ent) (L s : Int) (nv fv : Value) (d : Aut) : Prop :=
  d.L = L ∧ d.s = s ∧ ∃ rs : List (Value × List Int), d.next = rs.map (·.2) ∧ eRows nv (rs.map (·.1)) ∈ fs ∧ eBools fv d.fin ∈ fs ∧ (∀ e ∈ eEach rs, e ∈ fs) ∧ (∀ p ∈ rs, ∀ x ∈ p.2, Small x) ∧ Small d.L ∧ Small d.s
theorem Held.more {fs fs' : List Ent} {L s : Int} {nv fv : Value} {d : Aut} (h : Held fs L s nv fv d) (hs : ∀ e ∈ fs, e ∈ fs') : Held fs' L s nv fv d := by
  obtain ⟨h1, h2, rs, h3, h4, h5, h6, h7⟩ := h
  exact ⟨h1, h2, rs, h3, hs _ h4, hs _ h5, fun e he => hs _ (h6 e he), h7⟩
theorem Held.at_ {w0 w : World} {es fs : List Ent} {L s : Int} {nv fv : Value} {d : Aut} (h : Held fs L s nv fv d) (ho : Own w0 w es fs) : DfaAt w w.heap.size (.agg #[.int .i64 L, .int .i64 s, nv, fv]) d := by
  obtain ⟨h1, h2, rs, h3, h4, h5, h6, h7, h8, h9⟩ := h
  have h10 := own_dfa (nv := nv) (fv := fv) (rs := rs) (bs := d.fin) (L := d.L) (s := d.s) ho (List.mem_append_right _ h4) (fun e he => List.mem_append_right _ (h6 e he)) (List.mem_append_right _ h5) h7 h8 h9
  rw [← h3, h1, h2] at h10
  have e : (⟨L, s, d.next, d.fin⟩ : Aut) = d := by cases d; simp only at h1 h2; subst h1 h2; rfl
  rwa [e] at h10
theorem DfaOwn.held {w w' : World} {L s : Int} {nv fv : Value} {d : Aut} (h : DfaOwn w w' (.agg #[.int .i64 L, .int .i64 s, nv, fv]) d) : ∃ fs, Own w w' [] fs ∧ Held fs L s nv fv d := by
  obtain ⟨nv', fv', rs, e, h2, h3, h4, h5, h6⟩ := h
  simp only [Value.agg.injEq, Array.mk.injEq, List.cons.injEq, Value.int.injEq, true_and, and_true] at e
  obtain ⟨e1, e2, rfl, rfl⟩ := e
  exact ⟨_, h3, e1.symm, e2.symm, rs, h2, by simp, by simp, fun e he => by simp [he], h4, h5, h6⟩
/-- The two variables, at blocks g and k. -/
def Two (u0 u : World) (g k : Nat) (L s : Int) (nv fv : Value) (a : Aut) (M t : Int) (mv hv : Value) (b : Aut) : Prop :=
  ∃ fs, Own u0 u [eDfa g [.int .i64 L, .int .i64 s, nv, fv], eDfa k [.int .i64 M, .int .i64 t, mv, hv]] fs ∧ Held fs L s nv fv a ∧ Held fs M t mv hv b
section
variable {u0 u u' : World} {g k : Nat} {L s : Int} {nv fv : Value} {a : Aut} {M t : Int} {mv hv : Value} {b : Aut}
theorem Two.below (h : Two u0 u g k L s nv fv a M t mv hv b) : Below u0.heap.size u0 u := by
  obtain ⟨_, h, _⟩ := h; exact h.below
theorem Two.on (h : Two u0 u g k L s nv fv a M t mv hv b) (hb : Below u.heap.size u u') : Two u0 u' g k L s nv fv a M t mv hv b := by
  obtain ⟨fs, h1, h2⟩ := h
  exact ⟨fs, h1.on hb, h2⟩
theorem Two.x (h : Two u0 u g k L s nv fv a M t mv hv b) : DfaAt u u.heap.size (.agg #[.int .i64 L, .int .i64 s, nv, fv]) a := by
  obtain ⟨fs, h1, h2, _⟩ := h; exact h2.at_ h1
theorem Two.y (h : Two u0 u g k L s nv fv a M t mv hv b) : DfaAt u u.heap.size (.agg #[.int .i64 M, .int .i64 t, mv, hv]) b := by
  obtain ⟨fs, h1, _, h2⟩ := h; exact h2.at_ h1
theorem Two.cx (h : Two u0 u g k L s nv fv a M t mv hv b) {j : Nat} {v : Value} (hj : [.int .i64 L, .int .i64 s, nv, fv][j]? = some v) : u.cell? ⟨g, j, none⟩ = some v ∧ u.frozen? ⟨g, j, none⟩ = false := by
  obtain ⟨fs, h1, _⟩ := h; exact h1.dcell (l := [.int .i64 L, .int .i64 s, nv, fv]) (by simp) hj
theorem Two.cy (h : Two u0 u g k L s nv fv a M t mv hv b) {j : Nat} {v : Value} (hj : [.int .i64 M, .int .i64 t, mv, hv][j]? = some v) : u.cell? ⟨k, j, none⟩ = some v ∧ u.frozen? ⟨k, j, none⟩ = false := by
  obtain ⟨fs, h1, _⟩ := h; exact h1.dcell (l := [.int .i64 M, .int .i64 t, mv, hv]) (by simp) hj
theorem Two.lt (h : Two u0 u g k L s nv fv a M t mv hv b) : u0.heap.size ≤ g ∧ g < u.heap.size ∧ u0.heap.size ≤ k ∧ k < u.heap.size := by
  obtain ⟨fs, h1, _⟩ := h
  have e1 := h1.lt (ad := ⟨g, 0, none⟩) (xs := [.int .i64 L, .int .i64 s, nv, fv]) (t := 25) (sz := 4) (n := 1) (cap := 1) (by simp [eDfa])
  have e2 := h1.lt (ad := ⟨k, 0, none⟩) (xs := [.int .i64 M, .int .i64 t, mv, hv]) (t := 25) (sz := 4) (n := 1) (cap := 1) (by simp [eDfa])
  exact ⟨e1.1, e1.2, e2.1, e2.2⟩
theorem Two.ne (h : Two u0 u g k L s nv fv a M t mv hv b) : g ≠ k := by
  obtain ⟨fs, h1, _⟩ := h
  have := (List.pairwise_cons.1 h1.apart).1 _ (List.mem_singleton.2 rfl)
  rcases this with h | h
  · cases h
  · intro e; subst e; exact h rfl
theorem two_new {u1 w1 u2 w2 : World} (h1 : DfaOwn u0 u1 (.agg #[.int .i64 L, .int .i64 s, nv, fv]) a) (hw : w1 = u1.alloc (.cells #[.int .i64 L, .int .i64 s, nv, fv] 25)) (h2 : DfaOwn w1 u2 (.agg #[.int .i64 M, .int .i64 t, mv, hv]) b)
    (hw2 : w2 = u2.alloc (.cells #[.int .i64 M, .int .i64 t, mv, hv] 25)) : Two u0 w2 u1.heap.size u2.heap.size L s nv fv a M t mv hv b := by
  subst hw hw2
  obtain ⟨f1, o1, x1⟩ := h1.held
  obtain ⟨f2, o2, x2⟩ := h2.held
  have h3 := ((o1.dfa (.int .i64 L) (.int .i64 s) nv fv).join o2).dfa (.int .i64 M) (.int .i64 t) mv hv
  exact ⟨f2 ++ f1, h3.two, x1.more (fun e he => List.mem_append_right _ he), x2.more (fun e he => List.mem_append_left _ he)⟩
theorem Two.setx {w' : World} {L' s' : Int} {nv' fv' : Value} {a' : Aut} (h : Two u0 u g k L s nv fv a M t mv hv b) (ho : DfaOwn u u' (.agg #[.int .i64 L', .int .i64 s', nv', fv']) a')
    (hw : w' = (((u'.setCell ⟨g, 0, none⟩ (.int .i64 L')).setCell ⟨g, 1, none⟩ (.int .i64 s')).setCell ⟨g, 2, none⟩ nv').setCell ⟨g, 3, none⟩ fv') : Two u0 w' g k L' s' nv' fv' a' M t mv hv b := by
  subst hw
  obtain ⟨fs, h1, h2, h3⟩ := h
  obtain ⟨f2, o2, x2⟩ := ho.held
  have h4 := h1.join o2
  have h5 := (((h4.dset 0 (.int .i64 L')).dset 1 (.int .i64 s')).dset 2 nv').dset 3 fv'
  exact ⟨f2 ++ fs, h5, x2.more (fun e he => List.mem_append_left _ he), h3.more (fun e he => List.mem_append_right _ he)⟩
theorem Two.sety {w' : World} {L' s' : Int} {nv' fv' : Value} {a' : Aut} (h : Two u0 u g k L s nv fv a M t mv hv b) (ho : DfaOwn u u' (.agg #[.int .i64 L', .int .i64 s', nv', fv']) a')
    (hw : w' = (((u'.setCell ⟨k, 0, none⟩ (.int .i64 L')).setCell ⟨k, 1, none⟩ (.int .i64 s')).setCell ⟨k, 2, none⟩ nv').setCell ⟨k, 3, none⟩ fv') : Two u0 w' g k L s nv fv a L' s' nv' fv' a' := by
  subst hw
  obtain ⟨fs, h1, h2, h3⟩ := h
  obtain ⟨f2, o2, x2⟩ := ho.held
  have h4 := (h1.join o2).two
  have h5 := ((((h4.dset 0 (.int .i64 L')).dset 1 (.int .i64 s')).dset 2 nv').dset 3 fv').two
  exact ⟨f2 ++ fs, h5, h2.more (fun e he => List.mem_append_right _ he), x2.more (fun e he => List.mem_append_left _ he)⟩
end
theorem kind0 : kindF 0 = bothF := by unfold kindF bothF; rw [if_pos rfl]
theorem kind1 : kindF 1 = eitherF := by unfold kindF eitherF; rw [if_neg (by decide), if_pos rfl]
theorem kind2 : kindF 2 = butF := by unfold kindF butF; rw [if_neg (by decide), if_neg (by decide)]
theorem lite_prod (h : Bool → Bool → Bool) (a b : Aut) : Lite (prodOut h a b).1 := by
  rcases prod_two a b with ⟨k, hk⟩ | ⟨g, l, hf⟩
  · rw [hk]; exact lite_zero
  · rw [prod_ok g hf]; exact (prod_good g hf _).lite
end Go.Proofs.YtloihkoamccacaaDoor.Df
