/- The walks of package dfa's Copy and Not. -/
import Derived.Test.YtfiknbdpjnpkdaaDoorDfaW
import Derived.Test.YtfiknbdpjnpkdaaDoorRegL
import Derived.Deep.Light
import Derived.Deep.RegionHeld3
import Derived.Deep.RegionLaw
import Derived.Lib.SliceRun
import Derived.Deep.DeepCutAuto
namespace Go.Proofs.YtfiknbdpjnpkdaaDoor.Df
open Go.RowKit Go.IntWalk Go.Proofs.YtfiknbdpjnpkdaaDoor.Wd Go.Proofs.YtfiknbdpjnpkdaaDoor.Wo

/-! ### an automaton that is built -/
abbrev zero4 : List Value := [.int .i64 0, .int .i64 0, .slice none 0 0, .slice none 0 0]
/-- The rows and the flags so far; the struct at block g; xs: what is owned besides. -/
def Build (w1 wr : World) (g : Nat) (xs : List Ent) (L s : Int) (rows : List (List Int)) (bs : List Bool) (nv fv : Value) (rs : List (Value × List Int)) : Prop :=
  rs.map (·.2) = rows ∧ Own w1 wr (eRows nv (rs.map (·.1)) :: eBools fv bs :: eDfa g [.int .i64 L, .int .i64 s, nv, fv] :: xs) (eEach rs)
theorem take_succ_map {α β : Type} (f : α → β) (l : List α) {k : Nat} {x : α} (h : l[k]? = some x) : (l.take (k + 1)).map f = (l.take k).map f ++ [f x] := by
  obtain ⟨h1, h2⟩ := List.getElem?_eq_some_iff.1 h
  rw [← List.take_append_getElem h1, List.map_append, h2]; rfl
theorem take_succ' {α : Type} (l : List α) {k : Nat} {x : α} (h : l[k]? = some x) : l.take (k + 1) = l.take k ++ [x] := by
  obtain ⟨h1, h2⟩ := List.getElem?_eq_some_iff.1 h
  rw [← List.take_append_getElem h1, h2]
theorem Build.c2 {w1 wr : World} {g : Nat} {xs : List Ent} {L s : Int} {rows : List (List Int)} {bs : List Bool} {nv fv : Value} {rs : List (Value × List Int)} (h : Build w1 wr g xs L s rows bs nv fv rs) :
    wr.cell? ⟨g, 2, none⟩ = some nv ∧ wr.frozen? ⟨g, 2, none⟩ = false := h.2.dcell (l := [.int .i64 L, .int .i64 s, nv, fv]) (by simp) rfl
theorem Build.c3 {w1 wr : World} {g : Nat} {xs : List Ent} {L s : Int} {rows : List (List Int)} {bs : List Bool} {nv fv : Value} {rs : List (Value × List Int)} (h : Build w1 wr g xs L s rows bs nv fv rs) :
    wr.cell? ⟨g, 3, none⟩ = some fv ∧ wr.frozen? ⟨g, 3, none⟩ = false := h.2.dcell (l := [.int .i64 L, .int .i64 s, nv, fv]) (by simp) rfl
theorem Build.lt {w1 wr : World} {g : Nat} {xs : List Ent} {L s : Int} {rows : List (List Int)} {bs : List Bool} {nv fv : Value} {rs : List (Value × List Int)} (h : Build w1 wr g xs L s rows bs nv fv rs) :
    w1.heap.size ≤ g ∧ g < wr.heap.size := h.2.lt (ad := ⟨g, 0, none⟩) (xs := [.int .i64 L, .int .i64 s, nv, fv]) (t := 25) (sz := 4) (n := 1) (cap := 1) (by simp [eDfa])
theorem Build.on {w1 wr w2 : World} {g : Nat} {xs : List Ent} {L s : Int} {rows : List (List Int)} {bs : List Bool} {nv fv : Value} {rs : List (Value × List Int)} (h : Build w1 wr g xs L s rows bs nv fv rs) (hb : Below wr.heap.size wr w2) :
    Build w1 w2 g xs L s rows bs nv fv rs := ⟨h.1, h.2.on hb⟩
/-- What the two slices look like. -/
theorem Build.form {w1 wr : World} {g : Nat} {xs : List Ent} {L s : Int} {rows : List (List Int)} {bs : List Bool} {nv fv : Value} {rs : List (Value × List Int)} (h : Build w1 wr g xs L s rows bs nv fv rs) :
    ∃ A c F cf, nv = .slice A rows.length c ∧ fv = .slice F bs.length cf := by
  obtain ⟨A, c, h1, _⟩ := h.2.form (e := eRows nv (rs.map (·.1))) (by simp)
  obtain ⟨F, cf, h2, _⟩ := h.2.form (e := eBools fv bs) (by simp)
  simp only [eRows, eBools, List.length_map] at h1 h2
  exact ⟨A, c, F, cf, by rw [h1, ← h.1, List.length_map], h2⟩
/-- What is built is laid into the result's own block, and reads as an automaton. -/
theorem build_end {w1 wr w2 : World} {g gr : Nat} {xs : List Ent} {L s : Int} {rows : List (List Int)} {bs : List Bool} {nv fv : Value} {rs : List (Value × List Int)} (h : Build w1 wr g (eDfa gr zero4 :: xs) L s rows bs nv fv rs)
    (hs : ∀ r ∈ rows, ∀ x ∈ r, Small x) (hL : Small L) (hS : Small s) (hw : w2 = (((wr.setCell ⟨gr, 0, none⟩ (.int .i64 L)).setCell ⟨gr, 1, none⟩ (.int .i64 s)).setCell ⟨gr, 2, none⟩ nv).setCell ⟨gr, 3, none⟩ fv) :
    DfaOwn w1 w2 (.agg #[.int .i64 L, .int .i64 s, nv, fv]) ⟨L, s, rows, bs⟩ ∧
      w2.cell? ⟨gr, 0, none⟩ = some (.int .i64 L) ∧ w2.cell? ⟨gr, 1, none⟩ = some (.int .i64 s) ∧ w2.cell? ⟨gr, 2, none⟩ = some nv ∧ w2.cell? ⟨gr, 3, none⟩ = some fv := by
  subst hw
  have h2 := (((h.2.four.dset 0 (.int .i64 L)).dset 1 (.int .i64 s)).dset 2 nv).dset 3 fv
  refine ⟨⟨nv, fv, rs, rfl, h.1.symm, h2.two.fin.two.fin.only.weak (fun e he => ?_), (fun p hp => hs _ (by rw [← h.1]; exact List.mem_map.2 ⟨p, hp, rfl⟩)), hL, hS⟩,
    (h2.dcell (g := gr) (l := [.int .i64 L, .int .i64 s, nv, fv]) (by simp) rfl).1, (h2.dcell (g := gr) (l := [.int .i64 L, .int .i64 s, nv, fv]) (by simp) rfl).1, (h2.dcell (g := gr) (l := [.int .i64 L, .int .i64 s, nv, fv]) (by simp) rfl).1, (h2.dcell (g := gr) (l := [.int .i64 L, .int .i64 s, nv, fv]) (by simp) rfl).1⟩
  simp only [List.mem_cons] at he ⊢
  rcases he with he | he | he
  · exact .inr (.inl he)
  · exact .inl he
  · exact .inr (.inr he)
/-- The zero automaton is laid into the result's own block. -/
theorem res_bad {w1 wr w2 : World} {gr : Nat} {es fs : List Ent} (h : Own w1 wr (eDfa gr zero4 :: es) fs)
    (hw : w2 = (((wr.setCell ⟨gr, 0, none⟩ (.int .i64 0)).setCell ⟨gr, 1, none⟩ (.int .i64 0)).setCell ⟨gr, 2, none⟩ (.slice none 0 0)).setCell ⟨gr, 3, none⟩ (.slice none 0 0)) :
    Below w1.heap.size w1 w2 ∧ w2.cell? ⟨gr, 0, none⟩ = some (.int .i64 0) ∧ w2.cell? ⟨gr, 1, none⟩ = some (.int .i64 0) ∧ w2.cell? ⟨gr, 2, none⟩ = some (.slice none 0 0) ∧ w2.cell? ⟨gr, 3, none⟩ = some (.slice none 0 0) := by
  subst hw
  have h2 := (((h.dset 0 (.int .i64 0)).dset 1 (.int .i64 0)).dset 2 (.slice none 0 0)).dset 3 (.slice none 0 0)
  exact ⟨h2.below, (h2.dcell (g := gr) (l := zero4) (by simp) rfl).1, (h2.dcell (g := gr) (l := zero4) (by simp) rfl).1, (h2.dcell (g := gr) (l := zero4) (by simp) rfl).1, (h2.dcell (g := gr) (l := zero4) (by simp) rfl).1⟩
/-- The result's own block, as it was made. -/
theorem Build.res {w1 wr : World} {g gr : Nat} {xs : List Ent} {L s : Int} {rows : List (List Int)} {bs : List Bool} {nv fv : Value} {rs : List (Value × List Int)} (h : Build w1 wr g (eDfa gr zero4 :: xs) L s rows bs nv fv rs) {j : Nat} (hj : j < 4) :
    wr.cell? ⟨gr, j, none⟩ = some zero4[j] ∧ wr.frozen? ⟨gr, j, none⟩ = false := h.2.dcell (g := gr) (l := zero4) (by simp) (List.getElem?_eq_getElem hj)
theorem Build.str {w1 wr : World} {g : Nat} {xs : List Ent} {L s : Int} {rows : List (List Int)} {bs : List Bool} {nv fv : Value} {rs : List (Value × List Int)} (h : Build w1 wr g xs L s rows bs nv fv rs) :
    wr.cell? ⟨g, 0, none⟩ = some (.int .i64 L) ∧ wr.cell? ⟨g, 1, none⟩ = some (.int .i64 s) ∧ wr.cell? ⟨g, 2, none⟩ = some nv ∧ wr.cell? ⟨g, 3, none⟩ = some fv :=
  ⟨(h.2.dcell (l := [.int .i64 L, .int .i64 s, nv, fv]) (by simp) rfl).1, (h.2.dcell (l := [.int .i64 L, .int .i64 s, nv, fv]) (by simp) rfl).1, h.c2.1, h.c3.1⟩
/-- A row is laid to what is built. -/
theorem build_row {w1 w2 w3 : World} {g : Nat} {xs : List Ent} {L s : Int} {rows : List (List Int)} {bs : List Bool} {nv fv nv' x : Value} {rs : List (Value × List Int)} {r : List Int} (hm : rs.map (·.2) = rows)
    (h : Own w1 w3 (eRows nv' (rs.map (·.1) ++ [x]) :: eInts x r :: eBools fv bs :: eDfa g [.int .i64 L, .int .i64 s, nv, fv] :: xs) (eEach rs)) (hw : w2 = w3.setCell ⟨g, 2, none⟩ nv') :
    Build w1 w2 g xs L s (rows ++ [r]) bs nv' fv (rs ++ [(x, r)]) := by
  subst hw
  have h2 := (h.two.fin).three.dset 2 nv'
  refine ⟨by rw [List.map_append, hm]; rfl, ?_⟩
  have h3 := h2.three'.weak (fs' := eEach (rs ++ [(x, r)])) (fun e he => by
    unfold eEach at he ⊢
    rw [List.map_append] at he
    rcases List.mem_append.1 he with he | he
    · exact List.mem_cons_of_mem _ he
    · simp at he; subst he; exact List.mem_cons_self)
  simpa using h3
/-- A flag is laid to what is built. -/
theorem build_flag {w1 w2 w3 : World} {g : Nat} {xs : List Ent} {L s : Int} {rows : List (List Int)} {bs : List Bool} {nv fv fv' : Value} {rs : List (Value × List Int)} {b : Bool} (hm : rs.map (·.2) = rows)
    (h : Own w1 w3 (eBools fv' (bs ++ [b]) :: eRows nv (rs.map (·.1)) :: eDfa g [.int .i64 L, .int .i64 s, nv, fv] :: xs) (eEach rs)) (hw : w2 = w3.setCell ⟨g, 3, none⟩ fv') :
    Build w1 w2 g xs L s rows (bs ++ [b]) nv fv' rs := by
  subst hw
  exact ⟨hm, ((h.three.dset 3 fv').three').two⟩

theorem Good.small_L {d : Aut} (g : Good d) : Small d.L := ⟨by have := g.l1; omega, by have := g.l6; omega⟩
theorem Good.small_s {d : Aut} (g : Good d) : Small d.s := ⟨by have := g.st.1; omega, by have := g.st.2; have := g.n40; omega⟩
theorem good_small {d : Aut} (g : Good d) : ∀ r ∈ d.next, ∀ x ∈ r, Small x := fun r hr x hx => by
  have h := g.go r hr x hx
  have := g.n40
  exact ⟨by have := h.1; omega, by have := h.2; omega⟩


/-! ### a copy, all of it still written to -/
theorem Own.allDone {w0 w : World} : ∀ {es fs : List Ent}, Own w0 w es fs → Own w0 w [] (es ++ fs)
  | [], _, h => h
  | e :: es, fs, h => (Own.allDone h.fin).weak fun x hx => by
    simp only [List.cons_append, List.mem_cons, List.mem_append] at hx ⊢
    rcases hx with rfl | hx | hx
    · exact .inr (.inl rfl)
    · exact .inl hx
    · exact .inr (.inr hx)
/-- A row that is owned and not empty has a block. -/
theorem owns_some {w w0 : World} {t : TypeId} {sz n : Nat} {v : Value} {xs : List Value} (h : w.ownsRow w0.heap.size t sz v n xs) (hn : 0 < n) : ∃ g cap, v = .slice (some ⟨g, 0, none⟩) n cap := by
  rcases h.2 with ⟨_, h0⟩ | ⟨g, cap, cur, e1, _⟩
  · omega
  · exact ⟨g, cap, e1⟩
theorem many_bool (l : List Bool) : ∀ (u : Value), u ∈ l.map Value.bool → u.oneCell' = true := by
  intro u hu
  obtain ⟨z, _, rfl⟩ := List.mem_map.1 hu
  rfl
/-- 'append(l, m...)' of at least one bool. -/
theorem own_boolss {w0 w : World} {ops : Array Oper} {rest : List Oper} {o : Oper} {a : Act} {Q : Exit → Act → World → Prop} (hgd : o.guard = none) (s x : Operand)
    (ho : o.op = .call { callee := .builtin .append, args := #[s, x], argTypes := #[23, 23] })
    {v : Value} {l : List Bool} {es fs : List Ent} (hs : a.eval s = v) (h : Own w0 w (eBools v l :: es) fs) {ad : Addr} {c : Nat} {m : List Bool} (hx : a.eval x = .slice (some ad) m.length c) (hA : BoolsAt w w.heap.size (some ad) m) (hm : 0 < m.length) (hb : l.length + m.length ≤ 17592186044416)
    (hK : ∀ g cap w', Own w0 w' (eBools (.slice (some ⟨g, 0, none⟩) (l.length + m.length) cap) (l ++ m) :: es) fs → wpList Tryd.prog ops Q rest (a.put o.dst (.slice (some ⟨g, 0, none⟩) (l.length + m.length) cap)) w') : wpList Tryd.prog ops Q (o :: rest) a w := by
  refine own_append hgd s x _ ho Tryd.underlying23 infoBool rfl (by decide) hs h (m.map Value.bool) hx (by simp) (fun j u hj => ?_) (many_bool m) hm (by unfold maxLen; omega) (by omega) ?_
  · obtain ⟨ad', e, _, hc⟩ := hA j u hj
    obtain rfl := Option.some.inj e
    exact hc
  · intro g cap w' ho
    refine hK g cap w' ?_
    unfold eBools
    simpa using ho
/-- An automaton that a call has made, all of it still written to. -/
def DfaNew (w w' : World) (x : Value) (d : Aut) : Prop :=
  ∃ nv fv rs, x = .agg #[.int .i64 d.L, .int .i64 d.s, nv, fv] ∧ d.next = rs.map (·.2) ∧ Own w w' (eRows nv (rs.map (·.1)) :: eBools fv d.fin :: eEach rs) [] ∧ (∀ p ∈ rs, ∀ x ∈ p.2, Small x) ∧ Small d.L ∧ Small d.s
theorem DfaNew.own {w w' : World} {x : Value} {d : Aut} (h : DfaNew w w' x d) : DfaOwn w w' x d := by
  obtain ⟨nv, fv, rs, h1, h2, h3, h4⟩ := h
  exact ⟨nv, fv, rs, h1, h2, (Own.allDone h3).weak fun e he => by rw [List.append_nil]; exact he, h4⟩
theorem DfaNew.base {w w0 w' : World} {x : Value} {d : Aut} (h : DfaNew w0 w' x d) (hb : Below w.heap.size w w0) : DfaNew w w' x d := by
  obtain ⟨nv, fv, rs, h1, h2, h3, h4⟩ := h
  exact ⟨nv, fv, rs, h1, h2, h3.base hb, h4⟩
/-- A copy under way: the struct at block g. -/
def BuildC (w1 wr : World) (g : Nat) (L s : Int) (rows : List (List Int)) (bs : List Bool) (nv fv : Value) (rs : List (Value × List Int)) : Prop :=
  rs.map (·.2) = rows ∧ Own w1 wr (eRows nv (rs.map (·.1)) :: eDfa g [.int .i64 L, .int .i64 s, nv, fv] :: eBools fv bs :: eEach rs) []
theorem BuildC.cell {w1 wr : World} {g : Nat} {L s : Int} {rows : List (List Int)} {bs : List Bool} {nv fv : Value} {rs : List (Value × List Int)} (h : BuildC w1 wr g L s rows bs nv fv rs) {j : Nat} {u : Value} (hj : [Value.int .i64 L, .int .i64 s, nv, fv][j]? = some u) :
    wr.cell? ⟨g, j, none⟩ = some u ∧ wr.frozen? ⟨g, j, none⟩ = false := h.2.dcell (l := [.int .i64 L, .int .i64 s, nv, fv]) (by simp) hj
theorem BuildC.lt {w1 wr : World} {g : Nat} {L s : Int} {rows : List (List Int)} {bs : List Bool} {nv fv : Value} {rs : List (Value × List Int)} (h : BuildC w1 wr g L s rows bs nv fv rs) : w1.heap.size ≤ g ∧ g < wr.heap.size :=
  h.2.lt (ad := ⟨g, 0, none⟩) (xs := [.int .i64 L, .int .i64 s, nv, fv]) (t := 25) (sz := 4) (n := 1) (cap := 1) (by simp [eDfa])
theorem BuildC.on {w1 wr w2 : World} {g : Nat} {L s : Int} {rows : List (List Int)} {bs : List Bool} {nv fv : Value} {rs : List (Value × List Int)} (h : BuildC w1 wr g L s rows bs nv fv rs) (hb : Below wr.heap.size wr w2) : BuildC w1 w2 g L s rows bs nv fv rs := ⟨h.1, h.2.on hb⟩
theorem BuildC.form {w1 wr : World} {g : Nat} {L s : Int} {rows : List (List Int)} {bs : List Bool} {nv fv : Value} {rs : List (Value × List Int)} (h : BuildC w1 wr g L s rows bs nv fv rs) :
    ∃ A c F cf, nv = .slice A rows.length c ∧ fv = .slice F bs.length cf := by
  obtain ⟨A, c, h1, _⟩ := h.2.form (e := eRows nv (rs.map (·.1))) (by simp)
  obtain ⟨F, cf, h2, _⟩ := h.2.form (e := eBools fv bs) (by simp)
  simp only [eRows, eBools, List.length_map] at h1 h2
  exact ⟨A, c, F, cf, by rw [h1, ← h.1, List.length_map], h2⟩
theorem buildC_row {w1 w2 w3 : World} {g : Nat} {L s : Int} {rows : List (List Int)} {bs : List Bool} {nv fv nv' x : Value} {rs : List (Value × List Int)} {r : List Int} (hm : rs.map (·.2) = rows)
    (h : Own w1 w3 (eRows nv' (rs.map (·.1) ++ [x]) :: eInts x r :: eDfa g [.int .i64 L, .int .i64 s, nv, fv] :: eBools fv bs :: eEach rs) []) (hw : w2 = w3.setCell ⟨g, 2, none⟩ nv') :
    BuildC w1 w2 g L s (rows ++ [r]) bs nv' fv (rs ++ [(x, r)]) := by
  subst hw
  have h2 := h.three.dset 2 nv'
  refine ⟨by rw [List.map_append, hm]; rfl, ?_⟩
  have e1 : (rs ++ [(x, r)]).map (·.1) = rs.map (·.1) ++ [x] := by rw [List.map_append]; rfl
  have e2 : eEach (rs ++ [(x, r)]) = eEach rs ++ [eInts x r] := by unfold eEach; rw [List.map_append]; rfl
  rw [e1, e2]
  exact h2.perm ((List.Perm.swap _ _ _).trans ((((List.Perm.swap _ _ _).trans ((List.perm_append_singleton _ _).symm.cons _)).cons _).cons _))
/-- What is owned is laid into the result's own block, and reads as an automaton. -/
theorem own_end {w1 wr w2 : World} {gr : Nat} {es fs : List Ent} {L s : Int} {bs : List Bool} {nv fv : Value} {rs : List (Value × List Int)} (h : Own w1 wr (eDfa gr zero4 :: es) fs) (hm : ∀ e ∈ eRows nv (rs.map (·.1)) :: eBools fv bs :: eEach rs, e ∈ es ++ fs)
    (hs : ∀ p ∈ rs, ∀ x ∈ p.2, Small x) (hL : Small L) (hS : Small s) (hw : w2 = (((wr.setCell ⟨gr, 0, none⟩ (.int .i64 L)).setCell ⟨gr, 1, none⟩ (.int .i64 s)).setCell ⟨gr, 2, none⟩ nv).setCell ⟨gr, 3, none⟩ fv) :
    DfaOwn w1 w2 (.agg #[.int .i64 L, .int .i64 s, nv, fv]) ⟨L, s, rs.map (·.2), bs⟩ ∧
      w2.cell? ⟨gr, 0, none⟩ = some (.int .i64 L) ∧ w2.cell? ⟨gr, 1, none⟩ = some (.int .i64 s) ∧ w2.cell? ⟨gr, 2, none⟩ = some nv ∧ w2.cell? ⟨gr, 3, none⟩ = some fv := by
  subst hw
  have h2 := (((h.dset 0 (.int .i64 L)).dset 1 (.int .i64 s)).dset 2 nv).dset 3 fv
  have hc := fun (j : Nat) (u : Value) (hj : [Value.int .i64 L, .int .i64 s, nv, fv][j]? = some u) => (h2.dcell (g := gr) (l := [.int .i64 L, .int .i64 s, nv, fv]) (by simp) hj).1
  exact ⟨⟨nv, fv, rs, rfl, rfl, (Own.allDone h2.tail).weak hm, hs, hL, hS⟩, hc 0 _ rfl, hc 1 _ rfl, hc 2 _ rfl, hc 3 _ rfl⟩
theorem own_end_new {w1 wr w2 : World} {gr : Nat} {L s : Int} {bs : List Bool} {nv fv : Value} {rs : List (Value × List Int)} (h : Own w1 wr (eDfa gr zero4 :: eRows nv (rs.map (·.1)) :: eBools fv bs :: eEach rs) [])
    (hs : ∀ p ∈ rs, ∀ x ∈ p.2, Small x) (hL : Small L) (hS : Small s) (hw : w2 = (((wr.setCell ⟨gr, 0, none⟩ (.int .i64 L)).setCell ⟨gr, 1, none⟩ (.int .i64 s)).setCell ⟨gr, 2, none⟩ nv).setCell ⟨gr, 3, none⟩ fv) :
    DfaNew w1 w2 (.agg #[.int .i64 L, .int .i64 s, nv, fv]) ⟨L, s, rs.map (·.2), bs⟩ ∧
      w2.cell? ⟨gr, 0, none⟩ = some (.int .i64 L) ∧ w2.cell? ⟨gr, 1, none⟩ = some (.int .i64 s) ∧ w2.cell? ⟨gr, 2, none⟩ = some nv ∧ w2.cell? ⟨gr, 3, none⟩ = some fv := by
  subst hw
  have h2 := (((h.dset 0 (.int .i64 L)).dset 1 (.int .i64 s)).dset 2 nv).dset 3 fv
  have hc := fun (j : Nat) (u : Value) (hj : [Value.int .i64 L, .int .i64 s, nv, fv][j]? = some u) => (h2.dcell (g := gr) (l := [.int .i64 L, .int .i64 s, nv, fv]) (by simp) hj).1
  exact ⟨⟨nv, fv, rs, rfl, rfl, h2.tail, hs, hL, hS⟩, hc 0 _ rfl, hc 1 _ rfl, hc 2 _ rfl, hc 3 _ rfl⟩
/-! ### Copy -/
theorem rows_small {d : Aut} {rs : List (Value × List Int)} (h : ∀ r ∈ d.next, ∀ x ∈ r, Small x) (e : rs.map (·.2) = d.next) : ∀ p ∈ rs, ∀ x ∈ p.2, Small x := fun p hp x hx => h p.2 (by rw [← e]; exact List.mem_map.2 ⟨p, hp, rfl⟩) x hx
/-! ### Not -/
/-- A copy in a variable at block g, the result's block gr; bs: its flags as they are now. -/
def Flags (w1 wr : World) (g gr : Nat) (L s : Int) (nv fv : Value) (bs : List Bool) (rs : List (Value × List Int)) (fs : List Ent) : Prop :=
  Own w1 wr (eBools fv bs :: eDfa g [.int .i64 L, .int .i64 s, nv, fv] :: eDfa gr zero4 :: eRows nv (rs.map (·.1)) :: eEach rs) fs
theorem Flags.cell {w1 wr : World} {g gr : Nat} {L s : Int} {nv fv : Value} {bs : List Bool} {rs : List (Value × List Int)} {fs : List Ent} (h : Flags w1 wr g gr L s nv fv bs rs fs) {j : Nat} {u : Value} (hj : [Value.int .i64 L, .int .i64 s, nv, fv][j]? = some u) : wr.cell? ⟨g, j, none⟩ = some u := (Own.dcell h (l := [.int .i64 L, .int .i64 s, nv, fv]) (by simp) hj).1
theorem Flags.res {w1 wr : World} {g gr : Nat} {L s : Int} {nv fv : Value} {bs : List Bool} {rs : List (Value × List Int)} {fs : List Ent} (h : Flags w1 wr g gr L s nv fv bs rs fs) {j : Nat} {u : Value} (hj : zero4[j]? = some u) : wr.cell? ⟨gr, j, none⟩ = some u ∧ wr.frozen? ⟨gr, j, none⟩ = false := Own.dcell h (l := zero4) (by simp) hj
/-- The places up to one have been changed. -/
def flipTo {α : Type} (f : Nat → α) (l : List α) (k : Nat) : List α := (List.range k).map f ++ l.drop k
theorem flip_length {α : Type} {f : Nat → α} {l : List α} {k : Nat} (h : k ≤ l.length) : (flipTo f l k).length = l.length := by unfold flipTo; simp; omega
theorem flip_zero {α : Type} (f : Nat → α) (l : List α) : flipTo f l 0 = l := by simp [flipTo]
theorem flip_get {α : Type} {f : Nat → α} {l : List α} {k : Nat} (h : k < l.length) : (flipTo f l k)[k]? = some l[k] := by
  unfold flipTo; rw [List.getElem?_append_right (by simp)]; simp [h]
theorem flip_set {α : Type} {f : Nat → α} {l : List α} {k : Nat} (h : k < l.length) : (flipTo f l k).set k (f k) = flipTo f l (k + 1) := by
  unfold flipTo
  rw [List.set_append, if_neg (by simp), List.length_map, List.length_range, Nat.sub_self, List.drop_eq_getElem_cons h, List.set_cons_zero, List.range_succ, List.map_append, List.append_assoc]
  rfl
theorem flip_same {α : Type} {f : Nat → α} {l : List α} {k : Nat} (h : k < l.length) (e : f k = l[k]) : flipTo f l k = flipTo f l (k + 1) := by
  unfold flipTo
  rw [List.drop_eq_getElem_cons h, List.range_succ, List.map_append, List.append_assoc, List.map_singleton, e]
  rfl
theorem flip_all {α : Type} {f : Nat → α} {l : List α} {k : Nat} (h : l.length ≤ k) : flipTo f l k = (List.range k).map f := by unfold flipTo; rw [List.drop_of_length_le h, List.append_nil]
theorem not_flags (l : List Bool) : (List.range l.length).map (fun k => !(l[k]?.getD false)) = l.map (!·) := by
  refine List.ext_getElem (by simp) fun i h1 h2 => ?_
  rw [List.length_map] at h2
  simp [h2]
/-- A copy is laid into its variable. -/
theorem flags_new {w1 w2 w3 : World} {gr : Nat} {nv fv : Value} {d : Aut} {rs : List (Value × List Int)} {fs : List Ent} (h0 : Own w1 w2 [eDfa gr zero4] fs) (h : Own w2 w3 (eRows nv (rs.map (·.1)) :: eBools fv d.fin :: eEach rs) []) :
    Flags w1 (w3.alloc (.cells #[.int .i64 d.L, .int .i64 d.s, nv, fv] 25)) w3.heap.size gr d.L d.s nv fv d.fin rs fs := by
  have h1 := (h0.join h).dfa (.int .i64 d.L) (.int .i64 d.s) nv fv
  unfold Flags
  refine h1.perm ?_
  show (eDfa _ _ :: eRows nv _ :: eBools fv _ :: (eEach rs ++ [eDfa gr zero4])).Perm _
  refine (((List.Perm.swap _ _ _).cons _).trans (List.Perm.swap _ _ _)).trans ((List.Perm.cons _ (List.Perm.cons _ ?_)))
  exact ((List.perm_append_singleton _ _).cons _).trans (List.Perm.swap _ _ _)
theorem flags_cell {w1 wr : World} {g gr gf cap n : Nat} {L s : Int} {nv : Value} {bs : List Bool} {rs : List (Value × List Int)} {fs : List Ent} (h : Flags w1 wr g gr L s nv (.slice (some ⟨gf, 0, none⟩) n cap) bs rs fs) (hl : bs.length = n) {k : Nat} {b : Bool} (hk : bs[k]? = some b) :
    wr.cell? ⟨gf, k, none⟩ = some (.bool b) ∧ wr.frozen? ⟨gf, k, none⟩ = false := by
  subst hl
  exact Own.cell (t := 4) (sz := 1) (n := bs.length) (cap := cap) (xs := bs.map Value.bool) h (List.mem_append_left _ List.mem_cons_self) (by rw [List.getElem?_map, hk]; rfl)
theorem flags_set {w1 wr : World} {g gr gf cap n : Nat} {L s : Int} {nv : Value} {bs : List Bool} {rs : List (Value × List Int)} {fs : List Ent} (h : Flags w1 wr g gr L s nv (.slice (some ⟨gf, 0, none⟩) n cap) bs rs fs) (hl : bs.length = n) (k : Nat) (b : Bool) :
    Flags w1 (wr.setCell ⟨gf, k, none⟩ (.bool b)) g gr L s nv (.slice (some ⟨gf, 0, none⟩) n cap) (bs.set k b) rs fs := by
  subst hl
  have h2 := Own.set (t := 4) (sz := 1) (n := bs.length) (cap := cap) (xs := bs.map Value.bool) h k (.bool b)
  unfold Flags eBools
  rw [List.length_set, List.map_set]
  exact h2
theorem flags_end {w1 wr w2 : World} {g gr : Nat} {L s : Int} {nv fv : Value} {bs : List Bool} {rs : List (Value × List Int)} {fs : List Ent} (h : Flags w1 wr g gr L s nv fv bs rs fs) (hs : ∀ p ∈ rs, ∀ x ∈ p.2, Small x) (hL : Small L) (hS : Small s)
    (hw : w2 = (((wr.setCell ⟨gr, 0, none⟩ (.int .i64 L)).setCell ⟨gr, 1, none⟩ (.int .i64 s)).setCell ⟨gr, 2, none⟩ nv).setCell ⟨gr, 3, none⟩ fv) :
    DfaOwn w1 w2 (.agg #[.int .i64 L, .int .i64 s, nv, fv]) ⟨L, s, rs.map (·.2), bs⟩ ∧
      w2.cell? ⟨gr, 0, none⟩ = some (.int .i64 L) ∧ w2.cell? ⟨gr, 1, none⟩ = some (.int .i64 s) ∧ w2.cell? ⟨gr, 2, none⟩ = some nv ∧ w2.cell? ⟨gr, 3, none⟩ = some fv :=
  own_end (Own.three h) (fun e he => by simp only [List.mem_cons, List.mem_append] at he ⊢; rcases he with rfl | rfl | he <;> simp [*]) hs hL hS hw
end Go.Proofs.YtfiknbdpjnpkdaaDoor.Df
