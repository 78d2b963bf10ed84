/- The walks of package dfa's Copy and Not. -/
import Derived.Test.YtbciefeipiphiaaDoorDfaW
import Derived.Test.YtbciefeipiphiaaDoorRegL
import Derived.Deep.Light
import Derived.Deep.RegionHeld3
import Derived.Deep.RegionLaw
import Derived.Lib.SliceRun
import Derived.Deep.DeepCutAuto
namespace Go.Proofs.YtbciefeipiphiaaDoor.Df
open Go.RowKit Go.IntWalk Go.Proofs.YtbciefeipiphiaaDoor.Wd Go.Proofs.YtbciefeipiphiaaDoor.Wo

set_option maxRecDepth 100000 in
theorem clone_any (A : Option Addr) (c : Nat) (l : List Int) (w : World) (hA : IntsAt w w.heap.size A l) (h0 : 0 < l.length) (hl : l.length ≤ 17592186044416) :
    Calls Tryd.prog 51 #[.slice A l.length c] w fun e w' => Hid (∃ A' cap, e = .returned (.slice A' l.length cap) ∧ Own w w' [eInts (.slice A' l.length cap) l] []) := by
  obtain ⟨ad, rfl, _⟩ := hA.at_ 0 h0
  have HA := Lib.hid hA
  clear hA
  have HO := Lib.hid (Own.lit (own_start w) 3 1 0 #[] rfl (by simp [maxLen]))
  go_enter Tryd.func51, Tryd.ntmps51
  have hnil : ∀ W, (binOp .eql 27 (.slice (some ad) l.length c) (.slice none 0 0)).run Tryd.prog W = .ok (.bool false) W := fun W => Lib.run_eql_slice_nil W _ _ _ _ _ _ _ Tryd.underlying27
  go_wp2_with (at_builtin; refine own_ints (l := []) rfl _ _ rfl rfl HO.out rfl (HA.out.on (below_alloc _ _)) h0 (by simpa using hl) ?_)
  intro g cap w2 ho
  have HO2 := Lib.hid ho
  clear ho HO
  go_wp2
  go_ret
  exact ⟨_, _, rfl, by simpa using HO2.out⟩

/-! ### an automaton that is built -/
abbrev zero4 : List Value := [.int .i64 0, .int .i64 0, .slice none 0 0, .slice none 0 0]
/-- The rows and the flags so far; the struct at block g; xs: what is owned besides. -/
def Build (w1 wr : World) (g : Nat) (xs : List Ent) (L s : Int) (rows : List (List Int)) (bs : List Bool) (nv fv : Value) (rs : List (Value × List Int)) : Prop :=
  rs.map (·.2) = rows ∧ Own w1 wr (eRows nv (rs.map (·.1)) :: eBools fv bs :: eDfa g [.int .i64 L, .int .i64 s, nv, fv] :: xs) (eEach rs)
theorem take_succ_map {α β : Type} (f : α → β) (l : List α) {k : Nat} {x : α} (h : l[k]? = some x) : (l.take (k + 1)).map f = (l.take k).map f ++ [f x] := by
  obtain ⟨h1, h2⟩ := List.getElem?_eq_some_iff.1 h
  rw [← List.take_append_getElem h1, List.map_append, h2]; rfl
theorem take_succ' {α : Type} (l : List α) {k : Nat} {x : α} (h : l[k]? = some x) : l.take (k + 1) = l.take k ++ [x] := by
  obtain ⟨h1, h2⟩ := List.getElem?_eq_some_iff.1 h
  rw [← List.take_append_getElem h1, h2]
theorem Build.c2 {w1 wr : World} {g : Nat} {xs : List Ent} {L s : Int} {rows : List (List Int)} {bs : List Bool} {nv fv : Value} {rs : List (Value × List Int)} (h : Build w1 wr g xs L s rows bs nv fv rs) :
    wr.cell? ⟨g, 2, none⟩ = some nv ∧ wr.frozen? ⟨g, 2, none⟩ = false := h.2.dcell (l := [.int .i64 L, .int .i64 s, nv, fv]) (by simp) rfl
theorem Build.c3 {w1 wr : World} {g : Nat} {xs : List Ent} {L s : Int} {rows : List (List Int)} {bs : List Bool} {nv fv : Value} {rs : List (Value × List Int)} (h : Build w1 wr g xs L s rows bs nv fv rs) :
    wr.cell? ⟨g, 3, none⟩ = some fv ∧ wr.frozen? ⟨g, 3, none⟩ = false := h.2.dcell (l := [.int .i64 L, .int .i64 s, nv, fv]) (by simp) rfl
theorem Build.lt {w1 wr : World} {g : Nat} {xs : List Ent} {L s : Int} {rows : List (List Int)} {bs : List Bool} {nv fv : Value} {rs : List (Value × List Int)} (h : Build w1 wr g xs L s rows bs nv fv rs) :
    w1.heap.size ≤ g ∧ g < wr.heap.size := h.2.lt (ad := ⟨g, 0, none⟩) (xs := [.int .i64 L, .int .i64 s, nv, fv]) (t := 25) (sz := 4) (n := 1) (cap := 1) (by simp [eDfa])
theorem Build.on {w1 wr w2 : World} {g : Nat} {xs : List Ent} {L s : Int} {rows : List (List Int)} {bs : List Bool} {nv fv : Value} {rs : List (Value × List Int)} (h : Build w1 wr g xs L s rows bs nv fv rs) (hb : Below wr.heap.size wr w2) :
    Build w1 w2 g xs L s rows bs nv fv rs := ⟨h.1, h.2.on hb⟩
/-- What the two slices look like. -/
theorem Build.form {w1 wr : World} {g : Nat} {xs : List Ent} {L s : Int} {rows : List (List Int)} {bs : List Bool} {nv fv : Value} {rs : List (Value × List Int)} (h : Build w1 wr g xs L s rows bs nv fv rs) :
    ∃ A c F cf, nv = .slice A rows.length c ∧ fv = .slice F bs.length cf := by
  obtain ⟨A, c, h1, _⟩ := h.2.form (e := eRows nv (rs.map (·.1))) (by simp)
  obtain ⟨F, cf, h2, _⟩ := h.2.form (e := eBools fv bs) (by simp)
  simp only [eRows, eBools, List.length_map] at h1 h2
  exact ⟨A, c, F, cf, by rw [h1, ← h.1, List.length_map], h2⟩
/-- What is built is laid into the result's own block, and reads as an automaton. -/
theorem build_end {w1 wr w2 : World} {g gr : Nat} {xs : List Ent} {L s : Int} {rows : List (List Int)} {bs : List Bool} {nv fv : Value} {rs : List (Value × List Int)} (h : Build w1 wr g (eDfa gr zero4 :: xs) L s rows bs nv fv rs)
    (hs : ∀ r ∈ rows, ∀ x ∈ r, Small x) (hL : Small L) (hS : Small s) (hw : w2 = (((wr.setCell ⟨gr, 0, none⟩ (.int .i64 L)).setCell ⟨gr, 1, none⟩ (.int .i64 s)).setCell ⟨gr, 2, none⟩ nv).setCell ⟨gr, 3, none⟩ fv) :
    DfaOwn w1 w2 (.agg #[.int .i64 L, .int .i64 s, nv, fv]) ⟨L, s, rows, bs⟩ ∧
      w2.cell? ⟨gr, 0, none⟩ = some (.int .i64 L) ∧ w2.cell? ⟨gr, 1, none⟩ = some (.int .i64 s) ∧ w2.cell? ⟨gr, 2, none⟩ = some nv ∧ w2.cell? ⟨gr, 3, none⟩ = some fv := by
  subst hw
  have h2 := (((h.2.four.dset 0 (.int .i64 L)).dset 1 (.int .i64 s)).dset 2 nv).dset 3 fv
  refine ⟨⟨nv, fv, rs, rfl, h.1.symm, h2.two.fin.two.fin.only.weak (fun e he => ?_), (fun p hp => hs _ (by rw [← h.1]; exact List.mem_map.2 ⟨p, hp, rfl⟩)), hL, hS⟩,
    (h2.dcell (g := gr) (l := [.int .i64 L, .int .i64 s, nv, fv]) (by simp) rfl).1, (h2.dcell (g := gr) (l := [.int .i64 L, .int .i64 s, nv, fv]) (by simp) rfl).1, (h2.dcell (g := gr) (l := [.int .i64 L, .int .i64 s, nv, fv]) (by simp) rfl).1, (h2.dcell (g := gr) (l := [.int .i64 L, .int .i64 s, nv, fv]) (by simp) rfl).1⟩
  simp only [List.mem_cons] at he ⊢
  rcases he with he | he | he
  · exact .inr (.inl he)
  · exact .inl he
  · exact .inr (.inr he)
/-- The zero automaton is laid into the result's own block. -/
theorem res_bad {w1 wr w2 : World} {gr : Nat} {es fs : List Ent} (h : Own w1 wr (eDfa gr zero4 :: es) fs)
    (hw : w2 = (((wr.setCell ⟨gr, 0, none⟩ (.int .i64 0)).setCell ⟨gr, 1, none⟩ (.int .i64 0)).setCell ⟨gr, 2, none⟩ (.slice none 0 0)).setCell ⟨gr, 3, none⟩ (.slice none 0 0)) :
    Below w1.heap.size w1 w2 ∧ w2.cell? ⟨gr, 0, none⟩ = some (.int .i64 0) ∧ w2.cell? ⟨gr, 1, none⟩ = some (.int .i64 0) ∧ w2.cell? ⟨gr, 2, none⟩ = some (.slice none 0 0) ∧ w2.cell? ⟨gr, 3, none⟩ = some (.slice none 0 0) := by
  subst hw
  have h2 := (((h.dset 0 (.int .i64 0)).dset 1 (.int .i64 0)).dset 2 (.slice none 0 0)).dset 3 (.slice none 0 0)
  exact ⟨h2.below, (h2.dcell (g := gr) (l := zero4) (by simp) rfl).1, (h2.dcell (g := gr) (l := zero4) (by simp) rfl).1, (h2.dcell (g := gr) (l := zero4) (by simp) rfl).1, (h2.dcell (g := gr) (l := zero4) (by simp) rfl).1⟩
/-- The result's own block, as it was made. -/
theorem Build.res {w1 wr : World} {g gr : Nat} {xs : List Ent} {L s : Int} {rows : List (List Int)} {bs : List Bool} {nv fv : Value} {rs : List (Value × List Int)} (h : Build w1 wr g (eDfa gr zero4 :: xs) L s rows bs nv fv rs) {j : Nat} (hj : j < 4) :
    wr.cell? ⟨gr, j, none⟩ = some zero4[j] ∧ wr.frozen? ⟨gr, j, none⟩ = false := h.2.dcell (g := gr) (l := zero4) (by simp) (List.getElem?_eq_getElem hj)
theorem Build.str {w1 wr : World} {g : Nat} {xs : List Ent} {L s : Int} {rows : List (List Int)} {bs : List Bool} {nv fv : Value} {rs : List (Value × List Int)} (h : Build w1 wr g xs L s rows bs nv fv rs) :
    wr.cell? ⟨g, 0, none⟩ = some (.int .i64 L) ∧ wr.cell? ⟨g, 1, none⟩ = some (.int .i64 s) ∧ wr.cell? ⟨g, 2, none⟩ = some nv ∧ wr.cell? ⟨g, 3, none⟩ = some fv :=
  ⟨(h.2.dcell (l := [.int .i64 L, .int .i64 s, nv, fv]) (by simp) rfl).1, (h.2.dcell (l := [.int .i64 L, .int .i64 s, nv, fv]) (by simp) rfl).1, h.c2.1, h.c3.1⟩
/-- A row is laid to what is built. -/
theorem build_row {w1 w2 w3 : World} {g : Nat} {xs : List Ent} {L s : Int} {rows : List (List Int)} {bs : List Bool} {nv fv nv' x : Value} {rs : List (Value × List Int)} {r : List Int} (hm : rs.map (·.2) = rows)
    (h : Own w1 w3 (eRows nv' (rs.map (·.1) ++ [x]) :: eInts x r :: eBools fv bs :: eDfa g [.int .i64 L, .int .i64 s, nv, fv] :: xs) (eEach rs)) (hw : w2 = w3.setCell ⟨g, 2, none⟩ nv') :
    Build w1 w2 g xs L s (rows ++ [r]) bs nv' fv (rs ++ [(x, r)]) := by
  subst hw
  have h2 := (h.two.fin).three.dset 2 nv'
  refine ⟨by rw [List.map_append, hm]; rfl, ?_⟩
  have h3 := h2.three'.weak (fs' := eEach (rs ++ [(x, r)])) (fun e he => by
    unfold eEach at he ⊢
    rw [List.map_append] at he
    rcases List.mem_append.1 he with he | he
    · exact List.mem_cons_of_mem _ he
    · simp at he; subst he; exact List.mem_cons_self)
  simpa using h3
/-- A flag is laid to what is built. -/
theorem build_flag {w1 w2 w3 : World} {g : Nat} {xs : List Ent} {L s : Int} {rows : List (List Int)} {bs : List Bool} {nv fv fv' : Value} {rs : List (Value × List Int)} {b : Bool} (hm : rs.map (·.2) = rows)
    (h : Own w1 w3 (eBools fv' (bs ++ [b]) :: eRows nv (rs.map (·.1)) :: eDfa g [.int .i64 L, .int .i64 s, nv, fv] :: xs) (eEach rs)) (hw : w2 = w3.setCell ⟨g, 3, none⟩ fv') :
    Build w1 w2 g xs L s rows (bs ++ [b]) nv fv' rs := by
  subst hw
  exact ⟨hm, ((h.three.dset 3 fv').three').two⟩

theorem Good.small_L {d : Aut} (g : Good d) : Small d.L := ⟨by have := g.l1; omega, by have := g.l6; omega⟩
theorem Good.small_s {d : Aut} (g : Good d) : Small d.s := ⟨by have := g.st.1; omega, by have := g.st.2; have := g.n40; omega⟩
theorem good_small {d : Aut} (g : Good d) : ∀ r ∈ d.next, ∀ x ∈ r, Small x := fun r hr x hx => by
  have h := g.go r hr x hx
  have := g.n40
  exact ⟨by have := h.1; omega, by have := h.2; omega⟩


/-! ### a copy, all of it still written to -/
theorem Own.allDone {w0 w : World} : ∀ {es fs : List Ent}, Own w0 w es fs → Own w0 w [] (es ++ fs)
  | [], _, h => h
  | e :: es, fs, h => (Own.allDone h.fin).weak fun x hx => by
    simp only [List.cons_append, List.mem_cons, List.mem_append] at hx ⊢
    rcases hx with rfl | hx | hx
    · exact .inr (.inl rfl)
    · exact .inl hx
    · exact .inr (.inr hx)
/-- The rows' blocks are apart from each other. -/
def FarR (rs : List (Value × List Int)) : Prop := (eEach rs).Pairwise far
theorem farR_nil : FarR [] := List.Pairwise.nil
theorem farR_snoc {w0 w : World} {x : Value} {r : List Int} {es : List Ent} {rs : List (Value × List Int)} (h : FarR rs) (ho : Own w0 w (eInts x r :: es) (eEach rs)) : FarR (rs ++ [(x, r)]) := by
  unfold FarR eEach
  rw [List.map_append, List.pairwise_append]
  refine ⟨h, by simp, fun a ha b hb => ?_⟩
  simp at hb; subst hb
  exact far_symm (ho.off _ List.mem_cons_self a ha)
theorem own_all {w0 w : World} {es fs : List Ent} (h : Own w0 w es fs) (hf : fs.Pairwise far) : Own w0 w (es ++ fs) [] :=
  ⟨h.below, fun e he => h.at_ he, fun e he => by simp at he, List.pairwise_append.2 ⟨h.apart, hf, h.off⟩, fun e _ f hf => by simp at hf⟩
theorem Own.front {w0 w : World} {es xs fs : List Ent} (h : Own w0 w (es ++ xs) fs) : Own w0 w es fs := by
  obtain ⟨p1, _, _⟩ := List.pairwise_append.1 h.apart
  exact ⟨h.below, fun e he => h.each e (List.mem_append_left _ he), h.done, p1, fun e he f hf => h.off e (List.mem_append_left _ he) f hf⟩
theorem own_cut {w0 w : World} {es fs : List Ent} (h : Own w0 w (es ++ fs) []) : Own w0 w es fs := by
  obtain ⟨p1, _, p3⟩ := List.pairwise_append.1 h.apart
  exact ⟨h.below, fun e he => h.each e (List.mem_append_left _ he), fun e he => h.each e (List.mem_append_right _ he), p1, p3⟩
/-- A row that is owned and not empty has a block. -/
theorem owns_some {w w0 : World} {t : TypeId} {sz n : Nat} {v : Value} {xs : List Value} (h : w.ownsRow w0.heap.size t sz v n xs) (hn : 0 < n) : ∃ g cap, v = .slice (some ⟨g, 0, none⟩) n cap := by
  rcases h.2 with ⟨_, h0⟩ | ⟨g, cap, cur, e1, _⟩
  · omega
  · exact ⟨g, cap, e1⟩
theorem many_bool (l : List Bool) : ∀ (u : Value), u ∈ l.map Value.bool → u.oneCell' = true := by
  intro u hu
  obtain ⟨z, _, rfl⟩ := List.mem_map.1 hu
  rfl
/-- 'append(l, m...)' of at least one bool. -/
theorem own_boolss {w0 w : World} {ops : Array Oper} {rest : List Oper} {o : Oper} {a : Act} {Q : Exit → Act → World → Prop} (hgd : o.guard = none) (s x : Operand)
    (ho : o.op = .call { callee := .builtin .append, args := #[s, x], argTypes := #[23, 23] })
    {v : Value} {l : List Bool} {es fs : List Ent} (hs : a.eval s = v) (h : Own w0 w (eBools v l :: es) fs) {ad : Addr} {c : Nat} {m : List Bool} (hx : a.eval x = .slice (some ad) m.length c) (hA : BoolsAt w w.heap.size (some ad) m) (hm : 0 < m.length) (hb : l.length + m.length ≤ 17592186044416)
    (hK : ∀ g cap w', Own w0 w' (eBools (.slice (some ⟨g, 0, none⟩) (l.length + m.length) cap) (l ++ m) :: es) fs → wpList Tryd.prog ops Q rest (a.put o.dst (.slice (some ⟨g, 0, none⟩) (l.length + m.length) cap)) w') : wpList Tryd.prog ops Q (o :: rest) a w := by
  refine own_append hgd s x _ ho Tryd.underlying23 infoBool rfl (by decide) hs h (m.map Value.bool) hx (by simp) (fun j u hj => ?_) (many_bool m) hm (by unfold maxLen; omega) (by omega) ?_
  · obtain ⟨ad', e, _, hc⟩ := hA j u hj
    obtain rfl := Option.some.inj e
    exact hc
  · intro g cap w' ho
    refine hK g cap w' ?_
    unfold eBools
    simpa using ho
set_option maxRecDepth 100000 in
theorem cloneB_any (A : Option Addr) (c : Nat) (l : List Bool) (w : World) (hA : BoolsAt w w.heap.size A l) (h0 : 0 < l.length) (hl : l.length ≤ 17592186044416) :
    Calls Tryd.prog 72 #[.slice A l.length c] w fun e w' => Hid (∃ A' cap, e = .returned (.slice A' l.length cap) ∧ Own w w' [eBools (.slice A' l.length cap) l] []) := by
  obtain ⟨ad, rfl, _⟩ := hA.at_ (List.getElem?_eq_getElem h0)
  have HA := Lib.hid hA
  clear hA
  have HO := Lib.hid (Own.lit (own_start w) 4 1 0 #[] rfl (by simp [maxLen]))
  go_enter Tryd.func72, Tryd.ntmps72
  have hnil : ∀ W, (binOp .eql 23 (.slice (some ad) l.length c) (.slice none 0 0)).run Tryd.prog W = .ok (.bool false) W := fun W => Lib.run_eql_slice_nil W _ _ _ _ _ _ _ Tryd.underlying23
  go_wp2_with (at_builtin; refine own_boolss (l := []) rfl _ _ rfl rfl HO.out rfl (HA.out.on (below_alloc _ _)) h0 (by simpa using hl) ?_)
  intro g cap w2 ho
  have HO2 := Lib.hid ho
  clear ho HO
  go_wp2
  go_ret
  exact ⟨_, _, rfl, by simpa using HO2.out⟩
/-- An automaton that a call has made, all of it still written to. -/
def DfaNew (w w' : World) (x : Value) (d : Aut) : Prop :=
  ∃ nv fv rs, x = .agg #[.int .i64 d.L, .int .i64 d.s, nv, fv] ∧ d.next = rs.map (·.2) ∧ Own w w' (eRows nv (rs.map (·.1)) :: eBools fv d.fin :: eEach rs) [] ∧ (∀ p ∈ rs, ∀ x ∈ p.2, Small x) ∧ Small d.L ∧ Small d.s
theorem DfaNew.own {w w' : World} {x : Value} {d : Aut} (h : DfaNew w w' x d) : DfaOwn w w' x d := by
  obtain ⟨nv, fv, rs, h1, h2, h3, h4⟩ := h
  exact ⟨nv, fv, rs, h1, h2, (Own.allDone h3).weak fun e he => by rw [List.append_nil]; exact he, h4⟩
theorem DfaNew.base {w w0 w' : World} {x : Value} {d : Aut} (h : DfaNew w0 w' x d) (hb : Below w.heap.size w w0) : DfaNew w w' x d := by
  obtain ⟨nv, fv, rs, h1, h2, h3, h4⟩ := h
  exact ⟨nv, fv, rs, h1, h2, h3.base hb, h4⟩
/-- A copy under way: the struct at block g. -/
def BuildC (w1 wr : World) (g : Nat) (L s : Int) (rows : List (List Int)) (bs : List Bool) (nv fv : Value) (rs : List (Value × List Int)) : Prop :=
  rs.map (·.2) = rows ∧ Own w1 wr (eRows nv (rs.map (·.1)) :: eDfa g [.int .i64 L, .int .i64 s, nv, fv] :: eBools fv bs :: eEach rs) []
theorem BuildC.cell {w1 wr : World} {g : Nat} {L s : Int} {rows : List (List Int)} {bs : List Bool} {nv fv : Value} {rs : List (Value × List Int)} (h : BuildC w1 wr g L s rows bs nv fv rs) {j : Nat} {u : Value} (hj : [Value.int .i64 L, .int .i64 s, nv, fv][j]? = some u) :
    wr.cell? ⟨g, j, none⟩ = some u ∧ wr.frozen? ⟨g, j, none⟩ = false := h.2.dcell (l := [.int .i64 L, .int .i64 s, nv, fv]) (by simp) hj
theorem BuildC.lt {w1 wr : World} {g : Nat} {L s : Int} {rows : List (List Int)} {bs : List Bool} {nv fv : Value} {rs : List (Value × List Int)} (h : BuildC w1 wr g L s rows bs nv fv rs) : w1.heap.size ≤ g ∧ g < wr.heap.size :=
  h.2.lt (ad := ⟨g, 0, none⟩) (xs := [.int .i64 L, .int .i64 s, nv, fv]) (t := 25) (sz := 4) (n := 1) (cap := 1) (by simp [eDfa])
theorem BuildC.on {w1 wr w2 : World} {g : Nat} {L s : Int} {rows : List (List Int)} {bs : List Bool} {nv fv : Value} {rs : List (Value × List Int)} (h : BuildC w1 wr g L s rows bs nv fv rs) (hb : Below wr.heap.size wr w2) : BuildC w1 w2 g L s rows bs nv fv rs := ⟨h.1, h.2.on hb⟩
theorem BuildC.form {w1 wr : World} {g : Nat} {L s : Int} {rows : List (List Int)} {bs : List Bool} {nv fv : Value} {rs : List (Value × List Int)} (h : BuildC w1 wr g L s rows bs nv fv rs) :
    ∃ A c F cf, nv = .slice A rows.length c ∧ fv = .slice F bs.length cf := by
  obtain ⟨A, c, h1, _⟩ := h.2.form (e := eRows nv (rs.map (·.1))) (by simp)
  obtain ⟨F, cf, h2, _⟩ := h.2.form (e := eBools fv bs) (by simp)
  simp only [eRows, eBools, List.length_map] at h1 h2
  exact ⟨A, c, F, cf, by rw [h1, ← h.1, List.length_map], h2⟩
theorem buildC_row {w1 w2 w3 : World} {g : Nat} {L s : Int} {rows : List (List Int)} {bs : List Bool} {nv fv nv' x : Value} {rs : List (Value × List Int)} {r : List Int} (hm : rs.map (·.2) = rows)
    (h : Own w1 w3 (eRows nv' (rs.map (·.1) ++ [x]) :: eInts x r :: eDfa g [.int .i64 L, .int .i64 s, nv, fv] :: eBools fv bs :: eEach rs) []) (hw : w2 = w3.setCell ⟨g, 2, none⟩ nv') :
    BuildC w1 w2 g L s (rows ++ [r]) bs nv' fv (rs ++ [(x, r)]) := by
  subst hw
  have h2 := h.three.dset 2 nv'
  refine ⟨by rw [List.map_append, hm]; rfl, ?_⟩
  have e1 : (rs ++ [(x, r)]).map (·.1) = rs.map (·.1) ++ [x] := by rw [List.map_append]; rfl
  have e2 : eEach (rs ++ [(x, r)]) = eEach rs ++ [eInts x r] := by unfold eEach; rw [List.map_append]; rfl
  rw [e1, e2]
  exact h2.perm ((List.Perm.swap _ _ _).trans ((((List.Perm.swap _ _ _).trans ((List.perm_append_singleton _ _).symm.cons _)).cons _).cons _))
/-- What is owned is laid into the result's own block, and reads as an automaton. -/
theorem own_end {w1 wr w2 : World} {gr : Nat} {es fs : List Ent} {L s : Int} {bs : List Bool} {nv fv : Value} {rs : List (Value × List Int)} (h : Own w1 wr (eDfa gr zero4 :: es) fs) (hm : ∀ e ∈ eRows nv (rs.map (·.1)) :: eBools fv bs :: eEach rs, e ∈ es ++ fs)
    (hs : ∀ p ∈ rs, ∀ x ∈ p.2, Small x) (hL : Small L) (hS : Small s) (hw : w2 = (((wr.setCell ⟨gr, 0, none⟩ (.int .i64 L)).setCell ⟨gr, 1, none⟩ (.int .i64 s)).setCell ⟨gr, 2, none⟩ nv).setCell ⟨gr, 3, none⟩ fv) :
    DfaOwn w1 w2 (.agg #[.int .i64 L, .int .i64 s, nv, fv]) ⟨L, s, rs.map (·.2), bs⟩ ∧
      w2.cell? ⟨gr, 0, none⟩ = some (.int .i64 L) ∧ w2.cell? ⟨gr, 1, none⟩ = some (.int .i64 s) ∧ w2.cell? ⟨gr, 2, none⟩ = some nv ∧ w2.cell? ⟨gr, 3, none⟩ = some fv := by
  subst hw
  have h2 := (((h.dset 0 (.int .i64 L)).dset 1 (.int .i64 s)).dset 2 nv).dset 3 fv
  have hc := fun (j : Nat) (u : Value) (hj : [Value.int .i64 L, .int .i64 s, nv, fv][j]? = some u) => (h2.dcell (g := gr) (l := [.int .i64 L, .int .i64 s, nv, fv]) (by simp) hj).1
  exact ⟨⟨nv, fv, rs, rfl, rfl, (Own.allDone h2.tail).weak hm, hs, hL, hS⟩, hc 0 _ rfl, hc 1 _ rfl, hc 2 _ rfl, hc 3 _ rfl⟩
theorem own_end_new {w1 wr w2 : World} {gr : Nat} {L s : Int} {bs : List Bool} {nv fv : Value} {rs : List (Value × List Int)} (h : Own w1 wr (eDfa gr zero4 :: eRows nv (rs.map (·.1)) :: eBools fv bs :: eEach rs) [])
    (hs : ∀ p ∈ rs, ∀ x ∈ p.2, Small x) (hL : Small L) (hS : Small s) (hw : w2 = (((wr.setCell ⟨gr, 0, none⟩ (.int .i64 L)).setCell ⟨gr, 1, none⟩ (.int .i64 s)).setCell ⟨gr, 2, none⟩ nv).setCell ⟨gr, 3, none⟩ fv) :
    DfaNew w1 w2 (.agg #[.int .i64 L, .int .i64 s, nv, fv]) ⟨L, s, rs.map (·.2), bs⟩ ∧
      w2.cell? ⟨gr, 0, none⟩ = some (.int .i64 L) ∧ w2.cell? ⟨gr, 1, none⟩ = some (.int .i64 s) ∧ w2.cell? ⟨gr, 2, none⟩ = some nv ∧ w2.cell? ⟨gr, 3, none⟩ = some fv := by
  subst hw
  have h2 := (((h.dset 0 (.int .i64 L)).dset 1 (.int .i64 s)).dset 2 nv).dset 3 fv
  have hc := fun (j : Nat) (u : Value) (hj : [Value.int .i64 L, .int .i64 s, nv, fv][j]? = some u) => (h2.dcell (g := gr) (l := [.int .i64 L, .int .i64 s, nv, fv]) (by simp) hj).1
  exact ⟨⟨nv, fv, rs, rfl, rfl, h2.tail, hs, hL, hS⟩, hc 0 _ rfl, hc 1 _ rfl, hc 2 _ rfl, hc 3 _ rfl⟩
theorem dfaNew_zero {w w' : World} (hb : Below w.heap.size w w') : DfaNew w w' (.agg #[.int .i64 0, .int .i64 0, .slice none 0 0, .slice none 0 0]) zeroA :=
  ⟨.slice none 0 0, .slice none 0 0, [], rfl, rfl, ((((own_start w).on hb).nil 4 1).nil 27 1), by simp, ⟨by decide, by decide⟩, ⟨by decide, by decide⟩⟩
/-- What is built is laid into the result's own block; its rows are apart, and all of it is still written to. -/
theorem build_end_new {w1 wr w2 : World} {g gr : Nat} {xs : List Ent} {L s : Int} {rows : List (List Int)} {bs : List Bool} {nv fv : Value} {rs : List (Value × List Int)} (h : Build w1 wr g (eDfa gr zero4 :: xs) L s rows bs nv fv rs) (hfar : FarR rs)
    (hs : ∀ r ∈ rows, ∀ x ∈ r, Small x) (hL : Small L) (hS : Small s) (hw : w2 = (((wr.setCell ⟨gr, 0, none⟩ (.int .i64 L)).setCell ⟨gr, 1, none⟩ (.int .i64 s)).setCell ⟨gr, 2, none⟩ nv).setCell ⟨gr, 3, none⟩ fv) :
    DfaNew w1 w2 (.agg #[.int .i64 L, .int .i64 s, nv, fv]) ⟨L, s, rows, bs⟩ ∧
      w2.cell? ⟨gr, 0, none⟩ = some (.int .i64 L) ∧ w2.cell? ⟨gr, 1, none⟩ = some (.int .i64 s) ∧ w2.cell? ⟨gr, 2, none⟩ = some nv ∧ w2.cell? ⟨gr, 3, none⟩ = some fv := by
  obtain ⟨rfl, h2⟩ := h
  have h3 := own_all (Own.front (es := [eDfa gr zero4, eRows nv (rs.map (·.1)), eBools fv bs]) (xs := eDfa g [.int .i64 L, .int .i64 s, nv, fv] :: xs) h2.four) hfar
  exact own_end_new h3 (fun p hp => hs _ (List.mem_map.2 ⟨p, hp, rfl⟩)) hL hS hw
/-! ### Copy -/
theorem rows_small {d : Aut} {rs : List (Value × List Int)} (h : ∀ r ∈ d.next, ∀ x ∈ r, Small x) (e : rs.map (·.2) = d.next) : ∀ p ∈ rs, ∀ x ∈ p.2, Small x := fun p hp x hx => h p.2 (by rw [← e]; exact List.mem_map.2 ⟨p, hp, rfl⟩) x hx
set_option linter.unusedSimpArgs false in
set_option maxRecDepth 100000 in
set_option maxHeartbeats 4000000 in
theorem copy_ok (v : Value) (d : Aut) (w : World) (h : DfaAt w w.heap.size v d) (g1 : dchk d = 0) :
    Calls Tryd.prog 53 #[v] w fun e w' => Hid (∃ x, e = .returned (.tuple #[x, .nilIface]) ∧ DfaNew w w' x d) := by
  have HV := h
  obtain ⟨L, s, A, c, F, cf, rfl, h⟩ := h
  obtain ⟨w1, hw1, hB1, hX, hd1⟩ := box_dfa w h
  have HB := Lib.hid hB1
  have HW := Lib.hid hw1
  have hres := below_alloc w1 (.cells #[.int .i64 0, .int .i64 0, .slice none 0 0, .slice none 0 0] 25)
  have HX := Lib.hid (hX.on hres)
  have HD := Lib.hid (hd1.on hres)
  have hc0 := HX.out.c0
  have hc1 := HX.out.c1
  have hc2 := HX.out.c2
  have hc3 := HX.out.c3
  have HO := Lib.hid ((own_start w1).dfa (.int .i64 0) (.int .i64 0) (.slice none 0 0) (.slice none 0 0))
  have HV := (HV.on hB1).on hres
  have hsz : w1.heap.size = w.heap.size + 1 := by rw [hw1]; simp
  rw [hsz] at HO
  have HC := Lib.hid (dcheck_ok HV g1)
  have HG : Hid (Good d) := dchk_iff.1 g1
  have hn : d.next.length ≤ 40 := HG.out.n40
  have HE : Hid (d.L = L ∧ d.s = s) := ⟨h.eL, h.es⟩
  have hm0 : 0 < d.fin.length := by have := HG.out.fin; have := HG.out.n1; omega
  have hm4 : d.fin.length ≤ 17592186044416 := by have := HG.out.fin; omega
  clear h hd1 hw1 hX hB1 HV hres hsz g1
  obtain ⟨n, hnn⟩ : ∃ n, d.next.length = n := ⟨_, rfl⟩
  obtain ⟨m, hmm⟩ : ∃ m, d.fin.length = m := ⟨_, rfl⟩
  have HCF := Lib.hid (fun W (hW : BoolsAt W W.heap.size F d.fin) => cloneB_any F cf d.fin W hW hm0 hm4)
  rw [hnn] at hn hc2 HC
  rw [hmm] at hm0 hm4 HCF hc3 HC
  have HXX := HX
  rw [hnn, hmm] at HX HW
  rw [hnn, hmm]
  have HN := Lib.hid hnn
  have HM := Lib.hid hmm
  clear hnn hmm HXX
  go_enter Tryd.func53, Tryd.ntmps53
  go_wp2_with fail
  rw [← HW.out]
  clear HW
  refine HC.out.mono ?_
  rintro e w2 ⟨rfl, hb⟩
  have HX := Lib.hid (HX.out.on hb)
  have HD := Lib.hid (HD.out.on hb)
  have HO2 := Lib.hid (HO.out.on hb)
  clear hb HC hc0 hc1 hc2 hc3 HO
  have HCF := Lib.hid (fun W (hW : Below w2.heap.size w2 W) => HCF.out W (HD.out.on hW).fins)
  have HK : Hid (∀ W, Below w2.heap.size w2 W → W.cell? ⟨w.heap.size, 0, none⟩ = some (.int .i64 L) ∧ W.cell? ⟨w.heap.size, 1, none⟩ = some (.int .i64 s) ∧ W.cell? ⟨w.heap.size, 2, none⟩ = some (.slice A n c) ∧ W.cell? ⟨w.heap.size, 3, none⟩ = some (.slice F m cf)) := fun W hW => ⟨(HX.out.on hW).c0, (HX.out.on hW).c1, (HX.out.on hW).c2, (HX.out.on hW).c3⟩
  obtain ⟨gr, hgr⟩ : ∃ gr, gr = w.heap.size + 1 := ⟨_, rfl⟩
  rw [← hgr] at HO2
  rw [← hgr]
  clear hgr
  go_wp2_with fail
  have HO3 : Hid (Own w2 w2.drew [] []) := (own_start w2).on (Below.refl _ _).drew
  go_cut [5] (fun pv wc => Hid (∃ gm fv, pv = .pointer (some ⟨gm, 0, none⟩) ∧ Own w2 wc [eDfa gm [.int .i64 L, .int .i64 s, .slice none 0 0, fv], eBools fv d.fin] []))
  case first =>
    as_aux_lemma =>
      refine wp_region_Z (fun W => W.cell? ⟨w.heap.size, 0, none⟩ = some (.int .i64 L) ∧ W.cell? ⟨w.heap.size, 1, none⟩ = some (.int .i64 s) ∧ W.cell? ⟨w.heap.size, 2, none⟩ = some (.slice A n c) ∧ W.cell? ⟨w.heap.size, 3, none⟩ = some (.slice F m cf)) 9 (by kernel_rfl) (HK.out _ (Below.refl _ _).drew) (fun hHeld => ?_)
      refine wpZ_take (i := 0) (v := ?_) rfl (by kernel_rfl) (by kernel_rfl) (by kernel_rfl) (by kernel_rfl) (fun _ _ _ h => h) (Or.inl ⟨by rfl, ?_⟩) hHeld ?_
      rotate_left
      · (go_light; intro w9 hSw; (try dsimp only at hSw); go_simp; try with_reducible rfl)
      try simp only [Act.put, List.setIfInBounds_toArray, List.set_cons_zero, List.set_cons_succ]
      refine wpZ_take (i := 1) (v := ?_) rfl (by kernel_rfl) (by kernel_rfl) (by kernel_rfl) (by kernel_rfl) (fun _ _ _ h => h) (Or.inl ⟨by rfl, ?_⟩) hHeld ?_
      rotate_left
      · (go_light; intro w9 hSw; (try dsimp only at hSw); go_simp; try with_reducible rfl)
      try simp only [Act.put, List.setIfInBounds_toArray, List.set_cons_zero, List.set_cons_succ]
      refine wpZ_take (i := 2) (v := ?_) rfl (by kernel_rfl) (by kernel_rfl) (by kernel_rfl) (by kernel_rfl) (fun _ _ _ h => h) (Or.inl ⟨by rfl, ?_⟩) hHeld ?_
      rotate_left
      · (go_light; intro w9 hSw; (try dsimp only at hSw); go_simp; try with_reducible rfl)
      try simp only [Act.put, List.setIfInBounds_toArray, List.set_cons_zero, List.set_cons_succ]
      refine wpZ_take (i := 3) (v := ?_) rfl (by kernel_rfl) (by kernel_rfl) (by kernel_rfl) (by kernel_rfl) (fun _ _ _ h => h) (Or.inl ⟨by rfl, ?_⟩) hHeld ?_
      rotate_left
      · (go_light; intro w9 hSw; (try dsimp only at hSw); go_simp; try with_reducible rfl)
      try simp only [Act.put, List.setIfInBounds_toArray, List.set_cons_zero, List.set_cons_succ]
      refine wpZ_take (i := 4) (v := ?_) rfl (by kernel_rfl) (by kernel_rfl) (by kernel_rfl) (by kernel_rfl) (fun _ _ _ h => h) (Or.inl ⟨by rfl, ?_⟩) hHeld ?_
      rotate_left
      · (go_light; intro w9 hSw; (try dsimp only at hSw); go_simp; try with_reducible rfl)
      try simp only [Act.put, List.setIfInBounds_toArray, List.set_cons_zero, List.set_cons_succ]
      refine wpZ_take (i := 5) (v := ?_) rfl (by kernel_rfl) (by kernel_rfl) (by kernel_rfl) (by kernel_rfl) (fun _ _ _ h => h) (Or.inl ⟨by rfl, ?_⟩) hHeld ?_
      rotate_left
      · (go_light; intro w9 hSw; (try dsimp only at hSw); go_simp; try with_reducible rfl)
      try simp only [Act.put, List.setIfInBounds_toArray, List.set_cons_zero, List.set_cons_succ]
      refine wpZ_pair (i := 6) (j := 8) rfl rfl (by kernel_rfl) (fun K hK => ?_) (fun K hK => ?_)
      · go_simp
        refine (HCF.out _ (HO3.out.below)).mono ?_
        rintro e w6 he
        obtain ⟨A6, k6, h6, ho6⟩ := he.out
        subst h6
        have HO6 := Lib.hid (HO3.out.join ho6)
        clear he ho6
        try simp only []
        refine hK.out _ _ (fun _ => HK.out _ (HO6.out.below)) (fun hHeld9 => ?_)
        replace hHeld := hHeld9 (by decide)
        clear hHeld9
        clear hK K
        try simp only [Act.put, List.setIfInBounds_toArray, List.set_cons_zero, List.set_cons_succ]
        refine wpZ_take (i := 7) (v := ?_) rfl (by kernel_rfl) (by kernel_rfl) (by kernel_rfl) (by kernel_rfl) (fun _ _ _ h => h) (Or.inl ⟨by rfl, ?_⟩) hHeld ?_
        rotate_left
        · (go_light; intro w9 hSw; (try dsimp only at hSw); go_simp; try with_reducible rfl)
        try simp only [Act.put, List.setIfInBounds_toArray, List.set_cons_zero, List.set_cons_succ]
        refine wpZ_one (i := 8) rfl (by kernel_rfl) (fun K hK => ?_)
        go_simp
        have HO8 := Lib.hid (HO6.out.dfa (.int .i64 0) (.int .i64 0) (.slice none 0 0) (.slice none 0 0))
        refine hK.out _ _ (fun _ => HK.out _ (HO8.out.below)) (fun hHeld9 => ?_)
        replace hHeld := hHeld9 (by decide)
        clear hHeld9
        clear hK K
        try simp only [Act.put, List.setIfInBounds_toArray, List.set_cons_zero, List.set_cons_succ]
        refine wpZ_one (i := 9) rfl (by kernel_rfl) (fun K hK => ?_)
        obtain ⟨hr0, hf0⟩ := HO8.out.dcell (g := w6.heap.size) (l := zero4) (j := 0) (by simp) rfl
        obtain ⟨hr1, hf1⟩ := HO8.out.dcell (g := w6.heap.size) (l := zero4) (j := 1) (by simp) rfl
        obtain ⟨hr2, hf2⟩ := HO8.out.dcell (g := w6.heap.size) (l := zero4) (j := 2) (by simp) rfl
        obtain ⟨hr3, hf3⟩ := HO8.out.dcell (g := w6.heap.size) (l := zero4) (j := 3) (by simp) rfl
        go_simp
        refine hK.out _ _ (fun k => absurd rfl k) (fun _ => ?_)
        clear hK K
        try simp only [Act.put, List.setIfInBounds_toArray, List.set_cons_zero, List.set_cons_succ]
        refine wpZ_done (by kernel_rfl) ?_ _
        have HEnd := Lib.hid (HO6.out.dfa (.int .i64 L) (.int .i64 s) (.slice none 0 0) (.slice A6 m k6))
        clear hHeld
        go_wp2_with fail
        go_meet
        exact ⟨_, _, rfl, HEnd.out⟩
      · go_simp
        have HO8 := Lib.hid (HO3.out.dfa (.int .i64 0) (.int .i64 0) (.slice none 0 0) (.slice none 0 0))
        refine hK.out _ _ (fun _ => HK.out _ (HO8.out.below)) (fun hHeld9 => ?_)
        replace hHeld := hHeld9 (by decide)
        clear hHeld9
        clear hK K
        try simp only [Act.put, List.setIfInBounds_toArray, List.set_cons_zero, List.set_cons_succ]
        replace HO8 : Hid (Own w2 _ [eDfa w2.heap.size zero4] []) := HO8
        refine wpZ_one (i := 6) rfl (by kernel_rfl) (fun K hK => ?_)
        go_simp
        refine (HCF.out _ (HO8.out.below)).mono ?_
        rintro e w6 he
        obtain ⟨A6, k6, h6, ho6⟩ := he.out
        subst h6
        have HO6 := Lib.hid (HO8.out.join ho6)
        clear he ho6
        try simp only []
        refine hK.out _ _ (fun _ => HK.out _ (HO6.out.below)) (fun hHeld9 => ?_)
        replace hHeld := hHeld9 (by decide)
        clear hHeld9
        clear hK K
        try simp only [Act.put, List.setIfInBounds_toArray, List.set_cons_zero, List.set_cons_succ]
        refine wpZ_take (i := 7) (v := ?_) rfl (by kernel_rfl) (by kernel_rfl) (by kernel_rfl) (by kernel_rfl) (fun _ _ _ h => h) (Or.inl ⟨by rfl, ?_⟩) hHeld ?_
        rotate_left
        · (go_light; intro w9 hSw; (try dsimp only at hSw); go_simp; try with_reducible rfl)
        try simp only [Act.put, List.setIfInBounds_toArray, List.set_cons_zero, List.set_cons_succ]
        refine wpZ_one (i := 9) rfl (by kernel_rfl) (fun K hK => ?_)
        obtain ⟨hr0, hf0⟩ := HO6.out.dcell (g := w2.heap.size) (l := zero4) (j := 0) (by simp) rfl
        obtain ⟨hr1, hf1⟩ := HO6.out.dcell (g := w2.heap.size) (l := zero4) (j := 1) (by simp) rfl
        obtain ⟨hr2, hf2⟩ := HO6.out.dcell (g := w2.heap.size) (l := zero4) (j := 2) (by simp) rfl
        obtain ⟨hr3, hf3⟩ := HO6.out.dcell (g := w2.heap.size) (l := zero4) (j := 3) (by simp) rfl
        go_simp
        refine hK.out _ _ (fun k => absurd rfl k) (fun _ => ?_)
        clear hK K
        try simp only [Act.put, List.setIfInBounds_toArray, List.set_cons_zero, List.set_cons_succ]
        refine wpZ_done (by kernel_rfl) ?_ _
        have HEnd := Lib.hid (((((HO6.out.two).dset 0 (.int .i64 L)).dset 1 (.int .i64 s)).dset 2 (.slice none 0 0)).dset 3 (.slice A6 m k6))
        clear hHeld
        go_wp2_with fail
        go_meet
        exact ⟨_, _, rfl, HEnd.out⟩
  case rest =>
    obtain ⟨g, fv, rfl, hown⟩ := hcut.out
    have HS : Hid (BuildC w2 wc g L s (d.next.take 0) d.fin (.slice none 0 0) fv []) := ⟨rfl, hown.nil 27 1⟩
    have hc2 := (HX.out.on hown.below).c2
    clear hcut hown HCF HK HO3
    go_wp2
    clear hc2
    go_loopw [25] (fun i wr => ∃ (k : Nat), k ≤ n ∧ i = .int .i64 k ∧ Hid (∃ nv rs, BuildC w2 wr g L s (d.next.take k) d.fin nv fv rs)) (fun i _ => n - (intOf i).toNat)
    case atStart => exact ⟨0, by omega, rfl, _, _, HS.out⟩
    case round =>
      clear HS
      obtain ⟨k, hk, rfl, HS⟩ := hrel
      obtain ⟨nv, rs, ho⟩ := HS.out
      have HO := Lib.hid ho
      have hbw := ho.2.below
      have hDw := HD.out.on hbw
      clear HS ho
      by_cases hlt : k < n
      · as_aux_lemma =>
          have hkl : k < d.next.length := by rw [HN.out]; exact hlt
          obtain ⟨ad, A', c', rfl, hadb, hcell, hrc, hcc, hri⟩ := hDw.rows k _ (List.getElem?_eq_getElem hkl)
          have hrl := HG.out.row _ (List.getElem_mem hkl)
          have hL1 := HG.out.l1
          have hL6 := HG.out.l6
          have HCl := Lib.hid (fun W (hb : Below wr.heap.size wr W) => clone_any A' c' d.next[k] W (hri.on hb) (by omega) (by omega))
          have hc2 := (HO.out.cell (j := 2) rfl).1
          clear hrl hL1 hL6 hri hrc hcc hDw hbw
          go_wp2_with fail
          have HLen : Hid ((rs.map (·.1)).length < 1099511627776) := by
            have := congrArg List.length HO.out.1
            rw [List.length_map, List.length_take] at this
            unfold Hid; rw [List.length_map]; omega
          go_region_law
            (first
              | (refine step_own_row (by rfl) _ _ (by rfl) (by rfl) HO3.out.two (by rfl) (by rfl) HLen.out ?_; intro g4 cap4 w4 ho4; have HO4 := Lib.hid ho4; have hk4 := (ho4.dcell (g := g) (l := [.int .i64 L, .int .i64 s, nv, fv]) (j := 2) (by simp) rfl); have hk5 := hk4.1; have hk6 := hk4.2; clear ho4 hk4)
              | (go_simp; go_at_call 51; refine (HCl.out _ (Below.refl _ _).drew).mono ?_; rintro e w3 he; obtain ⟨Ax, cx, h1, ho⟩ := he.out; subst h1; have HO3 := Lib.hid ((HO.out.2.on (Below.refl _ _).drew).join ho); have hk0 := (HO.out.on ((Below.refl _ _).drew.trans ho.below)); have hk3 := (hk0.cell (j := 2) rfl).1; have hk3l := hk0.lt.2; clear ho hk0; try simp only []))
          all_goals
            have HB5 : Hid (∃ nv' rs', BuildC w2 (w4.setCell ⟨g, 2, none⟩ (.slice (some ⟨g4, 0, none⟩) (rs.length + 1) cap4)) g L s (d.next.take (k + 1)) d.fin nv' fv rs') := by
              have h4 := HO4.out
              rw [List.length_map] at h4
              rw [take_succ' _ (List.getElem?_eq_getElem hkl)]
              exact ⟨_, _, buildC_row HO.out.1 h4 rfl⟩
            clear HO3 HO4 HO HCl hk3 hk3l hk5 hk6 hcell hc2 HLen
            go_wp2
            go_roundw
            case rel => exact ⟨k + 1, by omega, by go_num, HB5⟩
            case measure => simp [intOf]; omega
      · obtain rfl : k = n := by omega
        have hG2 := HO.out
        rw [List.take_of_length_le (by rw [HN.out]; exact Nat.le_refl _)] at hG2
        have hsm := rows_small (good_small HG.out) hG2.1
        have hL9 : Small L := by rw [← HE.out.1]; exact HG.out.small_L
        have hs9 : Small s := by rw [← HE.out.2]; exact HG.out.small_s
        obtain ⟨A2, c2, F2, cf2, e1, e2⟩ := hG2.form
        rw [HN.out] at e1
        rw [HM.out] at e2
        subst e1 e2
        obtain ⟨hg0, _⟩ := hG2.cell (j := 0) rfl
        obtain ⟨hg1, _⟩ := hG2.cell (j := 1) rfl
        obtain ⟨hg2, _⟩ := hG2.cell (j := 2) rfl
        obtain ⟨hg3, _⟩ := hG2.cell (j := 3) rfl
        have hJ := (HO2.out.join hG2.2.two.tail).perm (List.perm_append_singleton _ _)
        have HJ := Lib.hid hJ
        obtain ⟨hr0, hf0⟩ := HJ.out.dcell (g := gr) (l := zero4) (j := 0) (by simp) rfl
        obtain ⟨hr1, hf1⟩ := HJ.out.dcell (g := gr) (l := zero4) (j := 1) (by simp) rfl
        obtain ⟨hr2, hf2⟩ := HJ.out.dcell (g := gr) (l := zero4) (j := 2) (by simp) rfl
        obtain ⟨hr3, hf3⟩ := HJ.out.dcell (g := gr) (l := zero4) (j := 3) (by simp) rfl
        have HEnd := Lib.hid (own_end_new HJ.out hsm hL9 hs9 rfl)
        have HR : Hid (rs.map (·.2) = d.next) := hG2.1
        have hdd : (⟨L, s, d.next, d.fin⟩ : Aut) = d := by rw [← HE.out.1, ← HE.out.2]
        have HDD := Lib.hid hdd
        clear hG2 hsm hL9 hs9 hJ HO hDw hbw hdd
        go_wp2
        obtain ⟨k1, k3, k4, k5, k6⟩ := HEnd.out
        rw [HR.out, HDD.out] at k1
        refine bodyPost_ret (results_dfa rfl _ rfl k3 k4 k5 k6) rfl ⟨_, rfl, k1.base HB.out⟩
/-! ### Not -/
/-- A copy in a variable at block g, the result's block gr; bs: its flags as they are now. -/
def Flags (w1 wr : World) (g gr : Nat) (L s : Int) (nv fv : Value) (bs : List Bool) (rs : List (Value × List Int)) (fs : List Ent) : Prop :=
  Own w1 wr (eBools fv bs :: eDfa g [.int .i64 L, .int .i64 s, nv, fv] :: eDfa gr zero4 :: eRows nv (rs.map (·.1)) :: eEach rs) fs
theorem Flags.cell {w1 wr : World} {g gr : Nat} {L s : Int} {nv fv : Value} {bs : List Bool} {rs : List (Value × List Int)} {fs : List Ent} (h : Flags w1 wr g gr L s nv fv bs rs fs) {j : Nat} {u : Value} (hj : [Value.int .i64 L, .int .i64 s, nv, fv][j]? = some u) : wr.cell? ⟨g, j, none⟩ = some u := (Own.dcell h (l := [.int .i64 L, .int .i64 s, nv, fv]) (by simp) hj).1
theorem Flags.res {w1 wr : World} {g gr : Nat} {L s : Int} {nv fv : Value} {bs : List Bool} {rs : List (Value × List Int)} {fs : List Ent} (h : Flags w1 wr g gr L s nv fv bs rs fs) {j : Nat} {u : Value} (hj : zero4[j]? = some u) : wr.cell? ⟨gr, j, none⟩ = some u ∧ wr.frozen? ⟨gr, j, none⟩ = false := Own.dcell h (l := zero4) (by simp) hj
/-- The places up to one have been changed. -/
def flipTo {α : Type} (f : Nat → α) (l : List α) (k : Nat) : List α := (List.range k).map f ++ l.drop k
theorem flip_length {α : Type} {f : Nat → α} {l : List α} {k : Nat} (h : k ≤ l.length) : (flipTo f l k).length = l.length := by unfold flipTo; simp; omega
theorem flip_zero {α : Type} (f : Nat → α) (l : List α) : flipTo f l 0 = l := by simp [flipTo]
theorem flip_get {α : Type} {f : Nat → α} {l : List α} {k : Nat} (h : k < l.length) : (flipTo f l k)[k]? = some l[k] := by
  unfold flipTo; rw [List.getElem?_append_right (by simp)]; simp [h]
theorem flip_set {α : Type} {f : Nat → α} {l : List α} {k : Nat} (h : k < l.length) : (flipTo f l k).set k (f k) = flipTo f l (k + 1) := by
  unfold flipTo
  rw [List.set_append, if_neg (by simp), List.length_map, List.length_range, Nat.sub_self, List.drop_eq_getElem_cons h, List.set_cons_zero, List.range_succ, List.map_append, List.append_assoc]
  rfl
theorem flip_same {α : Type} {f : Nat → α} {l : List α} {k : Nat} (h : k < l.length) (e : f k = l[k]) : flipTo f l k = flipTo f l (k + 1) := by
  unfold flipTo
  rw [List.drop_eq_getElem_cons h, List.range_succ, List.map_append, List.append_assoc, List.map_singleton, e]
  rfl
theorem flip_all {α : Type} {f : Nat → α} {l : List α} {k : Nat} (h : l.length ≤ k) : flipTo f l k = (List.range k).map f := by unfold flipTo; rw [List.drop_of_length_le h, List.append_nil]
/-- A copy is laid into its variable. -/
theorem flags_new {w1 w2 w3 : World} {gr : Nat} {nv fv : Value} {d : Aut} {rs : List (Value × List Int)} {fs : List Ent} (h0 : Own w1 w2 [eDfa gr zero4] fs) (h : Own w2 w3 (eRows nv (rs.map (·.1)) :: eBools fv d.fin :: eEach rs) []) :
    Flags w1 (w3.alloc (.cells #[.int .i64 d.L, .int .i64 d.s, nv, fv] 25)) w3.heap.size gr d.L d.s nv fv d.fin rs fs := by
  have h1 := (h0.join h).dfa (.int .i64 d.L) (.int .i64 d.s) nv fv
  unfold Flags
  refine h1.perm ?_
  show (eDfa _ _ :: eRows nv _ :: eBools fv _ :: (eEach rs ++ [eDfa gr zero4])).Perm _
  refine (((List.Perm.swap _ _ _).cons _).trans (List.Perm.swap _ _ _)).trans ((List.Perm.cons _ (List.Perm.cons _ ?_)))
  exact ((List.perm_append_singleton _ _).cons _).trans (List.Perm.swap _ _ _)
theorem flags_cell {w1 wr : World} {g gr gf cap n : Nat} {L s : Int} {nv : Value} {bs : List Bool} {rs : List (Value × List Int)} {fs : List Ent} (h : Flags w1 wr g gr L s nv (.slice (some ⟨gf, 0, none⟩) n cap) bs rs fs) (hl : bs.length = n) {k : Nat} {b : Bool} (hk : bs[k]? = some b) :
    wr.cell? ⟨gf, k, none⟩ = some (.bool b) ∧ wr.frozen? ⟨gf, k, none⟩ = false := by
  subst hl
  exact Own.cell (t := 4) (sz := 1) (n := bs.length) (cap := cap) (xs := bs.map Value.bool) h (List.mem_append_left _ List.mem_cons_self) (by rw [List.getElem?_map, hk]; rfl)
theorem flags_set {w1 wr : World} {g gr gf cap n : Nat} {L s : Int} {nv : Value} {bs : List Bool} {rs : List (Value × List Int)} {fs : List Ent} (h : Flags w1 wr g gr L s nv (.slice (some ⟨gf, 0, none⟩) n cap) bs rs fs) (hl : bs.length = n) (k : Nat) (b : Bool) :
    Flags w1 (wr.setCell ⟨gf, k, none⟩ (.bool b)) g gr L s nv (.slice (some ⟨gf, 0, none⟩) n cap) (bs.set k b) rs fs := by
  subst hl
  have h2 := Own.set (t := 4) (sz := 1) (n := bs.length) (cap := cap) (xs := bs.map Value.bool) h k (.bool b)
  unfold Flags eBools
  rw [List.length_set, List.map_set]
  exact h2
theorem flags_end {w1 wr w2 : World} {g gr : Nat} {L s : Int} {nv fv : Value} {bs : List Bool} {rs : List (Value × List Int)} {fs : List Ent} (h : Flags w1 wr g gr L s nv fv bs rs fs) (hs : ∀ p ∈ rs, ∀ x ∈ p.2, Small x) (hL : Small L) (hS : Small s)
    (hw : w2 = (((wr.setCell ⟨gr, 0, none⟩ (.int .i64 L)).setCell ⟨gr, 1, none⟩ (.int .i64 s)).setCell ⟨gr, 2, none⟩ nv).setCell ⟨gr, 3, none⟩ fv) :
    DfaOwn w1 w2 (.agg #[.int .i64 L, .int .i64 s, nv, fv]) ⟨L, s, rs.map (·.2), bs⟩ ∧
      w2.cell? ⟨gr, 0, none⟩ = some (.int .i64 L) ∧ w2.cell? ⟨gr, 1, none⟩ = some (.int .i64 s) ∧ w2.cell? ⟨gr, 2, none⟩ = some nv ∧ w2.cell? ⟨gr, 3, none⟩ = some fv :=
  own_end (Own.three h) (fun e he => by simp only [List.mem_cons, List.mem_append] at he ⊢; rcases he with rfl | rfl | he <;> simp [*]) hs hL hS hw
end Go.Proofs.YtbciefeipiphiaaDoor.Df
