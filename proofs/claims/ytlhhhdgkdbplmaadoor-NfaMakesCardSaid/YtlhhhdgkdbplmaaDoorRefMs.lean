/- Automata in many states that the reference makes: a struct, rows of ints, a row of moves. -/
import Derived.Test.YtlhhhdgkdbplmaaDoorNfaR
import Derived.Test.YtlhhhdgkdbplmaaDoorNfaF
namespace Go.Proofs.YtlhhhdgkdbplmaaDoor.Nf
open Go.RowKit Go.IntWalk Go.Proofs.YtlhhhdgkdbplmaaDoor.Wd Go.Proofs.YtlhhhdgkdbplmaaDoor.Wo Go.Proofs.YtlhhhdgkdbplmaaDoor.Df

/-- Number i, which only reads, is taken first; its slot is told. -/
theorem wpZ_takeD {P : Program} {ops : Array Oper} {Q : Exit → Act → World → Prop} {md : Region.Mode} {S : World → Prop} {z : Nat} {i : Nat} {oi : Oper} (d : Option Tmp) {v : Value} {n : Nat} {listed : Array Bool} {a : Act} {w : World} (hi : ops[i]? = some oi) (hd : oi.dst = d) (hs : Region.noSelect ops = true) (hf : Region.free md ops listed i = true)
    (hr : (Region.ready md ops listed).contains i = true) (hz : waitsB md ops z i = true) (hQ : ∀ c a w, Q (.panic c) (a.put d v) w → Q (.panic c) a w) (hy : YieldsIf P ops S oi v a) (hS : S w)
    (h : wpZ P md ops Q S z n (listed.setIfInBounds i true) (a.put d v) w) : wpZ P md ops Q S z (n + 1) listed a w := by
  subst hd
  exact wpZ_take hi hs hf hr hz hQ hy hS h
theorem results_nfa1 {fn : Func} {t : Tmp} (h : fn.results = #[.cell t 25]) (tmps : Array Value) {w : World} {g : Nat} {v0 v1 v2 v3 v4 : Value} (hp : tmps.getD t undef = .pointer (some ⟨g, 0, none⟩))
    (c0 : w.cell? ⟨g, 0, none⟩ = some v0) (c1 : w.cell? ⟨g, 1, none⟩ = some v1) (c2 : w.cell? ⟨g, 2, none⟩ = some v2) (c3 : w.cell? ⟨g, 3, none⟩ = some v3) (c4 : w.cell? ⟨g, 4, none⟩ = some v4) :
    (results fn tmps).run Tryd.prog w = .ok (.agg #[v0, v1, v2, v3, v4]) w := by
  have hp' : tmps[t]?.getD undef = .pointer (some ⟨g, 0, none⟩) := by simpa using hp
  simp [results, h, hp', go_sem, c0, c1, c2, c3, c4]
/-- 'append(l, m)' of one move, in a region that draws. -/
theorem step_own_move {w0 w : World} {ops : Array Oper} {o : Oper} {a : Act} {K : Act → World → Prop} {Q : Exit → Act → World → Prop} {E : Prop} (hgd : o.guard = none) (s x : Operand)
    (ho : o.op = .call { callee := .builtin .append, args := #[s, x], argTypes := #[23, 23] })
    {v : Value} {l : List Mv} {es fs : List Ent} (hs : a.eval s = v) (h : Own w0 w (eMoves v l :: es) fs) {m : Mv} {t' : TypeId} (hx : a.eval x = .slice (some ⟨w.heap.size, 0, none⟩) 1 1) (hb : l.length < 1099511627776)
    (hK : ∀ g cap w', Own w0 w' (eMoves (.slice (some ⟨g, 0, none⟩) (l.length + 1) cap) (l ++ [m]) :: es) fs → K (a.put o.dst (.slice (some ⟨g, 0, none⟩) (l.length + 1) cap)) w') : if Region.wanted o (yielded ops a.tmps) = true then Oper.wp Tryd.prog o a (w.alloc (.cells #[.int .i64 m.1, .int .i64 m.2.1, .int .i64 m.2.2] t')) K Q else E := by
  refine step_own_append_lit hgd s x _ ho Tryd.underlying23 infoMove rfl (by decide) hs h hx rfl (fun u hu => by simp at hu; rcases hu with rfl | rfl | rfl <;> rfl) (by omega) (by unfold maxLen; omega) (by omega) ?_
  intro g cap w' ho
  refine hK g cap w' ?_
  unfold eMoves
  rw [mcells_append]
  simpa [mcells, i64] using ho
/-- What is made midway. -/
def MrI (w1 wr : World) (gm gr : Nat) (L n : Int) (sv mvv fv : Value) (st : List Int) (ms : List Mv) (fn : List Int) : Prop :=
  Own w1 wr [eInts sv st, eMoves mvv ms, eInts fv fn, eNfa gm [.int .i64 L, .int .i64 n, sv, mvv, fv], eNfa gr zero5] []
theorem mrI_end {w1 wr w2 : World} {gm gr : Nat} {sv mvv fv : Value} {a : Nfa} (h : MrI w1 wr gm gr a.L a.n sv mvv fv a.st a.mv a.fin) (hg : Good a)
    (hw : w2 = ((((wr.setCell ⟨gr, 0, none⟩ (.int .i64 a.L)).setCell ⟨gr, 1, none⟩ (.int .i64 a.n)).setCell ⟨gr, 2, none⟩ sv).setCell ⟨gr, 3, none⟩ mvv).setCell ⟨gr, 4, none⟩ fv) :
    NfaOwn w1 w2 (.agg #[.int .i64 a.L, .int .i64 a.n, sv, mvv, fv]) a ∧ Below w1.heap.size w1 w2 ∧ w2.cell? ⟨gr, 0, none⟩ = some (.int .i64 a.L) ∧ w2.cell? ⟨gr, 1, none⟩ = some (.int .i64 a.n) ∧ w2.cell? ⟨gr, 2, none⟩ = some sv ∧ w2.cell? ⟨gr, 3, none⟩ = some mvv ∧ w2.cell? ⟨gr, 4, none⟩ = some fv := by
  obtain ⟨hend, k⟩ := into5 (h.pull 4 (by simp)) rfl (.int .i64 a.L) (.int .i64 a.n) sv mvv fv hw
  exact ⟨own_own hend (by simp) (by simp) (by simp) (good_nL hg).1 (good_nL hg).2 (good_st hg) (good_mvsmall hg) (good_fin hg), hend.below, k⟩
theorem mrI_gm {w1 wr : World} {gm gr : Nat} {L n : Int} {sv mvv fv : Value} {st : List Int} {ms : List Mv} {fn : List Int} (h : MrI w1 wr gm gr L n sv mvv fv st ms fn) {j : Nat} {u : Value} (hj : ([.int .i64 L, .int .i64 n, sv, mvv, fv] : List Value)[j]? = some u) : wr.cell? ⟨gm, j, none⟩ = some u ∧ wr.frozen? ⟨gm, j, none⟩ = false :=
  ncell h (g := gm) (l := [.int .i64 L, .int .i64 n, sv, mvv, fv]) (by simp) hj
theorem mrI_gr {w1 wr : World} {gm gr : Nat} {L n : Int} {sv mvv fv : Value} {st : List Int} {ms : List Mv} {fn : List Int} (h : MrI w1 wr gm gr L n sv mvv fv st ms fn) {j : Nat} {u : Value} (hj : zero5[j]? = some u) : wr.cell? ⟨gr, j, none⟩ = some u ∧ wr.frozen? ⟨gr, j, none⟩ = false :=
  ncell h (g := gr) (l := zero5) (by simp) hj
theorem mrI_form {w1 wr : World} {gm gr : Nat} {L n : Int} {sv mvv fv : Value} {st : List Int} {ms : List Mv} {fn : List Int} (h : MrI w1 wr gm gr L n sv mvv fv st ms fn) : ∃ A1 k1 n1 A2 k2 n2 A3 k3 n3, sv = .slice A1 n1 k1 ∧ mvv = .slice A2 n2 k2 ∧ fv = .slice A3 n3 k3 := by
  obtain ⟨A1, k1, h1, _⟩ := h.form (e := eInts sv st) (by simp)
  obtain ⟨A2, k2, h2, _⟩ := h.form (e := eMoves mvv ms) (by simp)
  obtain ⟨A3, k3, h3, _⟩ := h.form (e := eInts fv fn) (by simp)
  exact ⟨A1, k1, _, A2, k2, _, A3, k3, _, h1, h2, h3⟩
theorem take_snoc {α : Type} {l : List α} {k : Nat} (h : k < l.length) : l.take (k + 1) = l.take k ++ [l[k]] := List.take_succ_eq_append_getElem h
theorem take_map_snoc {l : List Mv} {k : Nat} (h : k < l.length) : (l.take (k + 1)).map turn = (l.take k).map turn ++ [turn l[k]] := by rw [take_snoc h, List.map_append]; rfl
end Go.Proofs.YtlhhhdgkdbplmaaDoor.Nf
