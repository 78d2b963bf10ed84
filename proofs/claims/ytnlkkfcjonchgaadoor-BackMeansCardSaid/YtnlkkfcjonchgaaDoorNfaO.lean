/- Automata in many states that a call makes: structs, rows of moves. -/
import Derived.Test.YtnlkkfcjonchgaaDoorNfaS
import Derived.Test.YtnlkkfcjonchgaaDoorDfaP
namespace Go.Proofs.YtnlkkfcjonchgaaDoor.Nf
open Go.RowKit Go.IntWalk Go.Proofs.YtnlkkfcjonchgaaDoor.Wd Go.Proofs.YtnlkkfcjonchgaaDoor.Wo Go.Proofs.YtnlkkfcjonchgaaDoor.Df

/-! ### the struct, in a block of its own -/
def eNfa (g : Nat) (l : List Value) : Ent := ⟨56, 5, .slice (some ⟨g, 0, none⟩) 1 1, 1, l⟩
theorem own_nfa_new {w0 w : World} {es fs : List Ent} (h : Own w0 w es fs) (a b c d e : Value) : Own w0 (w.alloc (.cells #[a, b, c, d, e] 56)) (eNfa w.heap.size [a, b, c, d, e] :: es) fs :=
  h.lit _ 5 1 #[a, b, c, d, e] rfl (by simp [maxLen])
theorem ncell {w0 w : World} {es fs : List Ent} (h : Own w0 w es fs) {g : Nat} {l : List Value} (he : eNfa g l ∈ es ++ fs) {j : Nat} {u : Value} (hj : l[j]? = some u) : w.cell? ⟨g, j, none⟩ = some u ∧ w.frozen? ⟨g, j, none⟩ = false := h.cell he hj
theorem nset {w0 w : World} {es fs : List Ent} {g : Nat} {l : List Value} (h : Own w0 w (eNfa g l :: es) fs) (j : Nat) (u : Value) : Own w0 (w.setCell ⟨g, j, none⟩ u) (eNfa g (l.set j u) :: es) fs := h.set j u
abbrev zero5 : List Value := [.int .i64 0, .int .i64 0, .slice none 0 0, .slice none 0 0, .slice none 0 0]
theorem results_nfa {fn : Func} {t m : Tmp} (h : fn.results = #[.cell t 56, .tmp m]) (tmps : Array Value) {w : World} {g : Nat} {v0 v1 v2 v3 v4 : Value} (hp : tmps.getD t undef = .pointer (some ⟨g, 0, none⟩))
    (c0 : w.cell? ⟨g, 0, none⟩ = some v0) (c1 : w.cell? ⟨g, 1, none⟩ = some v1) (c2 : w.cell? ⟨g, 2, none⟩ = some v2) (c3 : w.cell? ⟨g, 3, none⟩ = some v3) (c4 : w.cell? ⟨g, 4, none⟩ = some v4) :
    (results fn tmps).run Tryd.prog w = .ok (.tuple #[.agg #[v0, v1, v2, v3, v4], tmps.getD m undef]) w := by
  have hp' : tmps[t]?.getD undef = .pointer (some ⟨g, 0, none⟩) := by simpa using hp
  simp [results, h, hp', go_sem, c0, c1, c2, c3, c4]
/-- Five stores into the result's own block. -/
theorem into5 {w1 wr w2 : World} {gr : Nat} {l : List Value} {es fs : List Ent} (h : Own w1 wr (eNfa gr l :: es) fs) (hl : l.length = 5) (a b c d e : Value)
    (hw : w2 = ((((wr.setCell ⟨gr, 0, none⟩ a).setCell ⟨gr, 1, none⟩ b).setCell ⟨gr, 2, none⟩ c).setCell ⟨gr, 3, none⟩ d).setCell ⟨gr, 4, none⟩ e) :
    Own w1 w2 (eNfa gr [a, b, c, d, e] :: es) fs ∧ w2.cell? ⟨gr, 0, none⟩ = some a ∧ w2.cell? ⟨gr, 1, none⟩ = some b ∧ w2.cell? ⟨gr, 2, none⟩ = some c ∧ w2.cell? ⟨gr, 3, none⟩ = some d ∧ w2.cell? ⟨gr, 4, none⟩ = some e := by
  subst hw
  match l, hl with
  | [x0, x1, x2, x3, x4], _ =>
    have h2 : Own w1 _ (eNfa gr [a, b, c, d, e] :: es) fs := nset (nset (nset (nset (nset h 0 a) 1 b) 2 c) 3 d) 4 e
    exact ⟨h2, (ncell (l := [a, b, c, d, e]) h2 (by simp) rfl).1, (ncell (l := [a, b, c, d, e]) h2 (by simp) rfl).1, (ncell (l := [a, b, c, d, e]) h2 (by simp) rfl).1, (ncell (l := [a, b, c, d, e]) h2 (by simp) rfl).1, (ncell (l := [a, b, c, d, e]) h2 (by simp) rfl).1⟩

/-! ### rows of moves -/
def eMoves (v : Value) (l : List Mv) : Ent := ⟨86, 3, v, l.length, mcells l⟩
theorem infoMove : (Tryd.prog.info? 86).map (fun i => (i.zero, i.size, i.bytes)) = some (some (.agg #[.int .i64 0, .int .i64 0, .int .i64 0]), 3, 24) := by kernel_rfl
theorem own_moves {w0 w : World} {es fs : List Ent} (h : Own w0 w es fs) {v : Value} {l : List Mv} (he : eMoves v l ∈ es ++ fs) (hs : ∀ m ∈ l, MvSmall m) :
    ∃ A cap, v = .slice A l.length cap ∧ l.length ≤ cap ∧ cap ≤ 9223372036854775807 ∧ MovesAt w w.heap.size A l := by
  obtain ⟨A, cap, hv, h1, h2, _⟩ := h.form he
  simp only [eMoves] at hv h1
  subst hv
  unfold maxLen at h2
  exact ⟨A, cap, rfl, h1, h2, h.cells he, hs⟩
/-- 'append(l, m)' of one move. -/
theorem own_move {w0 w : World} {ops : Array Oper} {rest : List Oper} {o : Oper} {a : Act} {Q : Exit → Act → World → Prop} (hgd : o.guard = none) (s x : Operand)
    (ho : o.op = .call { callee := .builtin .append, args := #[s, x], argTypes := #[54, 54] })
    {v : Value} {l : List Mv} {es fs : List Ent} (hs : a.eval s = v) (h : Own w0 w (eMoves v l :: es) fs) {m : Mv} {t' : TypeId} (hx : a.eval x = .slice (some ⟨w.heap.size, 0, none⟩) 1 1) (hb : l.length < 1099511627776)
    (hK : ∀ g cap w', Own w0 w' (eMoves (.slice (some ⟨g, 0, none⟩) (l.length + 1) cap) (l ++ [m]) :: es) fs → wpList Tryd.prog ops Q rest (a.put o.dst (.slice (some ⟨g, 0, none⟩) (l.length + 1) cap)) w') :
    wpList Tryd.prog ops Q (o :: rest) a (w.alloc (.cells #[.int .i64 m.1, .int .i64 m.2.1, .int .i64 m.2.2] t')) := by
  refine own_append_lit hgd s x _ ho Tryd.underlying54 infoMove rfl (by decide) hs h hx rfl (fun u hu => by simp at hu; rcases hu with rfl | rfl | rfl <;> rfl) (by omega) (by unfold maxLen; omega) (by omega) ?_
  intro g cap w' ho
  refine hK g cap w' ?_
  unfold eMoves
  rw [mcells_append]
  simpa [mcells, i64] using ho
/-- What is owned reads as such an automaton. -/
theorem own_reads {w0 w : World} {es fs : List Ent} {sv mv fv : Value} {a : Nfa} (h : Own w0 w es fs) (h1 : eInts sv a.st ∈ es ++ fs) (h2 : eMoves mv a.mv ∈ es ++ fs) (h3 : eInts fv a.fin ∈ es ++ fs)
    (hL : Small a.L) (hn : Small a.n) (hs : ∀ x ∈ a.st, Small x) (hm : ∀ m ∈ a.mv, MvSmall m) (hf : ∀ x ∈ a.fin, Small x) : NfaAt w w.heap.size (.agg #[.int .i64 a.L, .int .i64 a.n, sv, mv, fv]) a := by
  obtain ⟨A, c, rfl, a1, a2, a3⟩ := own_ints_at h h1 hs
  obtain ⟨M, cm, rfl, m1, m2, m3⟩ := own_moves h h2 hm
  obtain ⟨F, cf, rfl, f1, f2, f3⟩ := own_ints_at h h3 hf
  exact ⟨a.L, a.n, A, c, M, cm, F, cf, rfl, rfl, rfl, hL, hn, a1, a2, m1, m2, f1, f2, a3, m3, f3⟩
/-- An automaton in rows that are done. -/
def HeldN (fs : List Ent) (v : Value) (a : Nfa) : Prop :=
  ∃ sv mv fv, v = .agg #[.int .i64 a.L, .int .i64 a.n, sv, mv, fv] ∧ eInts sv a.st ∈ fs ∧ eMoves mv a.mv ∈ fs ∧ eInts fv a.fin ∈ fs ∧ Small a.L ∧ Small a.n ∧ (∀ x ∈ a.st, Small x) ∧ (∀ m ∈ a.mv, MvSmall m) ∧ (∀ x ∈ a.fin, Small x)
theorem HeldN.more {fs fs' : List Ent} {v : Value} {a : Nfa} (h : HeldN fs v a) (hs : ∀ e ∈ fs, e ∈ fs') : HeldN fs' v a := by
  obtain ⟨sv, mv, fv, e, h1, h2, h3, h4⟩ := h
  exact ⟨sv, mv, fv, e, hs _ h1, hs _ h2, hs _ h3, h4⟩
theorem HeldN.at_ {w0 w : World} {es fs : List Ent} {v : Value} {a : Nfa} (h : HeldN fs v a) (ho : Own w0 w es fs) : NfaAt w w.heap.size v a := by
  obtain ⟨sv, mv, fv, rfl, h1, h2, h3, h4, h5, h6, h7, h8⟩ := h
  exact own_reads ho (List.mem_append_right _ h1) (List.mem_append_right _ h2) (List.mem_append_right _ h3) h4 h5 h6 h7 h8
/-- A call has made an automaton. -/
def NfaOwn (w0 w : World) (v : Value) (a : Nfa) : Prop := ∃ fs, Own w0 w [] fs ∧ HeldN fs v a
theorem NfaOwn.base {w w0 w1 : World} {v : Value} {a : Nfa} (h : NfaOwn w0 w1 v a) (hb : Below w.heap.size w w0) : NfaOwn w w1 v a := by
  obtain ⟨fs, h1, h2⟩ := h
  exact ⟨fs, h1.base hb, h2⟩
theorem NfaOwn.at_ {w0 w : World} {v : Value} {a : Nfa} (h : NfaOwn w0 w v a) : NfaAt w w.heap.size v a := by
  obtain ⟨fs, h1, h2⟩ := h
  exact h2.at_ h1
theorem own_all {w0 w : World} : ∀ {es fs : List Ent}, Own w0 w es fs → ∃ fs', Own w0 w [] fs' ∧ ∀ e ∈ es ++ fs, e ∈ fs'
  | [], fs, h => ⟨fs, h, fun e he => by simpa using he⟩
  | x :: es, fs, h => by
    obtain ⟨fs', h1, h2⟩ := own_all h.fin
    exact ⟨fs', h1, fun e he => h2 e (by simp at he ⊢; rcases he with h | h | h <;> simp [h])⟩
theorem own_own {w0 w : World} {es fs : List Ent} {sv mv fv : Value} {a : Nfa} (h : Own w0 w es fs) (h1 : eInts sv a.st ∈ es ++ fs) (h2 : eMoves mv a.mv ∈ es ++ fs) (h3 : eInts fv a.fin ∈ es ++ fs)
    (hL : Small a.L) (hn : Small a.n) (hs : ∀ x ∈ a.st, Small x) (hm : ∀ m ∈ a.mv, MvSmall m) (hf : ∀ x ∈ a.fin, Small x) : NfaOwn w0 w (.agg #[.int .i64 a.L, .int .i64 a.n, sv, mv, fv]) a := by
  obtain ⟨fs', k1, k2⟩ := own_all h
  exact ⟨fs', k1, sv, mv, fv, rfl, k2 _ h1, k2 _ h2, k2 _ h3, hL, hn, hs, hm, hf⟩
set_option linter.unusedSimpArgs false in
theorem nfaOwn_zero {w0 w : World} (hb : Below w0.heap.size w0 w) : NfaOwn w0 w (.agg #[.int .i64 0, .int .i64 0, .slice none 0 0, .slice none 0 0, .slice none 0 0]) zeroN :=
  own_own (a := zeroN) (((((own_start w0).on hb).nil 3 1).nil 86 3)) (sv := .slice none 0 0) (mv := .slice none 0 0) (fv := .slice none 0 0) (by simp [zeroN, eInts, eMoves, mcells]) (by simp [zeroN, eInts, eMoves, mcells]) (by simp [zeroN, eInts, eMoves, mcells])
    ⟨by decide, by decide⟩ ⟨by decide, by decide⟩ (by simp [zeroN]) (by simp [zeroN]) (by simp [zeroN])
theorem good_mvsmall {a : Nfa} (g : Good a) : ∀ m ∈ a.mv, MvSmall m := fun m hm => by
  have h := g.mv m hm
  have := g.n40; have := g.l6
  obtain ⟨⟨h1, h2⟩, ⟨h3, h4⟩, h5, h6⟩ := h
  exact ⟨⟨by omega, by omega⟩, ⟨by omega, by omega⟩, ⟨by omega, by omega⟩⟩
theorem good_st {a : Nfa} (g : Good a) : ∀ x ∈ a.st, Small x := fun x hx => by
  have h := g.st x hx
  have := g.n40
  exact ⟨by have := h.1; omega, by have := h.2; omega⟩
theorem good_fin {a : Nfa} (g : Good a) : ∀ x ∈ a.fin, Small x := fun x hx => by
  have h := g.fin x hx
  have := g.n40
  exact ⟨by have := h.1; omega, by have := h.2; omega⟩
theorem good_nL {a : Nfa} (g : Good a) : Small a.L ∧ Small a.n := ⟨⟨by have := g.l1; omega, by have := g.l6; omega⟩, ⟨by have := g.n1; omega, by have := g.n40; omega⟩⟩

/-! ### slices.Clone of any slice of ints -/
set_option maxRecDepth 100000 in
theorem clone_all (A : Option Addr) (c : Nat) (l : List Int) (w : World) (hA : IntsAt w w.heap.size A l) (hl : l.length ≤ 17592186044416) :
    Calls Tryd.prog 58 #[.slice A l.length c] w fun e w' => Hid (∃ v', e = .returned v' ∧ Own w w' [eInts v' l] []) := by
  rcases A with _ | ad
  · have hl0 := hA.none_nil
    subst hl0
    clear hA hl
    have hnil : ∀ W, (binOp .eql 37 (.slice none 0 c) (.slice none 0 0)).run Tryd.prog W = .ok (.bool true) W := fun W => Lib.run_eql_slice_nil W _ _ _ _ _ _ _ Tryd.underlying37
    have HO : Hid (Own w w [eInts (.slice none 0 0) []] []) := (own_start w).nil 3 1
    show Calls Tryd.prog _ #[.slice none 0 c] w _
    go_enter Tryd.func58, Tryd.ntmps58
    go_wp2
    go_ret
    exact ⟨_, rfl, HO.out⟩
  · have HA := Lib.hid hA
    clear hA
    have HN := Lib.hid (Own.to_nums (l := []) (v := .slice (some ⟨w.heap.size, 0, none⟩) 0 0) (Own.lit (own_start w) 3 1 0 #[] rfl (by simp [maxLen])))
    have hnil : ∀ W, (binOp .eql 37 (.slice (some ad) l.length c) (.slice none 0 0)).run Tryd.prog W = .ok (.bool false) W := fun W => Lib.run_eql_slice_nil W _ _ _ _ _ _ _ Tryd.underlying37
    go_enter Tryd.func58, Tryd.ntmps58
    go_wp2_with (at_builtin; refine app_ints (acc := []) rfl _ _ rfl rfl HN.out rfl (HA.out.on (below_alloc _ _)) (by simpa using hl) ?_)
    intro v' w2 hn
    have HO2 : Hid (Own w w2 [eInts v' l] []) := Own.of_nums (by simpa using hn)
    clear hn HN
    go_wp2
    go_ret
    exact ⟨_, rfl, HO2.out⟩
end Go.Proofs.YtnlkkfcjonchgaaDoor.Nf
