/- Rows of what package reach's search finds: states with words; clones of words; rows of bools that are made. -/
import Derived.Test.YtciopfiddfmckaaDoorDfaP
import Derived.Test.YtciopfiddfmckaaDoorReachB
import Derived.Handy
namespace Go.Proofs.YtciopfiddfmckaaDoor.Rc
open Go.RowKit Go.IntWalk Go.Proofs.YtciopfiddfmckaaDoor.Wd Go.Proofs.YtciopfiddfmckaaDoor.Wo Go.Proofs.YtciopfiddfmckaaDoor.Df
/-- One that is found, and its word's value. -/
abbrev Fv := Fd × Value
def fcells (l : List Fv) : List Value := l.flatMap fun p => [.int .i64 ((p.1.1 : Nat) : Int), p.2]
def eFd (v : Value) (l : List Fv) : Ent := ⟨129, 2, v, l.length, fcells l⟩
def eEachW (l : List Fv) : List Ent := l.map fun p => eInts p.2 p.1.2
theorem fcells_append (l m : List Fv) : fcells (l ++ m) = fcells l ++ fcells m := List.flatMap_append
theorem fcells_get : ∀ (l : List Fv) (k : Nat) (p : Fv), l[k]? = some p → (fcells l)[k * 2]? = some (.int .i64 ((p.1.1 : Nat) : Int)) ∧ (fcells l)[k * 2 + 1]? = some p.2
  | [], k, p, h => by simp at h
  | q :: l, 0, p, h => by
    simp only [List.getElem?_cons_zero, Option.some.injEq] at h
    subst h
    exact ⟨rfl, rfl⟩
  | q :: l, k + 1, p, h => by
    rw [List.getElem?_cons_succ] at h
    have := fcells_get l k p h
    have e : fcells (q :: l) = .int .i64 ((q.1.1 : Nat) : Int) :: q.2 :: fcells l := rfl
    rw [e, show (k + 1) * 2 = k * 2 + 1 + 1 by omega]
    simpa using this
theorem infoFound : (Tryd.prog.info? 129).map (fun i => (i.zero, i.size, i.bytes)) = some (some (.agg #[.int .i64 0, .slice none 0 0]), 2, 32) := by kernel_rfl
/-- What a row of them looks like. -/
theorem own_fd {w0 w : World} {es fs : List Ent} (h : Own w0 w es fs) {v : Value} {l : List Fv} (he : eFd v l ∈ es ++ fs) :
    ∃ A cap, v = .slice A l.length cap ∧ l.length ≤ cap ∧ cap ≤ 9223372036854775807 ∧ Cells w w.heap.size A (fcells l) := by
  obtain ⟨A, cap, hv, h1, h2, _⟩ := h.form he
  simp only [eFd] at hv h1
  subst hv
  unfold maxLen at h2
  exact ⟨A, cap, rfl, h1, h2, h.cells he⟩
theorem fd_at {w : World} {B : Nat} {A : Option Addr} {l : List Fv} (h : Cells w B A (fcells l)) {k : Nat} {p : Fv} (hk : l[k]? = some p) :
    ∃ ad, A = some ad ∧ ad.block < B ∧ w.cell? (ad.add (k * 2)) = some (.int .i64 ((p.1.1 : Nat) : Int)) ∧ w.cell? ⟨(ad.add (k * 2)).block, (ad.add (k * 2)).off + 1, none⟩ = some p.2 := by
  obtain ⟨h1, h2⟩ := fcells_get l k p hk
  obtain ⟨ad, e, h3, h4⟩ := h _ _ h1
  obtain ⟨ad2, e2, _, h6⟩ := h _ _ h2
  obtain rfl := Option.some.inj (e.symm.trans e2)
  exact ⟨ad, e, h3, h4, by rw [← Addr.add_succ' (ad.add (k * 2)) 0, Addr.add_add]; exact h6⟩
/-- 'append(l, found{s, w})'. -/
theorem own_found {w0 w : World} {ops : Array Oper} {rest : List Oper} {o : Oper} {a : Act} {Q : Exit → Act → World → Prop} (hgd : o.guard = none) (s x : Operand)
    (ho : o.op = .call { callee := .builtin .append, args := #[s, x], argTypes := #[126, 126] })
    {v : Value} {l : List Fv} {es fs : List Ent} (hs : a.eval s = v) (h : Own w0 w (eFd v l :: es) fs) {p : Fv} (hp : p.2.oneCell' = true) {t' : TypeId} (hx : a.eval x = .slice (some ⟨w.heap.size, 0, none⟩) 1 1) (hb : l.length < 1099511627776)
    (hK : ∀ g cap w', Own w0 w' (eFd (.slice (some ⟨g, 0, none⟩) (l.length + 1) cap) (l ++ [p]) :: es) fs → wpList Tryd.prog ops Q rest (a.put o.dst (.slice (some ⟨g, 0, none⟩) (l.length + 1) cap)) w') :
    wpList Tryd.prog ops Q (o :: rest) a (w.alloc (.cells #[.int .i64 ((p.1.1 : Nat) : Int), p.2] t')) := by
  refine own_append_lit hgd s x _ ho Tryd.underlying126 infoFound rfl (by decide) hs h hx rfl (fun u hu => by simp at hu; rcases hu with rfl | rfl; rfl; exact hp) (by omega) (by unfold maxLen; omega) (by omega) ?_
  intro g cap w' ho
  refine hK g cap w' ?_
  unfold eFd
  rw [fcells_append]
  simpa [fcells] using ho
set_option maxRecDepth 100000 in
theorem clone_nil (w : World) : Calls Tryd.prog 40 #[.slice none 0 0] w fun e w' => e = .returned (.slice none 0 0) ∧ w' = w := by
  go_enter Tryd.func40, Tryd.ntmps40
  have hnil : ∀ W, (binOp .eql 38 (.slice none 0 0) (.slice none 0 0)).run Tryd.prog W = .ok (.bool true) W := fun W => Lib.run_eql_slice_nil W _ _ _ _ _ _ _ Tryd.underlying38
  go_wp2
  go_ret
  exact ⟨rfl, rfl⟩
/-- The clone of a word. -/
theorem clone_word (v : Value) (l : List Int) (w : World) {w0 : World} {es fs : List Ent} (h : Own w0 w es fs) (hm : eInts v l ∈ es ++ fs) (hs : ∀ x ∈ l, Small x) (h0 : l = [] → v = .slice none 0 0) (hl : l.length ≤ 17592186044416) :
    Calls Tryd.prog 40 #[v] w fun e w' => Hid (∃ v', e = .returned v' ∧ Own w w' [eInts v' l] []) := by
  by_cases e : l = []
  · subst e
    rw [h0 rfl]
    exact (clone_nil w).mono fun e w' ⟨h1, h2⟩ => ⟨_, h1, by subst h2; exact (own_start _).nil 3 1⟩
  · obtain ⟨A, c, rfl, _, _, hA⟩ := own_ints_at h hm hs
    have : l.length ≠ 0 := fun k => e (List.eq_nil_of_length_eq_zero k)
    exact (clone_any A c l w hA (by omega) hl).mono fun e w' he => by
      obtain ⟨A', cap, h1, h2⟩ := he.out
      exact ⟨_, h1, h2⟩
theorem own_one {w0 w : World} {es fs : List Ent} {v : Value} {l : List Int} (h : Own w0 w es fs) (hm : eInts v l ∈ es ++ fs) : v.oneCell' = true := by
  obtain ⟨A, cap, hv, _⟩ := h.form hm
  simp only [eInts] at hv
  rw [hv]; rfl
/-- Which states are known. -/
def kb (l : List Fd) (n : Nat) : List Bool := (List.range n).map fun t => decide (known l t)
theorem kb_length (l : List Fd) (n : Nat) : (kb l n).length = n := by simp [kb]
theorem kb_get (l : List Fd) {n t : Nat} (h : t < n) : (kb l n)[t]? = some (decide (known l t)) := by unfold kb; rw [List.getElem?_map, List.getElem?_range h]; rfl
theorem known_snoc (l : List Fd) (x : Fd) (t : Nat) : known (l ++ [x]) t ↔ known l t ∨ t = x.1 := by unfold known; simp
theorem kb_set (l : List Fd) (n : Nat) (x : Fd) : (kb l n).set x.1 true = kb (l ++ [x]) n := by
  refine List.ext_getElem? fun k => ?_
  rw [List.getElem?_set, kb_length]
  by_cases hk : k < n
  · rw [kb_get _ hk, kb_get _ hk]
    by_cases e : x.1 = k
    · rw [if_pos e, e, if_pos hk]
      congr 1
      exact (decide_eq_true ((known_snoc l x k).2 (.inr e.symm))).symm
    · rw [if_neg e]
      congr 1
      have := known_snoc l x k
      by_cases hk2 : known l k
      · rw [decide_eq_true hk2, decide_eq_true (this.2 (.inl hk2))]
      · rw [decide_eq_false hk2, decide_eq_false (fun q => (this.1 q).elim hk2 (fun q => e q.symm))]
  · rw [List.getElem?_eq_none (by rw [kb_length]; omega), List.getElem?_eq_none (by rw [kb_length]; omega)]
    split
    · rw [if_neg (by omega)]
    · rfl
theorem kb_none (n : Nat) : kb [] n = List.replicate n false := by
  unfold kb
  rw [show (fun t => decide (known [] t)) = fun (_ : Nat) => false from by funext t; exact decide_eq_false (by unfold known; simp), List.map_const']
  simp
end Go.Proofs.YtciopfiddfmckaaDoor.Rc
