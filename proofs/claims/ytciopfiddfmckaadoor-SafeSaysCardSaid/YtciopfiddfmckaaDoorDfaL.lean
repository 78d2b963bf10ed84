/- Lists of automata that a call makes: the fields of each in a row; what reads as such a list. -/
import Derived.Test.YtciopfiddfmckaaDoorDfaV
namespace Go.Proofs.YtciopfiddfmckaaDoor.Df
open Go.RowKit Go.IntWalk Go.Proofs.YtciopfiddfmckaaDoor.Wd Go.Proofs.YtciopfiddfmckaaDoor.Wo

/-- The four fields of an automaton. -/
abbrev Q4 := Int × Int × (Option Addr × Nat × Nat) × (Option Addr × Nat × Nat)
def q4 (q : Q4) : List Value := [.int .i64 q.1, .int .i64 q.2.1, .slice q.2.2.1.1 q.2.2.1.2.1 q.2.2.1.2.2, .slice q.2.2.2.1 q.2.2.2.2.1 q.2.2.2.2.2]
def qAgg (q : Q4) : Value := .agg #[.int .i64 q.1, .int .i64 q.2.1, .slice q.2.2.1.1 q.2.2.1.2.1 q.2.2.1.2.2, .slice q.2.2.2.1 q.2.2.2.2.1 q.2.2.2.2.2]
def q4s (l : List Q4) : List Value := l.flatMap q4
theorem q4s_append (l m : List Q4) : q4s (l ++ m) = q4s l ++ q4s m := List.flatMap_append
theorem q4s_length (l : List Q4) : (q4s l).length = l.length * 4 := by
  induction l with
  | nil => rfl
  | cons n l ih =>
    have e : q4s (n :: l) = q4 n ++ q4s l := rfl
    rw [e, List.length_append, ih]; simp [q4]; omega
theorem q4s_get : ∀ (l : List Q4) (k : Nat) (q : Q4), l[k]? = some q → ∀ j, j < 4 → (q4s l)[k * 4 + j]? = (q4 q)[j]?
  | [], k, q, h, _, _ => by simp at h
  | n :: l, 0, q, h, j, hj => by
    obtain rfl : n = q := by simpa using h
    have e : q4s (n :: l) = q4 n ++ q4s l := rfl
    rw [e, Nat.zero_mul, Nat.zero_add, List.getElem?_append_left (by simpa [q4] using hj)]
  | n :: l, k + 1, q, h, j, hj => by
    have := q4s_get l k q (by simpa using h) j hj
    have e : q4s (n :: l) = q4 n ++ q4s l := rfl
    rw [e, List.getElem?_append_right (by simp [q4]; omega), ← this]
    congr 1
    simp [q4]; omega
def eDfas (v : Value) (l : List Q4) : Ent := ⟨25, 4, v, l.length, q4s l⟩
theorem infoDfa : (Tryd.prog.info? 25).map (fun i => (i.zero, i.size, i.bytes)) = some (some (.agg #[.int .i64 0, .int .i64 0, .slice none 0 0, .slice none 0 0]), 4, 64) := by kernel_rfl
/-- 'append(l, x)' of one automaton. -/
theorem own_aut {w0 w : World} {ops : Array Oper} {rest : List Oper} {o : Oper} {a : Act} {Q : Exit → Act → World → Prop} (hgd : o.guard = none) (s x : Operand)
    (ho : o.op = .call { callee := .builtin .append, args := #[s, x], argTypes := #[27, 27] })
    {v : Value} {l : List Q4} {es fs : List Ent} (hs : a.eval s = v) (h : Own w0 w (eDfas v l :: es) fs) {L t : Int} {A F : Option Addr} {n c m cf : Nat} {t' : TypeId} (hx : a.eval x = .slice (some ⟨w.heap.size, 0, none⟩) 1 1) (hb : l.length < 1099511627776)
    (hK : ∀ g cap w', Own w0 w' (eDfas (.slice (some ⟨g, 0, none⟩) (l.length + 1) cap) (l ++ [(L, t, (A, n, c), (F, m, cf))]) :: es) fs → wpList Tryd.prog ops Q rest (a.put o.dst (.slice (some ⟨g, 0, none⟩) (l.length + 1) cap)) w') :
    wpList Tryd.prog ops Q (o :: rest) a (w.alloc (.cells #[.int .i64 L, .int .i64 t, .slice A n c, .slice F m cf] t')) := by
  refine own_append_lit hgd s x _ ho Tryd.underlying27 infoDfa rfl (by decide) hs h hx rfl (fun u hu => by simp at hu; rcases hu with rfl | rfl | rfl | rfl <;> rfl) (by omega) (by unfold maxLen; omega) (by omega) ?_
  intro g cap w' ho
  refine hK g cap w' ?_
  unfold eDfas
  rw [q4s_append]
  simpa [q4s, q4] using ho
/-- The automaton reads so wherever the rows of fs are owned. -/
def Held (fs : List Ent) (q : Q4) (d : Aut) : Prop := ∀ (u w : World) (es fs' : List Ent), Own u w es fs' → (∀ e ∈ fs, e ∈ fs') → DfaAt w w.heap.size (qAgg q) d
theorem Held.more {fs fs' : List Ent} {q : Q4} {d : Aut} (h : Held fs q d) (hs : ∀ e ∈ fs, e ∈ fs') : Held fs' q d := fun u w es f9 ho h9 => h u w es f9 ho fun e he => h9 e (hs e he)
theorem held_zero (fs : List Ent) : Held fs (0, 0, (none, 0, 0), (none, 0, 0)) zeroA := fun _ w _ _ _ _ => dfaAt_zero w _
theorem held_of {nv fv : Value} {rs : List (Value × List Int)} {d : Aut} {q : Q4} (hq : qAgg q = .agg #[.int .i64 d.L, .int .i64 d.s, nv, fv]) (h2 : d.next = rs.map (·.2)) (hs : ∀ p ∈ rs, ∀ x ∈ p.2, Small x) (hL : Small d.L) (hS : Small d.s) :
    Held (eRows nv (rs.map (·.1)) :: eBools fv d.fin :: eEach rs) q d := fun u w es fs' ho h9 => by
  have h := own_dfa (nv := nv) (fv := fv) (rs := rs) (bs := d.fin) (L := d.L) (s := d.s) ho (List.mem_append_right _ (h9 _ (by simp))) (fun e he => List.mem_append_right _ (h9 e (by simp [he]))) (List.mem_append_right _ (h9 _ (by simp))) hs hL hS
  rw [← h2, ← hq] at h
  exact h
/-- The first k automata: those of K. -/
def LK (K : Nat → Aut) (u wr : World) (k : Nat) (lv : Value) (qs : List Q4) (fs : List Ent) : Prop := qs.length = k ∧ Own u wr [eDfas lv qs] fs ∧ ∀ i q, qs[i]? = some q → Held fs q (K i)
theorem lk_start (K : Nat → Aut) (u : World) : LK K u u 0 (.slice none 0 0) [] [] := ⟨rfl, (own_start u).nil _ 4, fun i q h => by simp at h⟩
theorem LK.on {K : Nat → Aut} {u wr w2 : World} {k : Nat} {lv : Value} {qs : List Q4} {fs : List Ent} (h : LK K u wr k lv qs fs) (hb : Below wr.heap.size wr w2) : LK K u w2 k lv qs fs := ⟨h.1, h.2.1.on hb, h.2.2⟩
theorem LK.join {K : Nat → Aut} {u wr w2 : World} {k : Nat} {lv : Value} {qs : List Q4} {fs fs1 : List Ent} (h : LK K u wr k lv qs fs) (h1 : Own wr w2 [] fs1) : LK K u w2 k lv qs (fs1 ++ fs) := ⟨h.1, h.2.1.join h1, fun i q hq => (h.2.2 i q hq).more fun _ he => List.mem_append_right _ he⟩
/-- What a call has made beside the list. -/
theorem LK.beside {K : Nat → Aut} {u wr w2 : World} {k : Nat} {lv : Value} {qs : List Q4} {fs : List Ent} (h : LK K u wr k lv qs fs) {L s : Int} {A F : Option Addr} {n c m cf : Nat} {d : Aut} (hx : DfaOwn wr w2 (.agg #[.int .i64 L, .int .i64 s, .slice A n c, .slice F m cf]) d) :
    ∃ fs2, LK K u w2 k lv qs fs2 ∧ Held fs2 (L, s, (A, n, c), (F, m, cf)) d := by
  obtain ⟨nv, fv, rs, e, h2, h3, h4, h5, h6⟩ := hx
  exact ⟨_, h.join h3, (held_of (q := (L, s, (A, n, c), (F, m, cf))) e h2 h4 h5 h6).more fun _ he => List.mem_append_left _ he⟩
theorem lk_snoc {K : Nat → Aut} {u wr w2 : World} {k g cap : Nat} {lv : Value} {qs : List Q4} {q : Q4} {fs : List Ent} (h : LK K u wr k lv qs fs) (ho : Own u w2 [eDfas (.slice (some ⟨g, 0, none⟩) (qs.length + 1) cap) (qs ++ [q])] fs) (hq : Held fs q (K k)) :
    LK K u w2 (k + 1) (.slice (some ⟨g, 0, none⟩) (qs.length + 1) cap) (qs ++ [q]) fs := by
  refine ⟨by rw [List.length_append, h.1]; rfl, ho, fun i p hp => ?_⟩
  by_cases hi : i < qs.length
  · rw [List.getElem?_append_left hi] at hp
    exact h.2.2 i p hp
  · rw [List.getElem?_append_right (by omega)] at hp
    have h0 : i - qs.length = 0 := by
      rcases Nat.eq_zero_or_pos (i - qs.length) with h0 | h0
      · exact h0
      · rw [List.getElem?_eq_none (by simp; omega)] at hp; cases hp
    rw [h0] at hp
    obtain rfl : q = p := by simpa using hp
    obtain rfl : i = k := by have := h.1; omega
    exact hq
theorem LK.at_ {K : Nat → Aut} {u wr : World} {k g cap : Nat} {qs : List Q4} {fs : List Ent} (h : LK K u wr k (.slice (some ⟨g, 0, none⟩) k cap) qs fs) {i : Nat} (hi : i < k) :
    ∃ L s A n c F m cf, DfaAt wr wr.heap.size (.agg #[.int .i64 L, .int .i64 s, .slice A n c, .slice F m cf]) (K i) ∧ wr.cell? ⟨g, i * 4, none⟩ = some (.int .i64 L) ∧ wr.cell? ⟨g, i * 4 + 1, none⟩ = some (.int .i64 s) ∧ wr.cell? ⟨g, i * 4 + 2, none⟩ = some (.slice A n c) ∧ wr.cell? ⟨g, i * 4 + 3, none⟩ = some (.slice F m cf) ∧ g < wr.heap.size := by
  obtain ⟨h1, h2, h3⟩ := h
  subst h1
  obtain ⟨q, hq⟩ : ∃ q, qs[i]? = some q := ⟨_, List.getElem?_eq_getElem hi⟩
  have hg := q4s_get qs i q hq
  have hc := fun (j : Nat) (u : Value) (hj : (q4s qs)[j]? = some u) => (h2.cell (t := 25) (sz := 4) (n := qs.length) (cap := cap) (g := g) (xs := q4s qs) (by simp [eDfas]) hj).1
  have hd := h3 i _ hq u wr _ _ h2 (fun e he => he)
  obtain ⟨L, s, ⟨A, n, c⟩, F, m, cf⟩ := q
  refine ⟨L, s, A, n, c, F, m, cf, hd, hc _ _ ((hg 0 (by omega)).trans rfl), hc _ _ ((hg 1 (by omega)).trans rfl), hc _ _ ((hg 2 (by omega)).trans rfl), hc _ _ ((hg 3 (by omega)).trans rfl), ?_⟩
  exact (h2.lt (t := 25) (sz := 4) (n := qs.length) (cap := cap) (ad := ⟨g, 0, none⟩) (xs := q4s qs) (by simp [eDfas])).2
theorem LK.form {K : Nat → Aut} {u wr : World} {k : Nat} {lv : Value} {qs : List Q4} {fs : List Ent} (h : LK K u wr k lv qs fs) (hk : 0 < k) : ∃ g cap, lv = .slice (some ⟨g, 0, none⟩) k cap := by
  obtain ⟨h1, h2, _⟩ := h
  subst h1
  exact owns_some (h2.each _ List.mem_cons_self) hk
/-- What a callee has made is laid into a block that holds another. -/
theorem into_dfa {w1 w5 w6 : World} {gr : Nat} {a0 a1 a2 a3 : Value} {L s : Int} {nv fv : Value} {d : Aut} (ho : Own w1 w5 [eDfa gr [a0, a1, a2, a3]] []) (hx : DfaOwn w5 w6 (.agg #[.int .i64 L, .int .i64 s, nv, fv]) d) :
    DfaOwn w1 ((((w6.setCell ⟨gr, 0, none⟩ (.int .i64 L)).setCell ⟨gr, 1, none⟩ (.int .i64 s)).setCell ⟨gr, 2, none⟩ nv).setCell ⟨gr, 3, none⟩ fv) (.agg #[.int .i64 L, .int .i64 s, nv, fv]) d ∧
      ∀ j u, [Value.int .i64 L, .int .i64 s, nv, fv][j]? = some u → ((((w6.setCell ⟨gr, 0, none⟩ (.int .i64 L)).setCell ⟨gr, 1, none⟩ (.int .i64 s)).setCell ⟨gr, 2, none⟩ nv).setCell ⟨gr, 3, none⟩ fv).cell? ⟨gr, j, none⟩ = some u := by
  obtain ⟨nv', fv', rs, e, h2, h3, h4, h5, h6⟩ := hx
  have h := ho.join h3
  have h7 := (((h.dset 0 (.int .i64 L)).dset 1 (.int .i64 s)).dset 2 nv).dset 3 fv
  exact ⟨⟨nv', fv', rs, e, h2, h7.only.weak (fun e he => List.mem_append_left _ he), h4, h5, h6⟩, fun j u hj => (h7.dcell (g := gr) (l := [.int .i64 L, .int .i64 s, nv, fv]) (by simp) hj).1⟩
end Go.Proofs.YtciopfiddfmckaaDoor.Df
