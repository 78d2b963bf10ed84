/- Automata in many states, in memory: what reads as one, and what came in. -/
import Derived.Test.YtciopfiddfmckaaDoorDfaA
import Derived.Test.YtciopfiddfmckaaDoorDfaW
import Derived.Test.YtciopfiddfmckaaDoorDfaM
import Derived.Deep.Strs
import Derived.Deep.Slices
namespace Go.Proofs.YtciopfiddfmckaaDoor.Nf
open Go.RowKit Go.IntWalk Go.Proofs.YtciopfiddfmckaaDoor.Wd Go.Proofs.YtciopfiddfmckaaDoor.Wo Go.Proofs.YtciopfiddfmckaaDoor.Df Go.ChangeShapes Go.WideShapes

abbrev Mv := Int × Int × Int
def mcells (l : List Mv) : List Value := l.flatMap fun m => [i64 m.1, i64 m.2.1, i64 m.2.2]
theorem mcells_append (l m : List Mv) : mcells (l ++ m) = mcells l ++ mcells m := List.flatMap_append
theorem mcells_at : ∀ (l : List Mv) (k : Nat) (u : Value), (mcells l)[k]? = some u → ∃ i m, l[i]? = some m ∧ ((k = i * 3 ∧ u = i64 m.1) ∨ (k = i * 3 + 1 ∧ u = i64 m.2.1) ∨ (k = i * 3 + 2 ∧ u = i64 m.2.2))
  | [], k, u, h => by simp [mcells] at h
  | q :: l, k, u, h => by
    have e : mcells (q :: l) = i64 q.1 :: i64 q.2.1 :: i64 q.2.2 :: mcells l := rfl
    rw [e] at h
    match k, h with
    | 0, h => exact ⟨0, q, rfl, .inl ⟨rfl, by simpa using h.symm⟩⟩
    | 1, h => exact ⟨0, q, rfl, .inr (.inl ⟨rfl, by simpa using h.symm⟩)⟩
    | 2, h => exact ⟨0, q, rfl, .inr (.inr ⟨rfl, by simpa using h.symm⟩)⟩
    | k + 3, h =>
      obtain ⟨i, m, h1, h2⟩ := mcells_at l k u (by simpa using h)
      refine ⟨i + 1, m, by simpa using h1, ?_⟩
      rcases h2 with ⟨h2, h3⟩ | ⟨h2, h3⟩ | ⟨h2, h3⟩
      · exact .inl ⟨by omega, h3⟩
      · exact .inr (.inl ⟨by omega, h3⟩)
      · exact .inr (.inr ⟨by omega, h3⟩)
theorem mcells_get : ∀ (l : List Mv) (k : Nat) (p : Mv), l[k]? = some p → (mcells l)[k * 3]? = some (i64 p.1) ∧ (mcells l)[k * 3 + 1]? = some (i64 p.2.1) ∧ (mcells l)[k * 3 + 2]? = some (i64 p.2.2)
  | [], k, p, h => by simp at h
  | q :: l, 0, p, h => by
    simp only [List.getElem?_cons_zero, Option.some.injEq] at h
    subst h
    exact ⟨rfl, rfl, rfl⟩
  | q :: l, k + 1, p, h => by
    rw [List.getElem?_cons_succ] at h
    have := mcells_get l k p h
    have e : mcells (q :: l) = i64 q.1 :: i64 q.2.1 :: i64 q.2.2 :: mcells l := rfl
    rw [e, show (k + 1) * 3 = k * 3 + 1 + 1 + 1 by omega]
    simpa using this
def MvSmall (m : Mv) : Prop := Small m.1 ∧ Small m.2.1 ∧ Small m.2.2
/-- Rows of moves. -/
def MovesAt (w : World) (B : Nat) (A : Option Addr) (l : List Mv) : Prop := Cells w B A (mcells l) ∧ ∀ m ∈ l, MvSmall m
theorem MovesAt.nil (w : World) (B : Nat) (A : Option Addr) : MovesAt w B A [] := ⟨Cells.nil _ _ _, by simp⟩
theorem MovesAt.on {w w' : World} {A : Option Addr} {l : List Mv} (h : MovesAt w w.heap.size A l) (hb : Below w.heap.size w w') : MovesAt w' w'.heap.size A l := ⟨(Cells.below h.1 hb).more hb.size, h.2⟩
theorem MovesAt.at_ {w : World} {B : Nat} {A : Option Addr} {l : List Mv} (h : MovesAt w B A l) {k : Nat} {p : Mv} (hk : l[k]? = some p) :
    ∃ ad, A = some ad ∧ ad.block < B ∧ w.cell? (ad.add (k * 3)) = some (.int .i64 p.1) ∧ w.cell? ⟨(ad.add (k * 3)).block, (ad.add (k * 3)).off + 1, none⟩ = some (.int .i64 p.2.1) ∧ w.cell? ⟨(ad.add (k * 3)).block, (ad.add (k * 3)).off + 2, none⟩ = some (.int .i64 p.2.2) := by
  obtain ⟨h1, h2, h3⟩ := mcells_get l k p hk
  obtain ⟨ad, e, h4, h5⟩ := h.1 _ _ h1
  obtain ⟨ad2, e2, _, h6⟩ := h.1 _ _ h2
  obtain ⟨ad3, e3, _, h7⟩ := h.1 _ _ h3
  obtain rfl := Option.some.inj (e.symm.trans e2)
  obtain rfl := Option.some.inj (e.symm.trans e3)
  refine ⟨ad, e, h4, h5, ?_, ?_⟩
  · rw [← Addr.add_succ' (ad.add (k * 3)) 0, Addr.add_add]; exact h6
  · rw [← Addr.add_succ' (ad.add (k * 3)) 1, Addr.add_add]; exact h7
/-- A value that reads as such an automaton. -/
structure NfaIs (w : World) (B : Nat) (L n : Int) (A : Option Addr) (c : Nat) (M : Option Addr) (cm : Nat) (F : Option Addr) (cf : Nat) (a : Nfa) : Prop where
  eL : a.L = L
  en : a.n = n
  hL : Small L
  hn : Small n
  hc : a.st.length ≤ c
  hc2 : c ≤ 9223372036854775807
  hm : a.mv.length ≤ cm
  hm2 : cm ≤ 9223372036854775807
  hf : a.fin.length ≤ cf
  hf2 : cf ≤ 9223372036854775807
  st : IntsAt w B A a.st
  mv : MovesAt w B M a.mv
  fin : IntsAt w B F a.fin
def NfaAt (w : World) (B : Nat) (v : Value) (a : Nfa) : Prop :=
  ∃ L n A c M cm F cf, v = .agg #[.int .i64 L, .int .i64 n, .slice A a.st.length c, .slice M a.mv.length cm, .slice F a.fin.length cf] ∧ NfaIs w B L n A c M cm F cf a
theorem NfaIs.on {w w' : World} {L n : Int} {A M F : Option Addr} {c cm cf : Nat} {a : Nfa} (h : NfaIs w w.heap.size L n A c M cm F cf a) (hb : Below w.heap.size w w') : NfaIs w' w'.heap.size L n A c M cm F cf a :=
  ⟨h.eL, h.en, h.hL, h.hn, h.hc, h.hc2, h.hm, h.hm2, h.hf, h.hf2, h.st.on hb, h.mv.on hb, h.fin.on hb⟩
theorem NfaAt.on {w w' : World} {v : Value} {a : Nfa} (h : NfaAt w w.heap.size v a) (hb : Below w.heap.size w w') : NfaAt w' w'.heap.size v a := by
  obtain ⟨L, n, A, c, M, cm, F, cf, e, h1⟩ := h
  exact ⟨L, n, A, c, M, cm, F, cf, e, h1.on hb⟩
def zeroN : Nfa := ⟨0, 0, [], [], []⟩
theorem nfaAt_zero (w : World) (B : Nat) : NfaAt w B (.agg #[.int .i64 0, .int .i64 0, .slice none 0 0, .slice none 0 0, .slice none 0 0]) zeroN :=
  ⟨0, 0, none, 0, none, 0, none, 0, rfl, rfl, rfl, by unfold Small; omega, by unfold Small; omega, by simp [zeroN], by omega, by simp [zeroN], by omega, by simp [zeroN], by omega, IntsAt.nil _ _ _, MovesAt.nil _ _ _, IntsAt.nil _ _ _⟩

/-! ### what came in -/
section
variable {H : Type} {enc : TypeId × Value → H} {P : Program} {w : World} {base : Nat} {spare : Nat → Bool} {held : Bool}
theorem trod_struct5 {t : TypeId} {f0 f1 f2 f3 f4 : Field} {fuel : Nat} {cs : List Value} {x : DataW H × List MemPlace} (ht : P.underlying t = some (.struct #[f0, f1, f2, f3, f4])) (h : DataW.trod enc P w base spare held fuel t cs = some x) :
    ∃ y0 y1 y2 y3 y4 n, cs.length = P.cellsOf t ∧ DataW.trod enc P w base spare held n f0.type ((cs.drop f0.offset).take (P.cellsOf f0.type)) = some y0 ∧
      DataW.trod enc P w base spare held n f1.type ((cs.drop f1.offset).take (P.cellsOf f1.type)) = some y1 ∧ DataW.trod enc P w base spare held n f2.type ((cs.drop f2.offset).take (P.cellsOf f2.type)) = some y2 ∧
      DataW.trod enc P w base spare held n f3.type ((cs.drop f3.offset).take (P.cellsOf f3.type)) = some y3 ∧ DataW.trod enc P w base spare held n f4.type ((cs.drop f4.offset).take (P.cellsOf f4.type)) = some y4 := by
  obtain ⟨xs, n, _, rfl, hl, hlen, hf⟩ := DataW.trod_struct ht h
  match xs, hlen with
  | [y0, y1, y2, y3, y4], _ => exact ⟨y0, y1, y2, y3, y4, n, hl, by simpa using hf 0 f0 rfl, by simpa using hf 1 f1 rfl, by simpa using hf 2 f2 rfl, by simpa using hf 3 f3 rfl, by simpa using hf 4 f4 rfl⟩
theorem array5 {α : Type} {cs : Array α} (h : cs.size = 5) : ∃ c0 c1 c2 c3 c4, cs = #[c0, c1, c2, c3, c4] := by
  obtain ⟨l⟩ := cs
  match l, h with
  | [c0, c1, c2, c3, c4], _ => exact ⟨c0, c1, c2, c3, c4, rfl⟩
theorem open_agg5 {r : Reach} {b0 : Nat} {t : TypeId} {f0 f1 f2 f3 f4 : Field} {v : Value} {d : DataW H} {p : List MemPlace} (hs : P.underlying t = some (.struct #[f0, f1, f2, f3, f4])) (hone : Go.Deep.oneCellFields P #[f0, f1, f2, f3, f4] = true) (hC : P.cellsOf t = 5)
    (hv : Value.okWide P w r b0 t v) (h : DataW.Trod enc P w base spare held t v d p) :
    ∃ (v0 v1 v2 v3 v4 : Value) (y0 y1 y2 y3 y4 : DataW H × List MemPlace) (n : Nat), v = .agg #[v0, v1, v2, v3, v4] ∧
      DataW.trod enc P w base spare held n f0.type [v0] = some y0 ∧ DataW.trod enc P w base spare held n f1.type [v1] = some y1 ∧ DataW.trod enc P w base spare held n f2.type [v2] = some y2 ∧ DataW.trod enc P w base spare held n f3.type [v3] = some y3 ∧ DataW.trod enc P w base spare held n f4.type [v4] = some y4 := by
  obtain ⟨cs, rfl, hsz⟩ := okWide_struct hs hv
  obtain ⟨c0, c1, c2, c3, c4, rfl⟩ := array5 (hsz.trans hC)
  obtain ⟨fuel, hf⟩ := h
  obtain ⟨y0, y1, y2, y3, y4, n, _, h0, h1, h2, h3, h4⟩ := trod_struct5 hs hf
  obtain ⟨o0, k0⟩ := Go.Deep.hone_of hone 0 f0 rfl
  obtain ⟨o1, k1⟩ := Go.Deep.hone_of hone 1 f1 rfl
  obtain ⟨o2, k2⟩ := Go.Deep.hone_of hone 2 f2 rfl
  obtain ⟨o3, k3⟩ := Go.Deep.hone_of hone 3 f3 rfl
  obtain ⟨o4, k4⟩ := Go.Deep.hone_of hone 4 f4 rfl
  exact ⟨c0, c1, c2, c3, c4, y0, y1, y2, y3, y4, n, rfl, by simpa [Value.cells, o0, k0] using h0, by simpa [Value.cells, o1, k1] using h1, by simpa [Value.cells, o2, k2] using h2, by simpa [Value.cells, o3, k3] using h3, by simpa [Value.cells, o4, k4] using h4⟩
end
theorem wf_small {x : Int} (h : (Lit.int .i64 x).wf = true) : Small x := bounds_i64 h
theorem open_ints5 {H : Type} {enc : TypeId × Value → H} {w : World} {base : Nat} {spare : Nat → Bool} {held : Bool} {fuel : Nat} {v : Value} {x : DataW H × List MemPlace} (h : DataW.trod enc Tryd.prog w base spare held fuel 38 [v] = some x) :
    ∃ (A : Option Addr) (c : Nat) (l : List Int), v = .slice A l.length c ∧ l.length ≤ c ∧ c ≤ 9223372036854775807 ∧ IntsAt w w.heap.size A l := by
  rcases open_ints Tryd.underlying38 Tryd.underlying3 (by kernel_rfl) h with ⟨hcs, _⟩ | ⟨x, l, c, zs, hcs, _, hl, hm, hz, hx, hcell, hwz⟩
  · exact ⟨none, 0, [], by simpa using hcs, by simp, by omega, IntsAt.nil _ _ _⟩
  · unfold maxLen at hm
    have hk : (zs.take l).length = l := by
      rw [List.length_take]
      have : l ≤ zs.length := by rw [hz]; split <;> omega
      omega
    exact ⟨some x, c, zs.take l, by rw [hk]; simpa using hcs, by rw [hk]; exact hl, hm, intsAt_of_open hcell hwz l⟩
end Go.Proofs.YtciopfiddfmckaaDoor.Nf
