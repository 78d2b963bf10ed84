/- The rewriter of package mean in memory, and its add. The walk of the rewriter's node: the form with Not ahead of Is alone, by induction on the node's position. -/
import Derived.Test.YtloihkoamccacaaGreatDoorFormM
import Derived.Test.YtloihkoamccacaaGreatDoorNodes
import Derived.Handy

namespace Go.Proofs.YtloihkoamccacaaGreatDoor.Fm
open Go.RowKit Go.IntWalk Go.Proofs.YtloihkoamccacaaGreatDoor.Wd

def eRw (g : Nat) (l : List Value) : Ent := ⟨55, 2, .slice (some ⟨g, 0, none⟩) 1 1, 1, l⟩
/-- The rewriter: its block g, the old nodes, the new ones. -/
def Rw (w0 w : World) (g : Nat) (ov : Value) (fs : List Ent) (l : List Nd) : Prop := ∃ nv, Own w0 w [eRw g [ov, nv], eNodes nv l] fs
theorem Rw.on {w0 w w' : World} {g : Nat} {ov : Value} {fs : List Ent} {l : List Nd} (h : Rw w0 w g ov fs l) (hb : Below w.heap.size w w') : Rw w0 w' g ov fs l := by
  obtain ⟨nv, h⟩ := h
  exact ⟨nv, h.on hb⟩
theorem Rw.below {w0 w : World} {g : Nat} {ov : Value} {fs : List Ent} {l : List Nd} (h : Rw w0 w g ov fs l) : Below w0.heap.size w0 w := by
  obtain ⟨nv, h⟩ := h
  exact h.below
theorem Rw.less {w0 w : World} {g : Nat} {ov : Value} {fs fs' : List Ent} {l : List Nd} (h : Rw w0 w g ov fs l) (p : ∀ e ∈ fs', e ∈ fs) : Rw w0 w g ov fs' l := by
  obtain ⟨nv, h⟩ := h
  exact ⟨nv, h.weak p⟩
theorem Rw.form {w0 w : World} {g : Nat} {ov : Value} {fs : List Ent} {l : List Nd} (h : Rw w0 w g ov fs l) :
    ∃ A cap, w.cell? ⟨g, 0, none⟩ = some ov ∧ w.cell? ⟨g, 1, none⟩ = some (.slice A l.length cap) ∧ Own w0 w [eRw g [ov, .slice A l.length cap], eNodes (.slice A l.length cap) l] fs := by
  obtain ⟨nv, h⟩ := h
  obtain ⟨A, cap, hv, _⟩ := h.form (e := eNodes nv l) (by simp)
  simp only [eNodes] at hv
  subst hv
  have hm : eRw g [ov, .slice A l.length cap] ∈ [eRw g [ov, .slice A l.length cap], eNodes (.slice A l.length cap) l] ++ fs := by simp
  exact ⟨A, cap, (h.cell hm (j := 0) rfl).1, (h.cell hm (j := 1) rfl).1, h⟩
/-- A node that is a variable, laid to what is done. -/
def eBox (g : Nat) (n : Nd) : Ent := ⟨108, 3, .slice (some ⟨g, 0, none⟩) 1 1, 1, [.int .i64 n.1, .int .i64 n.2.1, .int .i64 n.2.2]⟩
theorem Rw.box {w0 w : World} {g : Nat} {ov : Value} {fs : List Ent} {l : List Nd} (h : Rw w0 w g ov fs l) (k a b : Int) :
    Rw w0 (w.alloc (.cells #[.int .i64 k, .int .i64 a, .int .i64 b] 108)) g ov (eBox w.heap.size (k, a, b) :: fs) l := by
  obtain ⟨nv, h⟩ := h
  exact ⟨nv, (h.lit 108 3 1 #[.int .i64 k, .int .i64 a, .int .i64 b] rfl (by simp [maxLen])).fin⟩
theorem Rw.boxCell {w0 w : World} {g g2 : Nat} {ov : Value} {fs : List Ent} {l : List Nd} {k a b : Int} (h : Rw w0 w g ov (eBox g2 (k, a, b) :: fs) l) :
    w.cell? ⟨g2, 0, none⟩ = some (.int .i64 k) ∧ w.cell? ⟨g2, 1, none⟩ = some (.int .i64 a) ∧ w.cell? ⟨g2, 2, none⟩ = some (.int .i64 b) := by
  obtain ⟨nv, h⟩ := h
  have hm : eBox g2 (k, a, b) ∈ [eRw g [ov, nv], eNodes nv l] ++ (eBox g2 (k, a, b) :: fs) := by simp
  exact ⟨(h.cell (j := 0) hm rfl).1, (h.cell (j := 1) hm rfl).1, (h.cell (j := 2) hm rfl).1⟩
theorem box_mem {x : Ent} {fs : List Ent} : ∀ e ∈ fs, e ∈ x :: fs := fun _ h => List.mem_cons_of_mem _ h
set_option maxRecDepth 100000 in
set_option maxHeartbeats 1000000 in
theorem padd_any {w0 w : World} {g : Nat} {ov : Value} {fs : List Ent} {l : List Nd} (h : Rw w0 w g ov fs l) (hl : l.length ≤ 1000) (k a b : Int) :
    Calls Tryz.prog 52 #[.pointer (some ⟨g, 0, none⟩), .int .i64 k, .int .i64 a, .int .i64 b] w fun e w' => e = .returned (.int .i64 (l.length : Int)) ∧ Hid (Rw w0 w' g ov fs (l ++ [(k, a, b)])) := by
  obtain ⟨A, cap, hc0, hc1, ho⟩ := h.form
  have HO := Lib.hid ho.two
  obtain ⟨n, hn⟩ : ∃ n, l.length = n := ⟨_, rfl⟩
  have HN := Lib.hid hn
  rw [hn] at hl hc1 HO ⊢
  have hb : l.length < 1099511627776 := by omega
  clear h ho hn
  go_enter Tryz.func52, Tryz.ntmps52
  go_wp2_with (at_builtin; refine own_node (m := (k, a, b)) (by rfl) _ _ (by rfl) (by rfl) HO.out (by rfl) hb ?_)
  intro g6 cap6 w6 ho6
  rw [HN.out] at ho6 ⊢
  have hm : eRw g [ov, .slice A n cap] ∈ [eNodes (.slice (some ⟨g6, 0, none⟩) (n + 1) cap6) (l ++ [(k, a, b)]), eRw g [ov, .slice A n cap]] ++ fs := by simp
  obtain ⟨t0, t1⟩ := ho6.cell hm (j := 1) rfl
  have hs := Own.set (t := 55) (sz := 2) (n := 1) (cap := 1) (g := g) (xs := [ov, .slice A n cap]) ho6.two 1 (.slice (some ⟨g6, 0, none⟩) (n + 1) cap6)
  have HS : Hid (Rw w0 (w6.setCell ⟨g, 1, none⟩ (.slice (some ⟨g6, 0, none⟩) (n + 1) cap6)) g ov fs (l ++ [(k, a, b)])) := ⟨_, hs⟩
  have hlt := (ho6.lt (ad := ⟨g, 0, none⟩) hm).2
  clear ho6 HO hm hs hc0 hc1 hb
  go_wp2
  go_ret
  exact ⟨rfl, HS.out⟩
end Go.Proofs.YtloihkoamccacaaGreatDoor.Fm

namespace Go.Proofs.YtloihkoamccacaaGreatDoor.Fm
open Go.RowKit Go.IntWalk Go.Proofs.YtloihkoamccacaaGreatDoor.Wd
set_option linter.unusedVariables false

/-- What a kind becomes in a negated node. -/
def exch (k : Nat) : Nat := if k = 2 ∨ k = 3 then k else dual k
/-- The table of what a kind becomes. -/
def ExAt (w : World) : Prop := ∀ k, k < 10 → w.cell? ⟨0, k, none⟩ = some (.int .i64 ((exch k : Nat) : Int))
theorem ExAt.on {w w' : World} (h : ExAt w) (hb : Below w.heap.size w w') : ExAt w' := fun k hk => (hb.cell (World.block_lt_of_cell? w _ (h k hk))).trans (h k hk)
/-- What node leaves: the nodes of the whole, or too many. -/
def NodeOut (w0 : World) (g : Nat) (ov : Value) (fs : List Ent) (l : List Nd) (t : Tree) (b : Bool) (i : Nat) (e : Ending) (w' : World) : Prop :=
  ∃ (r : Int) (l' : List Nd), e = .returned (.int .i64 r) ∧ Hid (Rw w0 w' g ov fs l') ∧
    Hid ((l.length + (nnf b t).size ≤ 40 ∧ r = ((l.length + (nnf b t).size : Nat) : Int) - 1 ∧ l' = flat (nnf b t) l) ∨
     (40 < l.length + (nnf b t).size ∧ 40 < l'.length ∧ l'.length ≤ max l.length (43 + i)))
theorem size_pos (t : Tree) : 1 ≤ t.size := by cases t <;> simp [Tree.size] <;> omega
theorem out_big {l : List Nd} {t : Tree} {b : Bool} {i : Nat} (h : 40 < l.length) (r : Int) :
    (l.length + (nnf b t).size ≤ 40 ∧ r = ((l.length + (nnf b t).size : Nat) : Int) - 1 ∧ l = flat (nnf b t) l) ∨ (40 < l.length + (nnf b t).size ∧ 40 < l.length ∧ l.length ≤ max l.length (43 + i)) :=
  .inr ⟨by omega, h, by omega⟩
/-- A node without operands. -/
theorem out_leaf {l : List Nd} {t : Tree} {b : Bool} {i : Nat} {k : Nat} {a : Nat} (h : l.length ≤ 40) (ht : nnf b t = .leaf k a) {n : Nd} (hn : n = ((k : Int), (a : Int), 0)) :
    (l.length + (nnf b t).size ≤ 40 ∧ (l.length : Int) = ((l.length + (nnf b t).size : Nat) : Int) - 1 ∧ l ++ [n] = flat (nnf b t) l) ∨ (40 < l.length + (nnf b t).size ∧ 40 < (l ++ [n]).length ∧ (l ++ [n]).length ≤ max l.length (43 + i)) := by
  rw [ht, hn]
  simp only [Tree.size, flat, List.length_append, List.length_singleton]
  by_cases h2 : l.length + 1 ≤ 40
  · exact .inl ⟨h2, by omega, trivial⟩
  · exact .inr ⟨by omega, by omega, by omega⟩
set_option linter.unusedSimpArgs false in
theorem out_is {l : List Nd} {t : Tree} {b : Bool} {i : Nat} {a : Nat} (h : l.length ≤ 40) (ht : nnf b t = .un 3 (.leaf 2 a)) {n : Nd} (hn : n = (2, (a : Int), 0)) {r : Int} (hr : r = ((l ++ [n]).length : Int)) :
    (l.length + (nnf b t).size ≤ 40 ∧ r = ((l.length + (nnf b t).size : Nat) : Int) - 1 ∧ l ++ [n] ++ [(3, (l.length : Int), 0)] = flat (nnf b t) l) ∨ (40 < l.length + (nnf b t).size ∧ 40 < (l ++ [n] ++ [(3, (l.length : Int), (0 : Int))]).length ∧ (l ++ [n] ++ [(3, (l.length : Int), (0 : Int))]).length ≤ max l.length (43 + i)) := by
  rw [ht, hr, hn]
  simp only [Tree.size, flat, List.length_append, List.length_singleton, List.length_cons, List.length_nil]
  by_cases h2 : l.length + 2 ≤ 40
  · refine .inl ⟨by omega, by omega, ?_⟩
    rw [Nat.add_sub_cancel]; rfl
  · exact .inr ⟨by omega, by omega, by omega⟩
/-- Another name for the tree: of Not. -/
theorem out_not {l l' : List Nd} {t t' : Tree} {b b' : Bool} {i j : Nat} {r : Int} (hij : j < i) (ht : nnf b t = nnf b' t')
    (h : (l.length + (nnf b' t').size ≤ 40 ∧ r = ((l.length + (nnf b' t').size : Nat) : Int) - 1 ∧ l' = flat (nnf b' t') l) ∨ (40 < l.length + (nnf b' t').size ∧ 40 < l'.length ∧ l'.length ≤ max l.length (43 + j))) :
    (l.length + (nnf b t).size ≤ 40 ∧ r = ((l.length + (nnf b t).size : Nat) : Int) - 1 ∧ l' = flat (nnf b t) l) ∨ (40 < l.length + (nnf b t).size ∧ 40 < l'.length ∧ l'.length ≤ max l.length (43 + i)) := by
  rw [ht]
  rcases h with h | ⟨h1, h2, h3⟩
  · exact .inl h
  · exact .inr ⟨h1, h2, by omega⟩
theorem out_un {l l1 : List Nd} {t t' : Tree} {b : Bool} {i j : Nat} {r1 : Int} {k : Nat} (hl : l.length ≤ 40) (hij : j < i) (ht : nnf b t = .un k (nnf b t'))
    (h : (l.length + (nnf b t').size ≤ 40 ∧ r1 = ((l.length + (nnf b t').size : Nat) : Int) - 1 ∧ l1 = flat (nnf b t') l) ∨ (40 < l.length + (nnf b t').size ∧ 40 < l1.length ∧ l1.length ≤ max l.length (43 + j))) {n : Nd} (hn : n = ((k : Int), r1, 0)) :
    (l.length + (nnf b t).size ≤ 40 ∧ (l1.length : Int) = ((l.length + (nnf b t).size : Nat) : Int) - 1 ∧ l1 ++ [n] = flat (nnf b t) l) ∨ (40 < l.length + (nnf b t).size ∧ 40 < (l1 ++ [n]).length ∧ (l1 ++ [n]).length ≤ max l.length (43 + i)) := by
  rw [ht, hn]
  simp only [Tree.size, flat, List.length_append, List.length_singleton]
  have hp := size_pos (nnf b t')
  rcases h with ⟨h1, h2, h3⟩ | ⟨h1, h2, h3⟩
  · have hl1 : l1.length = l.length + (nnf b t').size := by rw [h3, flat_length]
    by_cases h4 : l.length + (nnf b t').size + 1 ≤ 40
    · refine .inl ⟨by omega, by omega, ?_⟩
      rw [← h3, hl1, h2]
      have : ((l.length + (nnf b t').size : Nat) : Int) - 1 = ((l.length + (nnf b t').size - 1 : Nat) : Int) := by omega
      rw [this]
    · exact .inr ⟨by omega, by omega, by omega⟩
  · exact .inr ⟨by omega, by omega, by omega⟩
theorem out_bin {l l1 l2 : List Nd} {t t' u' : Tree} {b : Bool} {i j j2 : Nat} {r1 r2 : Int} {k : Nat} (hl : l.length ≤ 40) (hij : j < i) (hij2 : j2 < i) (ht : nnf b t = .bin k (nnf b t') (nnf b u'))
    (h : (l.length + (nnf b t').size ≤ 40 ∧ r1 = ((l.length + (nnf b t').size : Nat) : Int) - 1 ∧ l1 = flat (nnf b t') l) ∨ (40 < l.length + (nnf b t').size ∧ 40 < l1.length ∧ l1.length ≤ max l.length (43 + j)))
    (h' : (l1.length + (nnf b u').size ≤ 40 ∧ r2 = ((l1.length + (nnf b u').size : Nat) : Int) - 1 ∧ l2 = flat (nnf b u') l1) ∨ (40 < l1.length + (nnf b u').size ∧ 40 < l2.length ∧ l2.length ≤ max l1.length (43 + j2))) {n : Nd} (hn : n = ((k : Int), r1, r2)) :
    (l.length + (nnf b t).size ≤ 40 ∧ (l2.length : Int) = ((l.length + (nnf b t).size : Nat) : Int) - 1 ∧ l2 ++ [n] = flat (nnf b t) l) ∨ (40 < l.length + (nnf b t).size ∧ 40 < (l2 ++ [n]).length ∧ (l2 ++ [n]).length ≤ max l.length (43 + i)) := by
  rw [ht, hn]
  simp only [Tree.size, flat, List.length_append, List.length_singleton]
  have hp := size_pos (nnf b t')
  have hp2 := size_pos (nnf b u')
  rcases h with ⟨h1, h2, h3⟩ | ⟨h1, h2, h3⟩
  · have hl1 : l1.length = l.length + (nnf b t').size := by rw [h3, flat_length]
    rcases h' with ⟨k1, k2, k3⟩ | ⟨k1, k2, k3⟩
    · have hl2 : l2.length = l1.length + (nnf b u').size := by rw [k3, flat_length]
      by_cases h4 : l.length + (nnf b t').size + (nnf b u').size + 1 ≤ 40
      · refine .inl ⟨by omega, by omega, ?_⟩
        rw [← h3, ← k3, hl1, hl2, h2, k2]
        have e1 : ((l.length + (nnf b t').size : Nat) : Int) - 1 = ((l.length + (nnf b t').size - 1 : Nat) : Int) := by omega
        have e2 : ((l1.length + (nnf b u').size : Nat) : Int) - 1 = ((l1.length + (nnf b u').size - 1 : Nat) : Int) := by omega
        rw [e1, e2]
      · exact .inr ⟨by omega, by omega, by omega⟩
    · exact .inr ⟨by omega, by omega, by omega⟩
  · rcases h' with ⟨k1, k2, k3⟩ | ⟨k1, k2, k3⟩
    · omega
    · exact .inr ⟨by omega, by omega, by omega⟩
/-- How long a list is behind a call. -/
theorem out_len {l l' : List Nd} {t : Tree} {b : Bool} {j : Nat} {r : Int} (h : (l.length + (nnf b t).size ≤ 40 ∧ r = ((l.length + (nnf b t).size : Nat) : Int) - 1 ∧ l' = flat (nnf b t) l) ∨ (40 < l.length + (nnf b t).size ∧ 40 < l'.length ∧ l'.length ≤ max l.length (43 + j))) (hl : l.length ≤ 90) (hj : j ≤ 40) : l'.length ≤ 90 := by
  rcases h with ⟨h1, _, h3⟩ | ⟨_, _, h3⟩
  · rw [h3, flat_length]; omega
  · omega
set_option maxRecDepth 100000 in
set_option maxHeartbeats 4000000 in
theorem node_leaf {w0 w : World} {g : Nat} {ad : Addr} {c n : Nat} {fs : List Ent} {l : List Nd} (h : Rw w0 w g (.slice (some ad) n c) fs l) (hl : l.length ≤ 40) (hX : ExAt w) {i : Nat} {x y : Int} {k0 : Nat}
    (hi : i < n) (c0 : w.cell? (ad.add (i * 3)) = some (.int .i64 (k0 : Int))) (c1 : w.cell? ⟨(ad.add (i * 3)).block, (ad.add (i * 3)).off + 1, none⟩ = some (.int .i64 x)) (c2 : w.cell? ⟨(ad.add (i * 3)).block, (ad.add (i * 3)).off + 2, none⟩ = some (.int .i64 y)) (hadb : ad.block < w.heap.size) (b : Bool) (hk : k0 = 0 ∨ k0 = 1) :
    Calls Tryz.prog 21 #[.pointer (some ⟨g, 0, none⟩), .int .i64 (i : Int), .bool b] w (NodeOut w0 g (.slice (some ad) n c) fs l (.leaf k0 0) b i) := by
  rcases hk with rfl | rfl <;> rcases b with _ | _
  · have HQ := Lib.hid (out_leaf (i := i) (t := .leaf 0 0) (b := false) (k := 0) (a := 0) hl rfl (n := (0, 0, 0)) rfl)
    have hc0 := h.form
    obtain ⟨A9, cap9, o0, o1, _⟩ := hc0
    have hi2 : (i : Int) < (n : Int) := by omega
    have hl2 : (l.length : Int) ≤ 40 := by omega
    obtain ⟨W1, hW1⟩ : ∃ W1, W1 = w.alloc (.cells #[.int .i64 0, .int .i64 x, .int .i64 y] 108) := ⟨_, rfl⟩
    have HW1 := Lib.hid hW1
    have H1 : Hid (Rw w0 W1 g (.slice (some ad) n c) (eBox w.heap.size (0, x, y) :: fs) l) := by rw [hW1]; exact h.box 0 x y
    obtain ⟨v0, v1, v2⟩ := H1.out.boxCell
    have hlt1 : w.heap.size < W1.heap.size := by rw [hW1]; simp
    clear hW1 hX h
    go_enter Tryz.func21, Tryz.ntmps21
    have HC := Lib.hid (padd_any H1.out (by omega) 0 0 0)
    go_wp2_with fail
    rw [← HW1.out]
    refine HC.out.mono ?_
    rintro e w2 ⟨rfl, h2⟩
    clear HC c0 c1 c2 v0 v1 v2
    go_wp2
    go_ret
    exact ⟨_, _, rfl, Lib.hid (h2.out.less box_mem), HQ⟩
  · have HQ := Lib.hid (out_leaf (i := i) (t := .leaf 0 0) (b := true) (k := 1) (a := 0) hl rfl (n := (1, 0, 0)) rfl)
    have hc0 := h.form
    obtain ⟨A9, cap9, o0, o1, _⟩ := hc0
    have hx : w.cell? ⟨0, 0, none⟩ = some (.int .i64 1) := hX 0 (by decide)
    have hG := World.block_lt_of_cell? w _ hx
    have hi2 : (i : Int) < (n : Int) := by omega
    have hl2 : (l.length : Int) ≤ 40 := by omega
    obtain ⟨W1, hW1⟩ : ∃ W1, W1 = w.alloc (.cells #[.int .i64 0, .int .i64 x, .int .i64 y] 108) := ⟨_, rfl⟩
    have HW1 := Lib.hid hW1
    have H1 : Hid (Rw w0 W1 g (.slice (some ad) n c) (eBox w.heap.size (0, x, y) :: fs) l) := by rw [hW1]; exact h.box 0 x y
    obtain ⟨v0, v1, v2⟩ := H1.out.boxCell
    have hlt1 : w.heap.size < W1.heap.size := by rw [hW1]; simp
    clear hW1 hX h
    go_enter Tryz.func21, Tryz.ntmps21
    have HC := Lib.hid (padd_any H1.out (by omega) 1 0 0)
    go_wp2_with fail
    rw [← HW1.out]
    refine HC.out.mono ?_
    rintro e w2 ⟨rfl, h2⟩
    clear HC c0 c1 c2 v0 v1 v2
    go_wp2
    go_ret
    exact ⟨_, _, rfl, Lib.hid (h2.out.less box_mem), HQ⟩
  · have HQ := Lib.hid (out_leaf (i := i) (t := .leaf 1 0) (b := false) (k := 1) (a := 0) hl rfl (n := (1, 0, 0)) rfl)
    have hc0 := h.form
    obtain ⟨A9, cap9, o0, o1, _⟩ := hc0
    have hi2 : (i : Int) < (n : Int) := by omega
    have hl2 : (l.length : Int) ≤ 40 := by omega
    obtain ⟨W1, hW1⟩ : ∃ W1, W1 = w.alloc (.cells #[.int .i64 1, .int .i64 x, .int .i64 y] 108) := ⟨_, rfl⟩
    have HW1 := Lib.hid hW1
    have H1 : Hid (Rw w0 W1 g (.slice (some ad) n c) (eBox w.heap.size (1, x, y) :: fs) l) := by rw [hW1]; exact h.box 1 x y
    obtain ⟨v0, v1, v2⟩ := H1.out.boxCell
    have hlt1 : w.heap.size < W1.heap.size := by rw [hW1]; simp
    clear hW1 hX h
    go_enter Tryz.func21, Tryz.ntmps21
    have HC := Lib.hid (padd_any H1.out (by omega) 1 0 0)
    go_wp2_with fail
    rw [← HW1.out]
    refine HC.out.mono ?_
    rintro e w2 ⟨rfl, h2⟩
    clear HC c0 c1 c2 v0 v1 v2
    go_wp2
    go_ret
    exact ⟨_, _, rfl, Lib.hid (h2.out.less box_mem), HQ⟩
  · have HQ := Lib.hid (out_leaf (i := i) (t := .leaf 1 0) (b := true) (k := 0) (a := 0) hl rfl (n := (0, 0, 0)) rfl)
    have hc0 := h.form
    obtain ⟨A9, cap9, o0, o1, _⟩ := hc0
    have hx : w.cell? ⟨0, 1, none⟩ = some (.int .i64 0) := hX 1 (by decide)
    have hG := World.block_lt_of_cell? w _ hx
    have hi2 : (i : Int) < (n : Int) := by omega
    have hl2 : (l.length : Int) ≤ 40 := by omega
    obtain ⟨W1, hW1⟩ : ∃ W1, W1 = w.alloc (.cells #[.int .i64 1, .int .i64 x, .int .i64 y] 108) := ⟨_, rfl⟩
    have HW1 := Lib.hid hW1
    have H1 : Hid (Rw w0 W1 g (.slice (some ad) n c) (eBox w.heap.size (1, x, y) :: fs) l) := by rw [hW1]; exact h.box 1 x y
    obtain ⟨v0, v1, v2⟩ := H1.out.boxCell
    have hlt1 : w.heap.size < W1.heap.size := by rw [hW1]; simp
    clear hW1 hX h
    go_enter Tryz.func21, Tryz.ntmps21
    have HC := Lib.hid (padd_any H1.out (by omega) 0 0 0)
    go_wp2_with fail
    rw [← HW1.out]
    refine HC.out.mono ?_
    rintro e w2 ⟨rfl, h2⟩
    clear HC c0 c1 c2 v0 v1 v2
    go_wp2
    go_ret
    exact ⟨_, _, rfl, Lib.hid (h2.out.less box_mem), HQ⟩
set_option maxRecDepth 100000 in
set_option maxHeartbeats 4000000 in
theorem node_is {w0 w : World} {g : Nat} {ad : Addr} {c n : Nat} {fs : List Ent} {l : List Nd} (h : Rw w0 w g (.slice (some ad) n c) fs l) (hl : l.length ≤ 40) (hX : ExAt w) {i : Nat} {x y : Int} {k0 : Nat}
    (hi : i < n) (c0 : w.cell? (ad.add (i * 3)) = some (.int .i64 (k0 : Int))) (c1 : w.cell? ⟨(ad.add (i * 3)).block, (ad.add (i * 3)).off + 1, none⟩ = some (.int .i64 x)) (c2 : w.cell? ⟨(ad.add (i * 3)).block, (ad.add (i * 3)).off + 2, none⟩ = some (.int .i64 y)) (hadb : ad.block < w.heap.size) (a : Nat) (hxa : x = (a : Int)) (b : Bool) (hk : k0 = 2) :
    Calls Tryz.prog 21 #[.pointer (some ⟨g, 0, none⟩), .int .i64 (i : Int), .bool b] w (NodeOut w0 g (.slice (some ad) n c) fs l (.leaf 2 a) b i) := by
  subst hk
  subst hxa
  rcases b with _ | _
  · have HQ := Lib.hid (out_leaf (i := i) (t := .leaf 2 a) (b := false) (k := 2) (a := a) hl rfl (n := (2, (a : Int), 0)) rfl)
    have hc0 := h.form
    obtain ⟨A9, cap9, o0, o1, _⟩ := hc0
    have hi2 : (i : Int) < (n : Int) := by omega
    have hl2 : (l.length : Int) ≤ 40 := by omega
    obtain ⟨W1, hW1⟩ : ∃ W1, W1 = w.alloc (.cells #[.int .i64 2, .int .i64 (a : Int), .int .i64 y] 108) := ⟨_, rfl⟩
    have HW1 := Lib.hid hW1
    have H1 : Hid (Rw w0 W1 g (.slice (some ad) n c) (eBox w.heap.size (2, (a : Int), y) :: fs) l) := by rw [hW1]; exact h.box 2 (a : Int) y
    obtain ⟨v0, v1, v2⟩ := H1.out.boxCell
    have hlt1 : w.heap.size < W1.heap.size := by rw [hW1]; simp
    clear hW1 hX h
    go_enter Tryz.func21, Tryz.ntmps21
    have HC := Lib.hid (padd_any H1.out (by omega) 2 (a : Int) 0)
    go_wp2_with fail
    rw [← HW1.out]
    refine HC.out.mono ?_
    rintro e w2 ⟨rfl, h2⟩
    clear HC c0 c1 c2 v0 v1 v2
    go_wp2
    go_ret
    exact ⟨_, _, rfl, Lib.hid (h2.out.less box_mem), HQ⟩
  · have HQ := Lib.hid (out_is (i := i) (t := .leaf 2 a) (b := true) (a := a) hl rfl (n := (2, (a : Int), 0)) rfl (r := (l.length : Int) + 1) (by simp))
    have hc0 := h.form
    obtain ⟨A9, cap9, o0, o1, _⟩ := hc0
    have hx : w.cell? ⟨0, 2, none⟩ = some (.int .i64 2) := hX 2 (by decide)
    have hG := World.block_lt_of_cell? w _ hx
    have hi2 : (i : Int) < (n : Int) := by omega
    have hl2 : (l.length : Int) ≤ 40 := by omega
    obtain ⟨W1, hW1⟩ : ∃ W1, W1 = w.alloc (.cells #[.int .i64 2, .int .i64 (a : Int), .int .i64 y] 108) := ⟨_, rfl⟩
    have HW1 := Lib.hid hW1
    have H1 : Hid (Rw w0 W1 g (.slice (some ad) n c) (eBox w.heap.size (2, (a : Int), y) :: fs) l) := by rw [hW1]; exact h.box 2 (a : Int) y
    obtain ⟨v0, v1, v2⟩ := H1.out.boxCell
    have hlt1 : w.heap.size < W1.heap.size := by rw [hW1]; simp
    clear hW1 hX h
    go_enter Tryz.func21, Tryz.ntmps21
    have HC := Lib.hid (padd_any H1.out (by omega) 2 (a : Int) 0)
    go_wp2_with fail
    rw [← HW1.out]
    refine HC.out.mono ?_
    rintro e w2 ⟨rfl, h2⟩
    clear HC c0 c1 c2 v0 v1 v2
    have HC2 := Lib.hid (padd_any h2.out (by simp; omega) 3 (l.length : Int) 0)
    clear h2
    go_wp2_with fail
    refine HC2.out.mono ?_
    rintro e w3 ⟨rfl, h3⟩
    clear HC2
    go_wp2
    go_ret
    exact ⟨_, _, rfl, Lib.hid (h3.out.less box_mem), HQ⟩
set_option maxRecDepth 100000 in
set_option maxHeartbeats 4000000 in
theorem node_not {w0 w : World} {g : Nat} {ad : Addr} {c n : Nat} {fs : List Ent} {l : List Nd} (h : Rw w0 w g (.slice (some ad) n c) fs l) (hl : l.length ≤ 40) (hX : ExAt w) {i : Nat} {x y : Int} {k0 : Nat}
    (hi : i < n) (c0 : w.cell? (ad.add (i * 3)) = some (.int .i64 (k0 : Int))) (c1 : w.cell? ⟨(ad.add (i * 3)).block, (ad.add (i * 3)).off + 1, none⟩ = some (.int .i64 x)) (c2 : w.cell? ⟨(ad.add (i * 3)).block, (ad.add (i * 3)).off + 2, none⟩ = some (.int .i64 y)) (hadb : ad.block < w.heap.size) {j : Nat} (hj : j < i) {t : Tree} (ihj : ∀ (b : Bool) (fs : List Ent) (l : List Nd) (W : World), Rw w0 W g (.slice (some ad) n c) fs l → l.length ≤ 90 → Calls Tryz.prog 21 #[.pointer (some ⟨g, 0, none⟩), .int .i64 (j : Int), .bool b] W (NodeOut w0 g (.slice (some ad) n c) fs l t b j)) (hej : x = (j : Int)) (b : Bool) (hk : k0 = 3) (hi40 : i ≤ 40) :
    Calls Tryz.prog 21 #[.pointer (some ⟨g, 0, none⟩), .int .i64 (i : Int), .bool b] w (NodeOut w0 g (.slice (some ad) n c) fs l (.un 3 t) b i) := by
  subst hk
  subst hej
  rcases b with _ | _
  · have HI := Lib.hid (ihj true)
    have hc0 := h.form
    obtain ⟨A9, cap9, o0, o1, _⟩ := hc0
    have hi2 : (i : Int) < (n : Int) := by omega
    have hl2 : (l.length : Int) ≤ 40 := by omega
    obtain ⟨W1, hW1⟩ : ∃ W1, W1 = w.alloc (.cells #[.int .i64 3, .int .i64 (j : Int), .int .i64 y] 108) := ⟨_, rfl⟩
    have HW1 := Lib.hid hW1
    have H1 : Hid (Rw w0 W1 g (.slice (some ad) n c) (eBox w.heap.size (3, (j : Int), y) :: fs) l) := by rw [hW1]; exact h.box 3 (j : Int) y
    obtain ⟨v0, v1, v2⟩ := H1.out.boxCell
    have hlt1 : w.heap.size < W1.heap.size := by rw [hW1]; simp
    clear hW1 hX h
    go_enter Tryz.func21, Tryz.ntmps21
    have HC := Lib.hid (HI.out _ _ _ H1.out (by omega))
    go_wp2_with fail
    rw [← HW1.out]
    refine HC.out.mono ?_
    rintro e w2 ⟨r2, l2, rfl, h2, q2⟩
    clear HC c0 c1 c2 v0 v1 v2
    go_wp2
    go_ret
    exact ⟨_, _, rfl, Lib.hid (h2.out.less box_mem), Lib.hid (out_not hj (by rfl) q2.out)⟩
  · have HI := Lib.hid (ihj false)
    have hc0 := h.form
    obtain ⟨A9, cap9, o0, o1, _⟩ := hc0
    have hx : w.cell? ⟨0, 3, none⟩ = some (.int .i64 3) := hX 3 (by decide)
    have hG := World.block_lt_of_cell? w _ hx
    have hi2 : (i : Int) < (n : Int) := by omega
    have hl2 : (l.length : Int) ≤ 40 := by omega
    obtain ⟨W1, hW1⟩ : ∃ W1, W1 = w.alloc (.cells #[.int .i64 3, .int .i64 (j : Int), .int .i64 y] 108) := ⟨_, rfl⟩
    have HW1 := Lib.hid hW1
    have H1 : Hid (Rw w0 W1 g (.slice (some ad) n c) (eBox w.heap.size (3, (j : Int), y) :: fs) l) := by rw [hW1]; exact h.box 3 (j : Int) y
    obtain ⟨v0, v1, v2⟩ := H1.out.boxCell
    have hlt1 : w.heap.size < W1.heap.size := by rw [hW1]; simp
    clear hW1 hX h
    go_enter Tryz.func21, Tryz.ntmps21
    have HC := Lib.hid (HI.out _ _ _ H1.out (by omega))
    go_wp2_with fail
    rw [← HW1.out]
    refine HC.out.mono ?_
    rintro e w2 ⟨r2, l2, rfl, h2, q2⟩
    clear HC c0 c1 c2 v0 v1 v2
    go_wp2
    go_ret
    exact ⟨_, _, rfl, Lib.hid (h2.out.less box_mem), Lib.hid (out_not hj (by rfl) q2.out)⟩
set_option maxRecDepth 100000 in
set_option maxHeartbeats 4000000 in
theorem node_un {w0 w : World} {g : Nat} {ad : Addr} {c n : Nat} {fs : List Ent} {l : List Nd} (h : Rw w0 w g (.slice (some ad) n c) fs l) (hl : l.length ≤ 40) (hX : ExAt w) {i : Nat} {x y : Int} {k0 : Nat}
    (hi : i < n) (c0 : w.cell? (ad.add (i * 3)) = some (.int .i64 (k0 : Int))) (c1 : w.cell? ⟨(ad.add (i * 3)).block, (ad.add (i * 3)).off + 1, none⟩ = some (.int .i64 x)) (c2 : w.cell? ⟨(ad.add (i * 3)).block, (ad.add (i * 3)).off + 2, none⟩ = some (.int .i64 y)) (hadb : ad.block < w.heap.size) {j : Nat} (hj : j < i) {t : Tree} (ihj : ∀ (b : Bool) (fs : List Ent) (l : List Nd) (W : World), Rw w0 W g (.slice (some ad) n c) fs l → l.length ≤ 90 → Calls Tryz.prog 21 #[.pointer (some ⟨g, 0, none⟩), .int .i64 (j : Int), .bool b] W (NodeOut w0 g (.slice (some ad) n c) fs l t b j)) (hej : x = (j : Int)) (b : Bool) (hk : k0 = 6 ∨ k0 = 7) (hi40 : i ≤ 40) :
    Calls Tryz.prog 21 #[.pointer (some ⟨g, 0, none⟩), .int .i64 (i : Int), .bool b] w (NodeOut w0 g (.slice (some ad) n c) fs l (.un k0 t) b i) := by
  subst hej
  rcases hk with rfl | rfl <;> rcases b with _ | _
  · have HI := Lib.hid (ihj false)
    have hc0 := h.form
    obtain ⟨A9, cap9, o0, o1, _⟩ := hc0
    have hi2 : (i : Int) < (n : Int) := by omega
    have hl2 : (l.length : Int) ≤ 40 := by omega
    obtain ⟨W1, hW1⟩ : ∃ W1, W1 = w.alloc (.cells #[.int .i64 6, .int .i64 (j : Int), .int .i64 y] 108) := ⟨_, rfl⟩
    have HW1 := Lib.hid hW1
    have H1 : Hid (Rw w0 W1 g (.slice (some ad) n c) (eBox w.heap.size (6, (j : Int), y) :: fs) l) := by rw [hW1]; exact h.box 6 (j : Int) y
    obtain ⟨v0, v1, v2⟩ := H1.out.boxCell
    have hlt1 : w.heap.size < W1.heap.size := by rw [hW1]; simp
    clear hW1 hX h
    go_enter Tryz.func21, Tryz.ntmps21
    have HC := Lib.hid (HI.out _ _ _ H1.out (by omega))
    go_wp2_with fail
    rw [← HW1.out]
    refine HC.out.mono ?_
    rintro e w2 ⟨r2, l2, rfl, h2, q2⟩
    clear HC c0 c1 c2 v0 v1 v2
    have hl9 := out_len q2.out (by omega) (by omega)
    have HC2 := Lib.hid (padd_any h2.out (by omega) 6 r2 0)
    clear h2
    go_wp2_with fail
    refine HC2.out.mono ?_
    rintro e w3 ⟨rfl, h3⟩
    clear HC2
    go_wp2
    go_ret
    exact ⟨_, _, rfl, Lib.hid (h3.out.less box_mem), Lib.hid (out_un (k := 6) hl hj (by rfl) q2.out rfl)⟩
  · have HI := Lib.hid (ihj true)
    have hc0 := h.form
    obtain ⟨A9, cap9, o0, o1, _⟩ := hc0
    have hx : w.cell? ⟨0, 6, none⟩ = some (.int .i64 7) := hX 6 (by decide)
    have hG := World.block_lt_of_cell? w _ hx
    have hi2 : (i : Int) < (n : Int) := by omega
    have hl2 : (l.length : Int) ≤ 40 := by omega
    obtain ⟨W1, hW1⟩ : ∃ W1, W1 = w.alloc (.cells #[.int .i64 6, .int .i64 (j : Int), .int .i64 y] 108) := ⟨_, rfl⟩
    have HW1 := Lib.hid hW1
    have H1 : Hid (Rw w0 W1 g (.slice (some ad) n c) (eBox w.heap.size (6, (j : Int), y) :: fs) l) := by rw [hW1]; exact h.box 6 (j : Int) y
    obtain ⟨v0, v1, v2⟩ := H1.out.boxCell
    have hlt1 : w.heap.size < W1.heap.size := by rw [hW1]; simp
    clear hW1 hX h
    go_enter Tryz.func21, Tryz.ntmps21
    have HC := Lib.hid (HI.out _ _ _ H1.out (by omega))
    go_wp2_with fail
    rw [← HW1.out]
    refine HC.out.mono ?_
    rintro e w2 ⟨r2, l2, rfl, h2, q2⟩
    clear HC c0 c1 c2 v0 v1 v2
    have hl9 := out_len q2.out (by omega) (by omega)
    have HC2 := Lib.hid (padd_any h2.out (by omega) 7 r2 0)
    clear h2
    go_wp2_with fail
    refine HC2.out.mono ?_
    rintro e w3 ⟨rfl, h3⟩
    clear HC2
    go_wp2
    go_ret
    exact ⟨_, _, rfl, Lib.hid (h3.out.less box_mem), Lib.hid (out_un (k := 7) hl hj (by rfl) q2.out rfl)⟩
  · have HI := Lib.hid (ihj false)
    have hc0 := h.form
    obtain ⟨A9, cap9, o0, o1, _⟩ := hc0
    have hi2 : (i : Int) < (n : Int) := by omega
    have hl2 : (l.length : Int) ≤ 40 := by omega
    obtain ⟨W1, hW1⟩ : ∃ W1, W1 = w.alloc (.cells #[.int .i64 7, .int .i64 (j : Int), .int .i64 y] 108) := ⟨_, rfl⟩
    have HW1 := Lib.hid hW1
    have H1 : Hid (Rw w0 W1 g (.slice (some ad) n c) (eBox w.heap.size (7, (j : Int), y) :: fs) l) := by rw [hW1]; exact h.box 7 (j : Int) y
    obtain ⟨v0, v1, v2⟩ := H1.out.boxCell
    have hlt1 : w.heap.size < W1.heap.size := by rw [hW1]; simp
    clear hW1 hX h
    go_enter Tryz.func21, Tryz.ntmps21
    have HC := Lib.hid (HI.out _ _ _ H1.out (by omega))
    go_wp2_with fail
    rw [← HW1.out]
    refine HC.out.mono ?_
    rintro e w2 ⟨r2, l2, rfl, h2, q2⟩
    clear HC c0 c1 c2 v0 v1 v2
    have hl9 := out_len q2.out (by omega) (by omega)
    have HC2 := Lib.hid (padd_any h2.out (by omega) 7 r2 0)
    clear h2
    go_wp2_with fail
    refine HC2.out.mono ?_
    rintro e w3 ⟨rfl, h3⟩
    clear HC2
    go_wp2
    go_ret
    exact ⟨_, _, rfl, Lib.hid (h3.out.less box_mem), Lib.hid (out_un (k := 7) hl hj (by rfl) q2.out rfl)⟩
  · have HI := Lib.hid (ihj true)
    have hc0 := h.form
    obtain ⟨A9, cap9, o0, o1, _⟩ := hc0
    have hx : w.cell? ⟨0, 7, none⟩ = some (.int .i64 6) := hX 7 (by decide)
    have hG := World.block_lt_of_cell? w _ hx
    have hi2 : (i : Int) < (n : Int) := by omega
    have hl2 : (l.length : Int) ≤ 40 := by omega
    obtain ⟨W1, hW1⟩ : ∃ W1, W1 = w.alloc (.cells #[.int .i64 7, .int .i64 (j : Int), .int .i64 y] 108) := ⟨_, rfl⟩
    have HW1 := Lib.hid hW1
    have H1 : Hid (Rw w0 W1 g (.slice (some ad) n c) (eBox w.heap.size (7, (j : Int), y) :: fs) l) := by rw [hW1]; exact h.box 7 (j : Int) y
    obtain ⟨v0, v1, v2⟩ := H1.out.boxCell
    have hlt1 : w.heap.size < W1.heap.size := by rw [hW1]; simp
    clear hW1 hX h
    go_enter Tryz.func21, Tryz.ntmps21
    have HC := Lib.hid (HI.out _ _ _ H1.out (by omega))
    go_wp2_with fail
    rw [← HW1.out]
    refine HC.out.mono ?_
    rintro e w2 ⟨r2, l2, rfl, h2, q2⟩
    clear HC c0 c1 c2 v0 v1 v2
    have hl9 := out_len q2.out (by omega) (by omega)
    have HC2 := Lib.hid (padd_any h2.out (by omega) 6 r2 0)
    clear h2
    go_wp2_with fail
    refine HC2.out.mono ?_
    rintro e w3 ⟨rfl, h3⟩
    clear HC2
    go_wp2
    go_ret
    exact ⟨_, _, rfl, Lib.hid (h3.out.less box_mem), Lib.hid (out_un (k := 6) hl hj (by rfl) q2.out rfl)⟩
set_option maxRecDepth 100000 in
set_option maxHeartbeats 4000000 in
theorem node_bin {w0 w : World} {g : Nat} {ad : Addr} {c n : Nat} {fs : List Ent} {l : List Nd} (h : Rw w0 w g (.slice (some ad) n c) fs l) (hl : l.length ≤ 40) (hX : ExAt w) {i : Nat} {x y : Int} {k0 : Nat}
    (hi : i < n) (c0 : w.cell? (ad.add (i * 3)) = some (.int .i64 (k0 : Int))) (c1 : w.cell? ⟨(ad.add (i * 3)).block, (ad.add (i * 3)).off + 1, none⟩ = some (.int .i64 x)) (c2 : w.cell? ⟨(ad.add (i * 3)).block, (ad.add (i * 3)).off + 2, none⟩ = some (.int .i64 y)) (hadb : ad.block < w.heap.size) {j : Nat} (hj : j < i) {t : Tree} (ihj : ∀ (b : Bool) (fs : List Ent) (l : List Nd) (W : World), Rw w0 W g (.slice (some ad) n c) fs l → l.length ≤ 90 → Calls Tryz.prog 21 #[.pointer (some ⟨g, 0, none⟩), .int .i64 (j : Int), .bool b] W (NodeOut w0 g (.slice (some ad) n c) fs l t b j)) (hej : x = (j : Int)) {j2 : Nat} (hj2 : j2 < i) {t2 : Tree} (ihj2 : ∀ (b : Bool) (fs : List Ent) (l : List Nd) (W : World), Rw w0 W g (.slice (some ad) n c) fs l → l.length ≤ 90 → Calls Tryz.prog 21 #[.pointer (some ⟨g, 0, none⟩), .int .i64 (j2 : Int), .bool b] W (NodeOut w0 g (.slice (some ad) n c) fs l t2 b j2)) (hej2 : y = (j2 : Int)) (b : Bool) (hk : k0 = 4 ∨ k0 = 5 ∨ k0 = 8 ∨ k0 = 9) (hi40 : i ≤ 40) :
    Calls Tryz.prog 21 #[.pointer (some ⟨g, 0, none⟩), .int .i64 (i : Int), .bool b] w (NodeOut w0 g (.slice (some ad) n c) fs l (.bin k0 t t2) b i) := by
  subst hej
  subst hej2
  rcases hk with rfl | rfl | rfl | rfl <;> rcases b with _ | _
  · have HI := Lib.hid (ihj false)
    have HI2 := Lib.hid (ihj2 false)
    have hc0 := h.form
    obtain ⟨A9, cap9, o0, o1, _⟩ := hc0
    have hi2 : (i : Int) < (n : Int) := by omega
    have hl2 : (l.length : Int) ≤ 40 := by omega
    obtain ⟨W1, hW1⟩ : ∃ W1, W1 = w.alloc (.cells #[.int .i64 4, .int .i64 (j : Int), .int .i64 (j2 : Int)] 108) := ⟨_, rfl⟩
    have HW1 := Lib.hid hW1
    have H1 : Hid (Rw w0 W1 g (.slice (some ad) n c) (eBox w.heap.size (4, (j : Int), (j2 : Int)) :: fs) l) := by rw [hW1]; exact h.box 4 (j : Int) (j2 : Int)
    obtain ⟨v0, v1, v2⟩ := H1.out.boxCell
    have hlt1 : w.heap.size < W1.heap.size := by rw [hW1]; simp
    clear hW1 hX h
    go_enter Tryz.func21, Tryz.ntmps21
    have HC := Lib.hid (HI.out _ _ _ H1.out (by omega))
    go_wp2_with fail
    rw [← HW1.out]
    refine HC.out.mono ?_
    rintro e w2 ⟨r2, l2, rfl, h2, q2⟩
    clear HC c0 c1 c2 v0 v1 v2
    obtain ⟨v0, v1, v2⟩ := h2.out.boxCell
    have hl9 := out_len q2.out (by omega) (by omega)
    have HC2 := Lib.hid (HI2.out _ _ _ h2.out hl9)
    clear h2
    go_wp2_with fail
    refine HC2.out.mono ?_
    rintro e w3 ⟨r3, l3, rfl, h3, q3⟩
    clear HC2 v0 v1 v2
    have hl10 := out_len q3.out hl9 (by omega)
    have HC3 := Lib.hid (padd_any h3.out (by omega) 4 r2 r3)
    clear h3
    go_wp2_with fail
    refine HC3.out.mono ?_
    rintro e w4 ⟨rfl, h4⟩
    clear HC3
    go_wp2
    go_ret
    exact ⟨_, _, rfl, Lib.hid (h4.out.less box_mem), Lib.hid (out_bin (k := 4) hl hj hj2 (by rfl) q2.out q3.out rfl)⟩
  · have HI := Lib.hid (ihj true)
    have HI2 := Lib.hid (ihj2 true)
    have hc0 := h.form
    obtain ⟨A9, cap9, o0, o1, _⟩ := hc0
    have hx : w.cell? ⟨0, 4, none⟩ = some (.int .i64 5) := hX 4 (by decide)
    have hG := World.block_lt_of_cell? w _ hx
    have hi2 : (i : Int) < (n : Int) := by omega
    have hl2 : (l.length : Int) ≤ 40 := by omega
    obtain ⟨W1, hW1⟩ : ∃ W1, W1 = w.alloc (.cells #[.int .i64 4, .int .i64 (j : Int), .int .i64 (j2 : Int)] 108) := ⟨_, rfl⟩
    have HW1 := Lib.hid hW1
    have H1 : Hid (Rw w0 W1 g (.slice (some ad) n c) (eBox w.heap.size (4, (j : Int), (j2 : Int)) :: fs) l) := by rw [hW1]; exact h.box 4 (j : Int) (j2 : Int)
    obtain ⟨v0, v1, v2⟩ := H1.out.boxCell
    have hlt1 : w.heap.size < W1.heap.size := by rw [hW1]; simp
    clear hW1 hX h
    go_enter Tryz.func21, Tryz.ntmps21
    have HC := Lib.hid (HI.out _ _ _ H1.out (by omega))
    go_wp2_with fail
    rw [← HW1.out]
    refine HC.out.mono ?_
    rintro e w2 ⟨r2, l2, rfl, h2, q2⟩
    clear HC c0 c1 c2 v0 v1 v2
    obtain ⟨v0, v1, v2⟩ := h2.out.boxCell
    have hl9 := out_len q2.out (by omega) (by omega)
    have HC2 := Lib.hid (HI2.out _ _ _ h2.out hl9)
    clear h2
    go_wp2_with fail
    refine HC2.out.mono ?_
    rintro e w3 ⟨r3, l3, rfl, h3, q3⟩
    clear HC2 v0 v1 v2
    have hl10 := out_len q3.out hl9 (by omega)
    have HC3 := Lib.hid (padd_any h3.out (by omega) 5 r2 r3)
    clear h3
    go_wp2_with fail
    refine HC3.out.mono ?_
    rintro e w4 ⟨rfl, h4⟩
    clear HC3
    go_wp2
    go_ret
    exact ⟨_, _, rfl, Lib.hid (h4.out.less box_mem), Lib.hid (out_bin (k := 5) hl hj hj2 (by rfl) q2.out q3.out rfl)⟩
  · have HI := Lib.hid (ihj false)
    have HI2 := Lib.hid (ihj2 false)
    have hc0 := h.form
    obtain ⟨A9, cap9, o0, o1, _⟩ := hc0
    have hi2 : (i : Int) < (n : Int) := by omega
    have hl2 : (l.length : Int) ≤ 40 := by omega
    obtain ⟨W1, hW1⟩ : ∃ W1, W1 = w.alloc (.cells #[.int .i64 5, .int .i64 (j : Int), .int .i64 (j2 : Int)] 108) := ⟨_, rfl⟩
    have HW1 := Lib.hid hW1
    have H1 : Hid (Rw w0 W1 g (.slice (some ad) n c) (eBox w.heap.size (5, (j : Int), (j2 : Int)) :: fs) l) := by rw [hW1]; exact h.box 5 (j : Int) (j2 : Int)
    obtain ⟨v0, v1, v2⟩ := H1.out.boxCell
    have hlt1 : w.heap.size < W1.heap.size := by rw [hW1]; simp
    clear hW1 hX h
    go_enter Tryz.func21, Tryz.ntmps21
    have HC := Lib.hid (HI.out _ _ _ H1.out (by omega))
    go_wp2_with fail
    rw [← HW1.out]
    refine HC.out.mono ?_
    rintro e w2 ⟨r2, l2, rfl, h2, q2⟩
    clear HC c0 c1 c2 v0 v1 v2
    obtain ⟨v0, v1, v2⟩ := h2.out.boxCell
    have hl9 := out_len q2.out (by omega) (by omega)
    have HC2 := Lib.hid (HI2.out _ _ _ h2.out hl9)
    clear h2
    go_wp2_with fail
    refine HC2.out.mono ?_
    rintro e w3 ⟨r3, l3, rfl, h3, q3⟩
    clear HC2 v0 v1 v2
    have hl10 := out_len q3.out hl9 (by omega)
    have HC3 := Lib.hid (padd_any h3.out (by omega) 5 r2 r3)
    clear h3
    go_wp2_with fail
    refine HC3.out.mono ?_
    rintro e w4 ⟨rfl, h4⟩
    clear HC3
    go_wp2
    go_ret
    exact ⟨_, _, rfl, Lib.hid (h4.out.less box_mem), Lib.hid (out_bin (k := 5) hl hj hj2 (by rfl) q2.out q3.out rfl)⟩
  · have HI := Lib.hid (ihj true)
    have HI2 := Lib.hid (ihj2 true)
    have hc0 := h.form
    obtain ⟨A9, cap9, o0, o1, _⟩ := hc0
    have hx : w.cell? ⟨0, 5, none⟩ = some (.int .i64 4) := hX 5 (by decide)
    have hG := World.block_lt_of_cell? w _ hx
    have hi2 : (i : Int) < (n : Int) := by omega
    have hl2 : (l.length : Int) ≤ 40 := by omega
    obtain ⟨W1, hW1⟩ : ∃ W1, W1 = w.alloc (.cells #[.int .i64 5, .int .i64 (j : Int), .int .i64 (j2 : Int)] 108) := ⟨_, rfl⟩
    have HW1 := Lib.hid hW1
    have H1 : Hid (Rw w0 W1 g (.slice (some ad) n c) (eBox w.heap.size (5, (j : Int), (j2 : Int)) :: fs) l) := by rw [hW1]; exact h.box 5 (j : Int) (j2 : Int)
    obtain ⟨v0, v1, v2⟩ := H1.out.boxCell
    have hlt1 : w.heap.size < W1.heap.size := by rw [hW1]; simp
    clear hW1 hX h
    go_enter Tryz.func21, Tryz.ntmps21
    have HC := Lib.hid (HI.out _ _ _ H1.out (by omega))
    go_wp2_with fail
    rw [← HW1.out]
    refine HC.out.mono ?_
    rintro e w2 ⟨r2, l2, rfl, h2, q2⟩
    clear HC c0 c1 c2 v0 v1 v2
    obtain ⟨v0, v1, v2⟩ := h2.out.boxCell
    have hl9 := out_len q2.out (by omega) (by omega)
    have HC2 := Lib.hid (HI2.out _ _ _ h2.out hl9)
    clear h2
    go_wp2_with fail
    refine HC2.out.mono ?_
    rintro e w3 ⟨r3, l3, rfl, h3, q3⟩
    clear HC2 v0 v1 v2
    have hl10 := out_len q3.out hl9 (by omega)
    have HC3 := Lib.hid (padd_any h3.out (by omega) 4 r2 r3)
    clear h3
    go_wp2_with fail
    refine HC3.out.mono ?_
    rintro e w4 ⟨rfl, h4⟩
    clear HC3
    go_wp2
    go_ret
    exact ⟨_, _, rfl, Lib.hid (h4.out.less box_mem), Lib.hid (out_bin (k := 4) hl hj hj2 (by rfl) q2.out q3.out rfl)⟩
  · have HI := Lib.hid (ihj false)
    have HI2 := Lib.hid (ihj2 false)
    have hc0 := h.form
    obtain ⟨A9, cap9, o0, o1, _⟩ := hc0
    have hi2 : (i : Int) < (n : Int) := by omega
    have hl2 : (l.length : Int) ≤ 40 := by omega
    obtain ⟨W1, hW1⟩ : ∃ W1, W1 = w.alloc (.cells #[.int .i64 8, .int .i64 (j : Int), .int .i64 (j2 : Int)] 108) := ⟨_, rfl⟩
    have HW1 := Lib.hid hW1
    have H1 : Hid (Rw w0 W1 g (.slice (some ad) n c) (eBox w.heap.size (8, (j : Int), (j2 : Int)) :: fs) l) := by rw [hW1]; exact h.box 8 (j : Int) (j2 : Int)
    obtain ⟨v0, v1, v2⟩ := H1.out.boxCell
    have hlt1 : w.heap.size < W1.heap.size := by rw [hW1]; simp
    clear hW1 hX h
    go_enter Tryz.func21, Tryz.ntmps21
    have HC := Lib.hid (HI.out _ _ _ H1.out (by omega))
    go_wp2_with fail
    rw [← HW1.out]
    refine HC.out.mono ?_
    rintro e w2 ⟨r2, l2, rfl, h2, q2⟩
    clear HC c0 c1 c2 v0 v1 v2
    obtain ⟨v0, v1, v2⟩ := h2.out.boxCell
    have hl9 := out_len q2.out (by omega) (by omega)
    have HC2 := Lib.hid (HI2.out _ _ _ h2.out hl9)
    clear h2
    go_wp2_with fail
    refine HC2.out.mono ?_
    rintro e w3 ⟨r3, l3, rfl, h3, q3⟩
    clear HC2 v0 v1 v2
    have hl10 := out_len q3.out hl9 (by omega)
    have HC3 := Lib.hid (padd_any h3.out (by omega) 8 r2 r3)
    clear h3
    go_wp2_with fail
    refine HC3.out.mono ?_
    rintro e w4 ⟨rfl, h4⟩
    clear HC3
    go_wp2
    go_ret
    exact ⟨_, _, rfl, Lib.hid (h4.out.less box_mem), Lib.hid (out_bin (k := 8) hl hj hj2 (by rfl) q2.out q3.out rfl)⟩
  · have HI := Lib.hid (ihj true)
    have HI2 := Lib.hid (ihj2 true)
    have hc0 := h.form
    obtain ⟨A9, cap9, o0, o1, _⟩ := hc0
    have hx : w.cell? ⟨0, 8, none⟩ = some (.int .i64 9) := hX 8 (by decide)
    have hG := World.block_lt_of_cell? w _ hx
    have hi2 : (i : Int) < (n : Int) := by omega
    have hl2 : (l.length : Int) ≤ 40 := by omega
    obtain ⟨W1, hW1⟩ : ∃ W1, W1 = w.alloc (.cells #[.int .i64 8, .int .i64 (j : Int), .int .i64 (j2 : Int)] 108) := ⟨_, rfl⟩
    have HW1 := Lib.hid hW1
    have H1 : Hid (Rw w0 W1 g (.slice (some ad) n c) (eBox w.heap.size (8, (j : Int), (j2 : Int)) :: fs) l) := by rw [hW1]; exact h.box 8 (j : Int) (j2 : Int)
    obtain ⟨v0, v1, v2⟩ := H1.out.boxCell
    have hlt1 : w.heap.size < W1.heap.size := by rw [hW1]; simp
    clear hW1 hX h
    go_enter Tryz.func21, Tryz.ntmps21
    have HC := Lib.hid (HI.out _ _ _ H1.out (by omega))
    go_wp2_with fail
    rw [← HW1.out]
    refine HC.out.mono ?_
    rintro e w2 ⟨r2, l2, rfl, h2, q2⟩
    clear HC c0 c1 c2 v0 v1 v2
    obtain ⟨v0, v1, v2⟩ := h2.out.boxCell
    have hl9 := out_len q2.out (by omega) (by omega)
    have HC2 := Lib.hid (HI2.out _ _ _ h2.out hl9)
    clear h2
    go_wp2_with fail
    refine HC2.out.mono ?_
    rintro e w3 ⟨r3, l3, rfl, h3, q3⟩
    clear HC2 v0 v1 v2
    have hl10 := out_len q3.out hl9 (by omega)
    have HC3 := Lib.hid (padd_any h3.out (by omega) 9 r2 r3)
    clear h3
    go_wp2_with fail
    refine HC3.out.mono ?_
    rintro e w4 ⟨rfl, h4⟩
    clear HC3
    go_wp2
    go_ret
    exact ⟨_, _, rfl, Lib.hid (h4.out.less box_mem), Lib.hid (out_bin (k := 9) hl hj hj2 (by rfl) q2.out q3.out rfl)⟩
  · have HI := Lib.hid (ihj false)
    have HI2 := Lib.hid (ihj2 false)
    have hc0 := h.form
    obtain ⟨A9, cap9, o0, o1, _⟩ := hc0
    have hi2 : (i : Int) < (n : Int) := by omega
    have hl2 : (l.length : Int) ≤ 40 := by omega
    obtain ⟨W1, hW1⟩ : ∃ W1, W1 = w.alloc (.cells #[.int .i64 9, .int .i64 (j : Int), .int .i64 (j2 : Int)] 108) := ⟨_, rfl⟩
    have HW1 := Lib.hid hW1
    have H1 : Hid (Rw w0 W1 g (.slice (some ad) n c) (eBox w.heap.size (9, (j : Int), (j2 : Int)) :: fs) l) := by rw [hW1]; exact h.box 9 (j : Int) (j2 : Int)
    obtain ⟨v0, v1, v2⟩ := H1.out.boxCell
    have hlt1 : w.heap.size < W1.heap.size := by rw [hW1]; simp
    clear hW1 hX h
    go_enter Tryz.func21, Tryz.ntmps21
    have HC := Lib.hid (HI.out _ _ _ H1.out (by omega))
    go_wp2_with fail
    rw [← HW1.out]
    refine HC.out.mono ?_
    rintro e w2 ⟨r2, l2, rfl, h2, q2⟩
    clear HC c0 c1 c2 v0 v1 v2
    obtain ⟨v0, v1, v2⟩ := h2.out.boxCell
    have hl9 := out_len q2.out (by omega) (by omega)
    have HC2 := Lib.hid (HI2.out _ _ _ h2.out hl9)
    clear h2
    go_wp2_with fail
    refine HC2.out.mono ?_
    rintro e w3 ⟨r3, l3, rfl, h3, q3⟩
    clear HC2 v0 v1 v2
    have hl10 := out_len q3.out hl9 (by omega)
    have HC3 := Lib.hid (padd_any h3.out (by omega) 9 r2 r3)
    clear h3
    go_wp2_with fail
    refine HC3.out.mono ?_
    rintro e w4 ⟨rfl, h4⟩
    clear HC3
    go_wp2
    go_ret
    exact ⟨_, _, rfl, Lib.hid (h4.out.less box_mem), Lib.hid (out_bin (k := 9) hl hj hj2 (by rfl) q2.out q3.out rfl)⟩
  · have HI := Lib.hid (ihj true)
    have HI2 := Lib.hid (ihj2 true)
    have hc0 := h.form
    obtain ⟨A9, cap9, o0, o1, _⟩ := hc0
    have hx : w.cell? ⟨0, 9, none⟩ = some (.int .i64 8) := hX 9 (by decide)
    have hG := World.block_lt_of_cell? w _ hx
    have hi2 : (i : Int) < (n : Int) := by omega
    have hl2 : (l.length : Int) ≤ 40 := by omega
    obtain ⟨W1, hW1⟩ : ∃ W1, W1 = w.alloc (.cells #[.int .i64 9, .int .i64 (j : Int), .int .i64 (j2 : Int)] 108) := ⟨_, rfl⟩
    have HW1 := Lib.hid hW1
    have H1 : Hid (Rw w0 W1 g (.slice (some ad) n c) (eBox w.heap.size (9, (j : Int), (j2 : Int)) :: fs) l) := by rw [hW1]; exact h.box 9 (j : Int) (j2 : Int)
    obtain ⟨v0, v1, v2⟩ := H1.out.boxCell
    have hlt1 : w.heap.size < W1.heap.size := by rw [hW1]; simp
    clear hW1 hX h
    go_enter Tryz.func21, Tryz.ntmps21
    have HC := Lib.hid (HI.out _ _ _ H1.out (by omega))
    go_wp2_with fail
    rw [← HW1.out]
    refine HC.out.mono ?_
    rintro e w2 ⟨r2, l2, rfl, h2, q2⟩
    clear HC c0 c1 c2 v0 v1 v2
    obtain ⟨v0, v1, v2⟩ := h2.out.boxCell
    have hl9 := out_len q2.out (by omega) (by omega)
    have HC2 := Lib.hid (HI2.out _ _ _ h2.out hl9)
    clear h2
    go_wp2_with fail
    refine HC2.out.mono ?_
    rintro e w3 ⟨r3, l3, rfl, h3, q3⟩
    clear HC2 v0 v1 v2
    have hl10 := out_len q3.out hl9 (by omega)
    have HC3 := Lib.hid (padd_any h3.out (by omega) 8 r2 r3)
    clear h3
    go_wp2_with fail
    refine HC3.out.mono ?_
    rintro e w4 ⟨rfl, h4⟩
    clear HC3
    go_wp2
    go_ret
    exact ⟨_, _, rfl, Lib.hid (h4.out.less box_mem), Lib.hid (out_bin (k := 8) hl hj hj2 (by rfl) q2.out q3.out rfl)⟩
set_option maxRecDepth 100000 in
set_option maxHeartbeats 1000000 in
theorem node_big {w0 w : World} {g : Nat} {ov : Value} {fs : List Ent} {l : List Nd} (h : Rw w0 w g ov fs l) (hl : 40 < l.length) (hl9 : l.length ≤ 90) (i : Nat) (t : Tree) (b : Bool) :
    Calls Tryz.prog 21 #[.pointer (some ⟨g, 0, none⟩), .int .i64 (i : Int), .bool b] w (NodeOut w0 g ov fs l t b i) := by
  obtain ⟨A9, cap9, o0, o1, _⟩ := h.form
  have HR := Lib.hid h
  have HQ := Lib.hid (out_big (t := t) (b := b) (i := i) hl 0)
  have hl2 : (40 : Int) < (l.length : Int) := by omega
  clear h
  go_enter Tryz.func21, Tryz.ntmps21
  go_wp2
  go_ret
  exact ⟨_, _, rfl, HR, HQ⟩
theorem pnode_any {L : Int} {f : List Nd} (hg : FGood L f) {w0 : World} {A : Option Addr} (hA : NodesAt w0 w0.heap.size A f) (hX : ExAt w0) (g c : Nat) : ∀ i, i < f.length → ∀ (b : Bool) (fs : List Ent) (l : List Nd) (W : World),
    Rw w0 W g (.slice A f.length c) fs l → l.length ≤ 90 → Calls Tryz.prog 21 #[.pointer (some ⟨g, 0, none⟩), .int .i64 (i : Int), .bool b] W (NodeOut w0 g (.slice A f.length c) fs l (tre f i) b i) := by
  intro i
  induction i using Nat.strongRecOn with
  | _ i ih =>
    intro hi b fs l W h hl9
    by_cases hl : 40 < l.length
    · exact node_big h hl hl9 i _ b
    have hl4 : l.length ≤ 40 := by omega
    have hn : f[i]? = some f[i] := List.getElem?_eq_getElem hi
    have gd := hg.nd i _ hn
    have h40 := hg.le
    obtain ⟨ad, e, hadb, c0, c1, c2⟩ := (hA.on h.below).at_ hn
    subst e
    have hXw := hX.on h.below
    rw [tre_get hg.nd hn]
    generalize f[i] = nd at *
    obtain ⟨kd, x, y⟩ := nd
    have h0 : 0 ≤ kd := gd.k0
    have h9 : kd ≤ 9 := gd.k9
    have ha : 1 ≤ ops kd → 0 ≤ x ∧ x < (i : Int) := gd.a1
    have hb : ops kd = 2 → 0 ≤ y ∧ y < (i : Int) := gd.b2
    have hst : kd = 2 → 0 ≤ x ∧ x < 2 ^ L.toNat := gd.set
    simp only at c0 c1 c2
    have hk : (kd = 0 ∨ kd = 1) ∨ kd = 2 ∨ kd = 3 ∨ (kd = 6 ∨ kd = 7) ∨ (kd = 4 ∨ kd = 5 ∨ kd = 8 ∨ kd = 9) := by omega
    rcases hk with hk | rfl | rfl | hk | hk
    · have e : tone (kd, x, y) (trees f) = .leaf kd.toNat 0 := by rcases hk with rfl | rfl <;> rfl
      rw [e]
      exact node_leaf h hl4 hXw hi (by rw [show ((kd.toNat : Nat) : Int) = kd by omega]; exact c0) c1 c2 hadb b (by omega)
    · have e : tone (2, x, y) (trees f) = .leaf 2 x.toNat := rfl
      rw [e]
      exact node_is h hl4 hXw (k0 := 2) hi c0 c1 c2 hadb x.toNat (by have := hst rfl; omega) b rfl
    · have hx := ha (by decide)
      have e : tone (3, x, y) (trees f) = .un 3 (tre f x.toNat) := rfl
      rw [e]
      exact node_not h hl4 hXw (k0 := 3) hi c0 c1 c2 hadb (j := x.toNat) (by omega) (fun b fs l W h hl => ih x.toNat (by omega) (by omega) b fs l W h hl) (by omega) b rfl (by omega)
    · have hx := ha (by rcases hk with rfl | rfl <;> decide)
      have e : tone (kd, x, y) (trees f) = .un kd.toNat (tre f x.toNat) := by rcases hk with rfl | rfl <;> rfl
      rw [e]
      exact node_un h hl4 hXw hi (by rw [show ((kd.toNat : Nat) : Int) = kd by omega]; exact c0) c1 c2 hadb (j := x.toNat) (by omega) (fun b fs l W h hl => ih x.toNat (by omega) (by omega) b fs l W h hl) (by omega) b (by omega) (by omega)
    · have hx := ha (by rcases hk with rfl | rfl | rfl | rfl <;> decide)
      have hy := hb (by rcases hk with rfl | rfl | rfl | rfl <;> decide)
      have e : tone (kd, x, y) (trees f) = .bin kd.toNat (tre f x.toNat) (tre f y.toNat) := by rcases hk with rfl | rfl | rfl | rfl <;> rfl
      rw [e]
      exact node_bin h hl4 hXw hi (by rw [show ((kd.toNat : Nat) : Int) = kd by omega]; exact c0) c1 c2 hadb (j := x.toNat) (by omega) (fun b fs l W h hl => ih x.toNat (by omega) (by omega) b fs l W h hl) (by omega) (j2 := y.toNat) (by omega) (fun b fs l W h hl => ih y.toNat (by omega) (by omega) b fs l W h hl) (by omega) b (by omega) (by omega)
end Go.Proofs.YtloihkoamccacaaGreatDoor.Fm
