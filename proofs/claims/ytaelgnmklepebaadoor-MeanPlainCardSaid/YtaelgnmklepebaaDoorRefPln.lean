/- The walk of the document's answer for the plain form: plain. -/
import Derived.Test.YtaelgnmklepebaaDoorPlain
import Derived.Test.YtaelgnmklepebaaDoorMeanL
namespace Go.Proofs.YtaelgnmklepebaaDoor.Fm
open Go.RowKit Go.IntWalk Go.Proofs.YtaelgnmklepebaaDoor.Wd
set_option linter.unusedVariables false

/-- What plain returns: the nodes behind those that were there. -/
def RpOut (w0 : World) (fs : List Ent) (l : List Nd) (t : Tree) (b : Bool) (e : Ending) (w' : World) : Prop :=
  ∃ (A' : Option Addr) (c' : Nat) (l' : List Nd), e = .returned (.slice A' l'.length c') ∧ Hid (Own w0 w' [eNodes (.slice A' l'.length c') l'] fs) ∧ Hid (l' = flat (nnf b t) l)
theorem own_less {w0 w : World} {es fs fs' : List Ent} (h : Own w0 w es fs) (p : ∀ e ∈ fs', e ∈ fs) : Own w0 w es fs' := h.weak p
theorem own_box {w0 w : World} {es fs : List Ent} (h : Own w0 w es fs) (k a b : Int) : Own w0 (w.alloc (.cells #[.int .i64 k, .int .i64 a, .int .i64 b] 29)) es (eBox w.heap.size (k, a, b) :: fs) :=
  (h.lit 29 3 1 #[.int .i64 k, .int .i64 a, .int .i64 b] rfl (by simp [maxLen])).fin
theorem own_boxCell {w0 w : World} {es fs : List Ent} {g2 : Nat} {k a b : Int} (h : Own w0 w es (eBox g2 (k, a, b) :: fs)) :
    w.cell? ⟨g2, 0, none⟩ = some (.int .i64 k) ∧ w.cell? ⟨g2, 1, none⟩ = some (.int .i64 a) ∧ w.cell? ⟨g2, 2, none⟩ = some (.int .i64 b) := by
  have hm : eBox g2 (k, a, b) ∈ es ++ (eBox g2 (k, a, b) :: fs) := List.mem_append_right _ List.mem_cons_self
  exact ⟨(h.cell (j := 0) hm rfl).1, (h.cell (j := 1) hm rfl).1, (h.cell (j := 2) hm rfl).1⟩
theorem own_lof {w0 w' : World} {fs : List Ent} {g cap n : Nat} {l l2 : List Nd} {m : Nd} (hn : n = l.length + 1) (h : Own w0 w' [eNodes (.slice (some ⟨g, 0, none⟩) n cap) (l ++ [m])] fs) : Own w0 w' [eNodes (.slice (some ⟨g, 0, none⟩) (l ++ [m]).length cap) (l ++ [m])] fs := by
  rw [List.length_append, List.length_singleton, ← hn]; exact h
theorem flat_pos (t : Tree) (l : List Nd) : 0 < (flat t l).length := by rw [flat_length]; cases t <;> simp [Tree.size] <;> omega
theorem pre_int (n : Nat) (h : 0 < n) : ((n - 1 : Nat) : Int) = (n : Int) - 1 := by omega
set_option maxRecDepth 100000 in
set_option maxHeartbeats 4000000 in
theorem rp_leaf {w0 w : World} {ad : Addr} {c n : Nat} {Av : Option Addr} {cv : Nat} {fs : List Ent} {l : List Nd} (h : Own w0 w [eNodes (.slice Av l.length cv) l] fs) {i : Nat} {x y : Int} {k0 : Nat}
    (hi : i < n) (c0 : w.cell? (ad.add (i * 3)) = some (.int .i64 (k0 : Int))) (c1 : w.cell? ⟨(ad.add (i * 3)).block, (ad.add (i * 3)).off + 1, none⟩ = some (.int .i64 x)) (c2 : w.cell? ⟨(ad.add (i * 3)).block, (ad.add (i * 3)).off + 2, none⟩ = some (.int .i64 y)) (hadb : ad.block < w.heap.size) (b : Bool) (hk : k0 = 0 ∨ k0 = 1) (hl : l.length + (nnf b (.leaf k0 0)).size ≤ 1000) :
    Calls Tryd.prog 39 #[.slice (some ad) n c, .int .i64 (i : Int), .bool b, .slice Av l.length cv] w (RpOut w0 fs l (.leaf k0 0) b) := by
  rcases hk with rfl | rfl <;> rcases b with _ | _
  · skip
    obtain ⟨W1, hW1⟩ : ∃ W1, W1 = w.alloc (.cells #[.int .i64 0, .int .i64 x, .int .i64 y] 29) := ⟨_, rfl⟩
    have HW1 := Lib.hid hW1
    have HSz : Hid (W1.heap.size = w.heap.size + 1) := by rw [Hid, hW1]; simp
    have H1 : Hid (Own w0 W1 [eNodes (.slice Av l.length cv) l] (eBox w.heap.size (0, x, y) :: fs)) := by rw [hW1]; exact own_box h 0 x y
    obtain ⟨v0, v1, v2⟩ := own_boxCell H1.out
    have hi2 : (i : Int) < (n : Int) := by omega
    have hlt1 : w.heap.size < W1.heap.size := by rw [HSz.out]; omega
    have hb9 : l.length < 1099511627776 := by omega
    clear hW1 h
    go_enter Tryd.func39, Tryd.ntmps39
    go_wp2_with (at_builtin; rw [← HW1.out]; refine own_node (m := (0, 0, 0)) (by rfl) _ _ (by rfl) (by rfl) H1.out (by rw [HSz.out]; rfl) hb9 ?_)
    intro g6 cap6 w6 ho6
    have HO := Lib.hid (own_less (own_lof (l2 := l) rfl ho6) box_mem)
    have HQ : Hid (l ++ [(0, 0, 0)] = flat (nnf false (.leaf 0 0)) l) := rfl
    clear ho6 H1 HW1 c0 c1 c2 v0 v1 v2
    go_wp2
    go_ret
    exact ⟨_, _, _, by simp, HO, HQ⟩
  · skip
    obtain ⟨W1, hW1⟩ : ∃ W1, W1 = (w.alloc (.cells #[.int .i64 0, .int .i64 x, .int .i64 y] 29)).alloc (.cells #[.int .i64 1, .int .i64 0, .int .i64 2, .int .i64 3, .int .i64 5, .int .i64 4, .int .i64 7, .int .i64 6, .int .i64 9, .int .i64 8] 3) := ⟨_, rfl⟩
    have HW1 := Lib.hid hW1
    have HSz : Hid (W1.heap.size = w.heap.size + 2) := by rw [Hid, hW1]; simp
    have H1 : Hid (Own w0 W1 [eNodes (.slice Av l.length cv) l] (eBox w.heap.size (0, x, y) :: fs)) := by rw [hW1]; exact (own_box h 0 x y).alloc _
    obtain ⟨v0, v1, v2⟩ := own_boxCell H1.out
    have hi2 : (i : Int) < (n : Int) := by omega
    have hlt1 : w.heap.size < W1.heap.size := by rw [HSz.out]; omega
    have hb9 : l.length < 1099511627776 := by omega
    clear hW1 h
    go_enter Tryd.func39, Tryd.ntmps39
    go_wp2_with (at_builtin; rw [← HW1.out]; refine own_node (m := (1, 0, 0)) (by rfl) _ _ (by rfl) (by rfl) H1.out (by rw [HSz.out]; rfl) hb9 ?_)
    intro g6 cap6 w6 ho6
    have HO := Lib.hid (own_less (own_lof (l2 := l) rfl ho6) box_mem)
    have HQ : Hid (l ++ [(1, 0, 0)] = flat (nnf true (.leaf 0 0)) l) := rfl
    clear ho6 H1 HW1 c0 c1 c2 v0 v1 v2
    go_wp2
    go_ret
    exact ⟨_, _, _, by simp, HO, HQ⟩
  · skip
    obtain ⟨W1, hW1⟩ : ∃ W1, W1 = w.alloc (.cells #[.int .i64 1, .int .i64 x, .int .i64 y] 29) := ⟨_, rfl⟩
    have HW1 := Lib.hid hW1
    have HSz : Hid (W1.heap.size = w.heap.size + 1) := by rw [Hid, hW1]; simp
    have H1 : Hid (Own w0 W1 [eNodes (.slice Av l.length cv) l] (eBox w.heap.size (1, x, y) :: fs)) := by rw [hW1]; exact own_box h 1 x y
    obtain ⟨v0, v1, v2⟩ := own_boxCell H1.out
    have hi2 : (i : Int) < (n : Int) := by omega
    have hlt1 : w.heap.size < W1.heap.size := by rw [HSz.out]; omega
    have hb9 : l.length < 1099511627776 := by omega
    clear hW1 h
    go_enter Tryd.func39, Tryd.ntmps39
    go_wp2_with (at_builtin; rw [← HW1.out]; refine own_node (m := (1, 0, 0)) (by rfl) _ _ (by rfl) (by rfl) H1.out (by rw [HSz.out]; rfl) hb9 ?_)
    intro g6 cap6 w6 ho6
    have HO := Lib.hid (own_less (own_lof (l2 := l) rfl ho6) box_mem)
    have HQ : Hid (l ++ [(1, 0, 0)] = flat (nnf false (.leaf 1 0)) l) := rfl
    clear ho6 H1 HW1 c0 c1 c2 v0 v1 v2
    go_wp2
    go_ret
    exact ⟨_, _, _, by simp, HO, HQ⟩
  · skip
    obtain ⟨W1, hW1⟩ : ∃ W1, W1 = (w.alloc (.cells #[.int .i64 1, .int .i64 x, .int .i64 y] 29)).alloc (.cells #[.int .i64 1, .int .i64 0, .int .i64 2, .int .i64 3, .int .i64 5, .int .i64 4, .int .i64 7, .int .i64 6, .int .i64 9, .int .i64 8] 3) := ⟨_, rfl⟩
    have HW1 := Lib.hid hW1
    have HSz : Hid (W1.heap.size = w.heap.size + 2) := by rw [Hid, hW1]; simp
    have H1 : Hid (Own w0 W1 [eNodes (.slice Av l.length cv) l] (eBox w.heap.size (1, x, y) :: fs)) := by rw [hW1]; exact (own_box h 1 x y).alloc _
    obtain ⟨v0, v1, v2⟩ := own_boxCell H1.out
    have hi2 : (i : Int) < (n : Int) := by omega
    have hlt1 : w.heap.size < W1.heap.size := by rw [HSz.out]; omega
    have hb9 : l.length < 1099511627776 := by omega
    clear hW1 h
    go_enter Tryd.func39, Tryd.ntmps39
    go_wp2_with (at_builtin; rw [← HW1.out]; refine own_node (m := (0, 0, 0)) (by rfl) _ _ (by rfl) (by rfl) H1.out (by rw [HSz.out]; rfl) hb9 ?_)
    intro g6 cap6 w6 ho6
    have HO := Lib.hid (own_less (own_lof (l2 := l) rfl ho6) box_mem)
    have HQ : Hid (l ++ [(0, 0, 0)] = flat (nnf true (.leaf 1 0)) l) := rfl
    clear ho6 H1 HW1 c0 c1 c2 v0 v1 v2
    go_wp2
    go_ret
    exact ⟨_, _, _, by simp, HO, HQ⟩
set_option maxRecDepth 100000 in
set_option maxHeartbeats 4000000 in
theorem rp_is {w0 w : World} {ad : Addr} {c n : Nat} {Av : Option Addr} {cv : Nat} {fs : List Ent} {l : List Nd} (h : Own w0 w [eNodes (.slice Av l.length cv) l] fs) {i : Nat} {x y : Int} {k0 : Nat}
    (hi : i < n) (c0 : w.cell? (ad.add (i * 3)) = some (.int .i64 (k0 : Int))) (c1 : w.cell? ⟨(ad.add (i * 3)).block, (ad.add (i * 3)).off + 1, none⟩ = some (.int .i64 x)) (c2 : w.cell? ⟨(ad.add (i * 3)).block, (ad.add (i * 3)).off + 2, none⟩ = some (.int .i64 y)) (hadb : ad.block < w.heap.size) (a : Nat) (hxa : x = (a : Int)) (hy : y = 0) (b : Bool) (hk : k0 = 2) (hl : l.length + (nnf b (.leaf 2 a)).size ≤ 1000) :
    Calls Tryd.prog 39 #[.slice (some ad) n c, .int .i64 (i : Int), .bool b, .slice Av l.length cv] w (RpOut w0 fs l (.leaf 2 a) b) := by
  subst hk
  subst hxa
  subst hy
  rcases b with _ | _
  · skip
    obtain ⟨W1, hW1⟩ : ∃ W1, W1 = w.alloc (.cells #[.int .i64 2, .int .i64 (a : Int), .int .i64 0] 29) := ⟨_, rfl⟩
    have HW1 := Lib.hid hW1
    have HSz : Hid (W1.heap.size = w.heap.size + 1) := by rw [Hid, hW1]; simp
    have H1 : Hid (Own w0 W1 [eNodes (.slice Av l.length cv) l] (eBox w.heap.size (2, (a : Int), 0) :: fs)) := by rw [hW1]; exact own_box h 2 (a : Int) 0
    obtain ⟨v0, v1, v2⟩ := own_boxCell H1.out
    have hi2 : (i : Int) < (n : Int) := by omega
    have hlt1 : w.heap.size < W1.heap.size := by rw [HSz.out]; omega
    have hb9 : l.length < 1099511627776 := by omega
    clear hW1 h
    go_enter Tryd.func39, Tryd.ntmps39
    go_wp2_with (at_builtin; rw [← HW1.out]; refine own_node (m := (2, (a : Int), 0)) (by rfl) _ _ (by rfl) (by rfl) H1.out (by rw [HSz.out]; rfl) hb9 ?_)
    intro g6 cap6 w6 ho6
    have HO := Lib.hid (own_less (own_lof (l2 := l) rfl ho6) box_mem)
    have HQ : Hid (l ++ [(2, (a : Int), 0)] = flat (nnf false (.leaf 2 a)) l) := rfl
    clear ho6 H1 HW1 c0 c1 c2 v0 v1 v2
    go_wp2
    go_ret
    exact ⟨_, _, _, by simp, HO, HQ⟩
  · skip
    obtain ⟨W1, hW1⟩ : ∃ W1, W1 = (w.alloc (.cells #[.int .i64 2, .int .i64 (a : Int), .int .i64 0] 29)).alloc (.cells #[.int .i64 1, .int .i64 0, .int .i64 2, .int .i64 3, .int .i64 5, .int .i64 4, .int .i64 7, .int .i64 6, .int .i64 9, .int .i64 8] 3) := ⟨_, rfl⟩
    have HW1 := Lib.hid hW1
    have HSz : Hid (W1.heap.size = w.heap.size + 2) := by rw [Hid, hW1]; simp
    have H1 : Hid (Own w0 W1 [eNodes (.slice Av l.length cv) l] (eBox w.heap.size (2, (a : Int), 0) :: fs)) := by rw [hW1]; exact (own_box h 2 (a : Int) 0).alloc _
    obtain ⟨v0, v1, v2⟩ := own_boxCell H1.out
    have hi2 : (i : Int) < (n : Int) := by omega
    have hlt1 : w.heap.size < W1.heap.size := by rw [HSz.out]; omega
    have hb9 : l.length < 1099511627776 := by omega
    clear hW1 h
    go_enter Tryd.func39, Tryd.ntmps39
    go_wp2_with (at_builtin; rw [← HW1.out]; refine own_node (m := (2, (a : Int), 0)) (by rfl) _ _ (by rfl) (by rfl) H1.out (by rw [HSz.out]; rfl) hb9 ?_)
    intro g6 cap6 w6 ho6
    have hlen : (l ++ [((2 : Int), (a : Int), (0 : Int))]).length = l.length + 1 := by simp
    have hb8 : (l ++ [((2 : Int), (a : Int), (0 : Int))]).length < 1099511627776 := by omega
    have HO6 : Hid (Own w0 w6 [eNodes (.slice (some ⟨g6, 0, none⟩) (l.length + 1) cap6) (l ++ [((2 : Int), (a : Int), (0 : Int))])] (eBox w.heap.size (2, (a : Int), 0) :: fs)) := ho6
    have HQ : Hid (l ++ [(2, (a : Int), 0)] ++ [(3, ((l ++ [((2 : Int), (a : Int), (0 : Int))]).length : Int) - 1, 0)] = flat (nnf true (.leaf 2 a)) l) := by show _ = flat (.leaf 2 a) l ++ [(3, (((flat (.leaf 2 a) l).length - 1 : Nat) : Int), 0)]; rw [pre_int _ (flat_pos _ _)]; rfl
    obtain ⟨l1, hl1⟩ : ∃ l1, l ++ [((2 : Int), (a : Int), (0 : Int))] = l1 := ⟨_, rfl⟩
    rw [hl1] at HQ hlen hb8 HO6
    rw [← hlen] at HO6 ⊢
    have hl9 : 0 < l1.length ∧ l1.length ≤ 2000 := ⟨by omega, by omega⟩
    obtain ⟨hl9, hl10⟩ := hl9
    clear ho6 H1 HW1 c0 c1 c2 v0 v1 v2 hl1 hlen hl
    go_wp2_with (at_builtin; refine own_node (m := (3, (l1.length : Int) - 1, 0)) (by rfl) _ _ (by rfl) (by rfl) HO6.out (by rfl) hb8 ?_)
    intro g7 cap7 w7 ho7
    have HO := Lib.hid (own_less (own_lof (l2 := l1) rfl ho7) box_mem)
    clear ho7 HO6
    go_wp2
    go_ret
    exact ⟨_, _, _, by simp, HO, HQ⟩
set_option maxRecDepth 100000 in
set_option maxHeartbeats 4000000 in
theorem rp_not {w0 w : World} {ad : Addr} {c n : Nat} {Av : Option Addr} {cv : Nat} {fs : List Ent} {l : List Nd} (h : Own w0 w [eNodes (.slice Av l.length cv) l] fs) {i : Nat} {x y : Int} {k0 : Nat}
    (hi : i < n) (c0 : w.cell? (ad.add (i * 3)) = some (.int .i64 (k0 : Int))) (c1 : w.cell? ⟨(ad.add (i * 3)).block, (ad.add (i * 3)).off + 1, none⟩ = some (.int .i64 x)) (c2 : w.cell? ⟨(ad.add (i * 3)).block, (ad.add (i * 3)).off + 2, none⟩ = some (.int .i64 y)) (hadb : ad.block < w.heap.size) {j : Nat} (hj : j < i) {t : Tree} (ihj : ∀ (b : Bool) (fs : List Ent) (Av : Option Addr) (cv : Nat) (l : List Nd) (W : World), Own w0 W [eNodes (.slice Av l.length cv) l] fs → l.length + (nnf b t).size ≤ 1000 → Calls Tryd.prog 39 #[.slice (some ad) n c, .int .i64 (j : Int), .bool b, .slice Av l.length cv] W (RpOut w0 fs l t b)) (hej : x = (j : Int)) (b : Bool) (hk : k0 = 3) (hl : l.length + (nnf b (.un 3 t)).size ≤ 1000) :
    Calls Tryd.prog 39 #[.slice (some ad) n c, .int .i64 (i : Int), .bool b, .slice Av l.length cv] w (RpOut w0 fs l (.un 3 t) b) := by
  subst hk
  subst hej
  rcases b with _ | _
  · have HI := Lib.hid (ihj true)
    have hl8 : l.length + (nnf true t).size ≤ 1000 := hl
    obtain ⟨W1, hW1⟩ : ∃ W1, W1 = w.alloc (.cells #[.int .i64 3, .int .i64 (j : Int), .int .i64 y] 29) := ⟨_, rfl⟩
    have HW1 := Lib.hid hW1
    have HSz : Hid (W1.heap.size = w.heap.size + 1) := by rw [Hid, hW1]; simp
    have H1 : Hid (Own w0 W1 [eNodes (.slice Av l.length cv) l] (eBox w.heap.size (3, (j : Int), y) :: fs)) := by rw [hW1]; exact own_box h 3 (j : Int) y
    obtain ⟨v0, v1, v2⟩ := own_boxCell H1.out
    have hi2 : (i : Int) < (n : Int) := by omega
    have hlt1 : w.heap.size < W1.heap.size := by rw [HSz.out]; omega
    have hb9 : l.length < 1099511627776 := by omega
    clear hW1 h
    go_enter Tryd.func39, Tryd.ntmps39
    have HC := Lib.hid (HI.out _ _ _ _ _ H1.out (hl8))
    go_wp2_with fail
    rw [← HW1.out]
    refine HC.out.mono ?_
    rintro e w2 ⟨A2, c2_, l2, rfl, h2, q2⟩
    clear HC
    clear c0 c1 c2 v0 v1 v2
    go_wp2
    go_ret
    exact ⟨_, _, _, rfl, Lib.hid (own_less h2.out box_mem), q2⟩
  · have HI := Lib.hid (ihj false)
    have hl8 : l.length + (nnf false t).size ≤ 1000 := hl
    obtain ⟨W1, hW1⟩ : ∃ W1, W1 = (w.alloc (.cells #[.int .i64 3, .int .i64 (j : Int), .int .i64 y] 29)).alloc (.cells #[.int .i64 1, .int .i64 0, .int .i64 2, .int .i64 3, .int .i64 5, .int .i64 4, .int .i64 7, .int .i64 6, .int .i64 9, .int .i64 8] 3) := ⟨_, rfl⟩
    have HW1 := Lib.hid hW1
    have HSz : Hid (W1.heap.size = w.heap.size + 2) := by rw [Hid, hW1]; simp
    have H1 : Hid (Own w0 W1 [eNodes (.slice Av l.length cv) l] (eBox w.heap.size (3, (j : Int), y) :: fs)) := by rw [hW1]; exact (own_box h 3 (j : Int) y).alloc _
    obtain ⟨v0, v1, v2⟩ := own_boxCell H1.out
    have hi2 : (i : Int) < (n : Int) := by omega
    have hlt1 : w.heap.size < W1.heap.size := by rw [HSz.out]; omega
    have hb9 : l.length < 1099511627776 := by omega
    clear hW1 h
    go_enter Tryd.func39, Tryd.ntmps39
    have HC := Lib.hid (HI.out _ _ _ _ _ H1.out (hl8))
    go_wp2_with fail
    rw [← HW1.out]
    refine HC.out.mono ?_
    rintro e w2 ⟨A2, c2_, l2, rfl, h2, q2⟩
    clear HC
    clear c0 c1 c2 v0 v1 v2
    go_wp2
    go_ret
    exact ⟨_, _, _, rfl, Lib.hid (own_less h2.out box_mem), q2⟩
set_option maxRecDepth 100000 in
set_option maxHeartbeats 4000000 in
theorem rp_un {w0 w : World} {ad : Addr} {c n : Nat} {Av : Option Addr} {cv : Nat} {fs : List Ent} {l : List Nd} (h : Own w0 w [eNodes (.slice Av l.length cv) l] fs) {i : Nat} {x y : Int} {k0 : Nat}
    (hi : i < n) (c0 : w.cell? (ad.add (i * 3)) = some (.int .i64 (k0 : Int))) (c1 : w.cell? ⟨(ad.add (i * 3)).block, (ad.add (i * 3)).off + 1, none⟩ = some (.int .i64 x)) (c2 : w.cell? ⟨(ad.add (i * 3)).block, (ad.add (i * 3)).off + 2, none⟩ = some (.int .i64 y)) (hadb : ad.block < w.heap.size) {j : Nat} (hj : j < i) {t : Tree} (ihj : ∀ (b : Bool) (fs : List Ent) (Av : Option Addr) (cv : Nat) (l : List Nd) (W : World), Own w0 W [eNodes (.slice Av l.length cv) l] fs → l.length + (nnf b t).size ≤ 1000 → Calls Tryd.prog 39 #[.slice (some ad) n c, .int .i64 (j : Int), .bool b, .slice Av l.length cv] W (RpOut w0 fs l t b)) (hej : x = (j : Int)) (b : Bool) (hk : k0 = 6 ∨ k0 = 7) (hl : l.length + (nnf b (.un k0 t)).size ≤ 1000) :
    Calls Tryd.prog 39 #[.slice (some ad) n c, .int .i64 (i : Int), .bool b, .slice Av l.length cv] w (RpOut w0 fs l (.un k0 t) b) := by
  subst hej
  rcases hk with rfl | rfl <;> rcases b with _ | _
  · have HI := Lib.hid (ihj false)
    have hl8 : l.length + ((nnf false t).size + 1) ≤ 1000 := hl
    obtain ⟨W1, hW1⟩ : ∃ W1, W1 = w.alloc (.cells #[.int .i64 6, .int .i64 (j : Int), .int .i64 y] 29) := ⟨_, rfl⟩
    have HW1 := Lib.hid hW1
    have HSz : Hid (W1.heap.size = w.heap.size + 1) := by rw [Hid, hW1]; simp
    have H1 : Hid (Own w0 W1 [eNodes (.slice Av l.length cv) l] (eBox w.heap.size (6, (j : Int), y) :: fs)) := by rw [hW1]; exact own_box h 6 (j : Int) y
    obtain ⟨v0, v1, v2⟩ := own_boxCell H1.out
    have hi2 : (i : Int) < (n : Int) := by omega
    have hlt1 : w.heap.size < W1.heap.size := by rw [HSz.out]; omega
    have hb9 : l.length < 1099511627776 := by omega
    clear hW1 h
    go_enter Tryd.func39, Tryd.ntmps39
    have HC := Lib.hid (HI.out _ _ _ _ _ H1.out (by omega))
    go_wp2_with fail
    rw [← HW1.out]
    refine HC.out.mono ?_
    rintro e w2 ⟨A2, c2_, l2, rfl, h2, q2⟩
    clear HC
    clear v0 v1 v2
    obtain ⟨v0, v1, v2⟩ := own_boxCell h2.out
    have hp2 : 0 < l2.length := by rw [q2.out]; exact flat_pos _ _
    have hl2 : l2.length ≤ 1000 := by rw [q2.out, flat_length]; omega
    have hb8 : l2.length < 1099511627776 := by omega
    have HQ : Hid (l2 ++ [(6, (l2.length : Int) - 1, 0)] = flat (nnf false (.un 6 t)) l) := by show _ = flat (nnf false t) l ++ [(6, (((flat (nnf false t) l).length - 1 : Nat) : Int), 0)]; rw [pre_int _ (flat_pos _ _), q2.out]
    clear c0 c1 c2 hl
    go_wp2_with (at_builtin; refine own_node (m := (6, (l2.length : Int) - 1, 0)) (by rfl) _ _ (by rfl) (by rfl) h2.out (by rfl) hb8 ?_)
    intro g6 cap6 w6 ho6
    have HO := Lib.hid (own_less (own_lof (l2 := l2) rfl ho6) box_mem)
    clear ho6 h2 v0 v1 v2
    go_wp2
    go_ret
    exact ⟨_, _, _, by simp, HO, HQ⟩
  · have HI := Lib.hid (ihj true)
    have hl8 : l.length + ((nnf true t).size + 1) ≤ 1000 := hl
    obtain ⟨W1, hW1⟩ : ∃ W1, W1 = (w.alloc (.cells #[.int .i64 6, .int .i64 (j : Int), .int .i64 y] 29)).alloc (.cells #[.int .i64 1, .int .i64 0, .int .i64 2, .int .i64 3, .int .i64 5, .int .i64 4, .int .i64 7, .int .i64 6, .int .i64 9, .int .i64 8] 3) := ⟨_, rfl⟩
    have HW1 := Lib.hid hW1
    have HSz : Hid (W1.heap.size = w.heap.size + 2) := by rw [Hid, hW1]; simp
    have H1 : Hid (Own w0 W1 [eNodes (.slice Av l.length cv) l] (eBox w.heap.size (6, (j : Int), y) :: fs)) := by rw [hW1]; exact (own_box h 6 (j : Int) y).alloc _
    obtain ⟨v0, v1, v2⟩ := own_boxCell H1.out
    have hi2 : (i : Int) < (n : Int) := by omega
    have hlt1 : w.heap.size < W1.heap.size := by rw [HSz.out]; omega
    have hb9 : l.length < 1099511627776 := by omega
    clear hW1 h
    go_enter Tryd.func39, Tryd.ntmps39
    have HC := Lib.hid (HI.out _ _ _ _ _ H1.out (by omega))
    go_wp2_with fail
    rw [← HW1.out]
    refine HC.out.mono ?_
    rintro e w2 ⟨A2, c2_, l2, rfl, h2, q2⟩
    clear HC
    clear v0 v1 v2
    obtain ⟨v0, v1, v2⟩ := own_boxCell h2.out
    have hp2 : 0 < l2.length := by rw [q2.out]; exact flat_pos _ _
    have hl2 : l2.length ≤ 1000 := by rw [q2.out, flat_length]; omega
    have hb8 : l2.length < 1099511627776 := by omega
    have HQ : Hid (l2 ++ [(7, (l2.length : Int) - 1, 0)] = flat (nnf true (.un 6 t)) l) := by show _ = flat (nnf true t) l ++ [(7, (((flat (nnf true t) l).length - 1 : Nat) : Int), 0)]; rw [pre_int _ (flat_pos _ _), q2.out]
    clear c0 c1 c2 hl
    go_wp2_with (at_builtin; refine own_node (m := (7, (l2.length : Int) - 1, 0)) (by rfl) _ _ (by rfl) (by rfl) h2.out (by rfl) hb8 ?_)
    intro g6 cap6 w6 ho6
    have HO := Lib.hid (own_less (own_lof (l2 := l2) rfl ho6) box_mem)
    clear ho6 h2 v0 v1 v2
    go_wp2
    go_ret
    exact ⟨_, _, _, by simp, HO, HQ⟩
  · have HI := Lib.hid (ihj false)
    have hl8 : l.length + ((nnf false t).size + 1) ≤ 1000 := hl
    obtain ⟨W1, hW1⟩ : ∃ W1, W1 = w.alloc (.cells #[.int .i64 7, .int .i64 (j : Int), .int .i64 y] 29) := ⟨_, rfl⟩
    have HW1 := Lib.hid hW1
    have HSz : Hid (W1.heap.size = w.heap.size + 1) := by rw [Hid, hW1]; simp
    have H1 : Hid (Own w0 W1 [eNodes (.slice Av l.length cv) l] (eBox w.heap.size (7, (j : Int), y) :: fs)) := by rw [hW1]; exact own_box h 7 (j : Int) y
    obtain ⟨v0, v1, v2⟩ := own_boxCell H1.out
    have hi2 : (i : Int) < (n : Int) := by omega
    have hlt1 : w.heap.size < W1.heap.size := by rw [HSz.out]; omega
    have hb9 : l.length < 1099511627776 := by omega
    clear hW1 h
    go_enter Tryd.func39, Tryd.ntmps39
    have HC := Lib.hid (HI.out _ _ _ _ _ H1.out (by omega))
    go_wp2_with fail
    rw [← HW1.out]
    refine HC.out.mono ?_
    rintro e w2 ⟨A2, c2_, l2, rfl, h2, q2⟩
    clear HC
    clear v0 v1 v2
    obtain ⟨v0, v1, v2⟩ := own_boxCell h2.out
    have hp2 : 0 < l2.length := by rw [q2.out]; exact flat_pos _ _
    have hl2 : l2.length ≤ 1000 := by rw [q2.out, flat_length]; omega
    have hb8 : l2.length < 1099511627776 := by omega
    have HQ : Hid (l2 ++ [(7, (l2.length : Int) - 1, 0)] = flat (nnf false (.un 7 t)) l) := by show _ = flat (nnf false t) l ++ [(7, (((flat (nnf false t) l).length - 1 : Nat) : Int), 0)]; rw [pre_int _ (flat_pos _ _), q2.out]
    clear c0 c1 c2 hl
    go_wp2_with (at_builtin; refine own_node (m := (7, (l2.length : Int) - 1, 0)) (by rfl) _ _ (by rfl) (by rfl) h2.out (by rfl) hb8 ?_)
    intro g6 cap6 w6 ho6
    have HO := Lib.hid (own_less (own_lof (l2 := l2) rfl ho6) box_mem)
    clear ho6 h2 v0 v1 v2
    go_wp2
    go_ret
    exact ⟨_, _, _, by simp, HO, HQ⟩
  · have HI := Lib.hid (ihj true)
    have hl8 : l.length + ((nnf true t).size + 1) ≤ 1000 := hl
    obtain ⟨W1, hW1⟩ : ∃ W1, W1 = (w.alloc (.cells #[.int .i64 7, .int .i64 (j : Int), .int .i64 y] 29)).alloc (.cells #[.int .i64 1, .int .i64 0, .int .i64 2, .int .i64 3, .int .i64 5, .int .i64 4, .int .i64 7, .int .i64 6, .int .i64 9, .int .i64 8] 3) := ⟨_, rfl⟩
    have HW1 := Lib.hid hW1
    have HSz : Hid (W1.heap.size = w.heap.size + 2) := by rw [Hid, hW1]; simp
    have H1 : Hid (Own w0 W1 [eNodes (.slice Av l.length cv) l] (eBox w.heap.size (7, (j : Int), y) :: fs)) := by rw [hW1]; exact (own_box h 7 (j : Int) y).alloc _
    obtain ⟨v0, v1, v2⟩ := own_boxCell H1.out
    have hi2 : (i : Int) < (n : Int) := by omega
    have hlt1 : w.heap.size < W1.heap.size := by rw [HSz.out]; omega
    have hb9 : l.length < 1099511627776 := by omega
    clear hW1 h
    go_enter Tryd.func39, Tryd.ntmps39
    have HC := Lib.hid (HI.out _ _ _ _ _ H1.out (by omega))
    go_wp2_with fail
    rw [← HW1.out]
    refine HC.out.mono ?_
    rintro e w2 ⟨A2, c2_, l2, rfl, h2, q2⟩
    clear HC
    clear v0 v1 v2
    obtain ⟨v0, v1, v2⟩ := own_boxCell h2.out
    have hp2 : 0 < l2.length := by rw [q2.out]; exact flat_pos _ _
    have hl2 : l2.length ≤ 1000 := by rw [q2.out, flat_length]; omega
    have hb8 : l2.length < 1099511627776 := by omega
    have HQ : Hid (l2 ++ [(6, (l2.length : Int) - 1, 0)] = flat (nnf true (.un 7 t)) l) := by show _ = flat (nnf true t) l ++ [(6, (((flat (nnf true t) l).length - 1 : Nat) : Int), 0)]; rw [pre_int _ (flat_pos _ _), q2.out]
    clear c0 c1 c2 hl
    go_wp2_with (at_builtin; refine own_node (m := (6, (l2.length : Int) - 1, 0)) (by rfl) _ _ (by rfl) (by rfl) h2.out (by rfl) hb8 ?_)
    intro g6 cap6 w6 ho6
    have HO := Lib.hid (own_less (own_lof (l2 := l2) rfl ho6) box_mem)
    clear ho6 h2 v0 v1 v2
    go_wp2
    go_ret
    exact ⟨_, _, _, by simp, HO, HQ⟩
set_option maxRecDepth 100000 in
set_option maxHeartbeats 4000000 in
theorem rp_bin {w0 w : World} {ad : Addr} {c n : Nat} {Av : Option Addr} {cv : Nat} {fs : List Ent} {l : List Nd} (h : Own w0 w [eNodes (.slice Av l.length cv) l] fs) {i : Nat} {x y : Int} {k0 : Nat}
    (hi : i < n) (c0 : w.cell? (ad.add (i * 3)) = some (.int .i64 (k0 : Int))) (c1 : w.cell? ⟨(ad.add (i * 3)).block, (ad.add (i * 3)).off + 1, none⟩ = some (.int .i64 x)) (c2 : w.cell? ⟨(ad.add (i * 3)).block, (ad.add (i * 3)).off + 2, none⟩ = some (.int .i64 y)) (hadb : ad.block < w.heap.size) {j : Nat} (hj : j < i) {t : Tree} (ihj : ∀ (b : Bool) (fs : List Ent) (Av : Option Addr) (cv : Nat) (l : List Nd) (W : World), Own w0 W [eNodes (.slice Av l.length cv) l] fs → l.length + (nnf b t).size ≤ 1000 → Calls Tryd.prog 39 #[.slice (some ad) n c, .int .i64 (j : Int), .bool b, .slice Av l.length cv] W (RpOut w0 fs l t b)) (hej : x = (j : Int)) {j2 : Nat} (hj2 : j2 < i) {t2 : Tree} (ihj2 : ∀ (b : Bool) (fs : List Ent) (Av : Option Addr) (cv : Nat) (l : List Nd) (W : World), Own w0 W [eNodes (.slice Av l.length cv) l] fs → l.length + (nnf b t2).size ≤ 1000 → Calls Tryd.prog 39 #[.slice (some ad) n c, .int .i64 (j2 : Int), .bool b, .slice Av l.length cv] W (RpOut w0 fs l t2 b)) (hej2 : y = (j2 : Int)) (b : Bool) (hk : k0 = 4 ∨ k0 = 5 ∨ k0 = 8 ∨ k0 = 9) (hl : l.length + (nnf b (.bin k0 t t2)).size ≤ 1000) :
    Calls Tryd.prog 39 #[.slice (some ad) n c, .int .i64 (i : Int), .bool b, .slice Av l.length cv] w (RpOut w0 fs l (.bin k0 t t2) b) := by
  subst hej
  subst hej2
  rcases hk with rfl | rfl | rfl | rfl <;> rcases b with _ | _
  · have HI := Lib.hid (ihj false)
    have HI2 := Lib.hid (ihj2 false)
    have hl8 : l.length + ((nnf false t).size + (nnf false t2).size + 1) ≤ 1000 := hl
    obtain ⟨W1, hW1⟩ : ∃ W1, W1 = w.alloc (.cells #[.int .i64 4, .int .i64 (j : Int), .int .i64 (j2 : Int)] 29) := ⟨_, rfl⟩
    have HW1 := Lib.hid hW1
    have HSz : Hid (W1.heap.size = w.heap.size + 1) := by rw [Hid, hW1]; simp
    have H1 : Hid (Own w0 W1 [eNodes (.slice Av l.length cv) l] (eBox w.heap.size (4, (j : Int), (j2 : Int)) :: fs)) := by rw [hW1]; exact own_box h 4 (j : Int) (j2 : Int)
    obtain ⟨v0, v1, v2⟩ := own_boxCell H1.out
    have hi2 : (i : Int) < (n : Int) := by omega
    have hlt1 : w.heap.size < W1.heap.size := by rw [HSz.out]; omega
    have hb9 : l.length < 1099511627776 := by omega
    clear hW1 h
    go_enter Tryd.func39, Tryd.ntmps39
    have HC := Lib.hid (HI.out _ _ _ _ _ H1.out (by omega))
    go_wp2_with fail
    rw [← HW1.out]
    refine HC.out.mono ?_
    rintro e w2 ⟨A2, c2_, l2, rfl, h2, q2⟩
    clear HC
    clear v0 v1 v2
    obtain ⟨v0, v1, v2⟩ := own_boxCell h2.out
    have hp2 : 0 < l2.length := by rw [q2.out]; exact flat_pos _ _
    have hl2 : l2.length + (nnf false t2).size ≤ 1000 := by rw [q2.out, flat_length]; omega
    have hl3 : l2.length ≤ 1000 := by omega
    have HC := Lib.hid (HI2.out _ _ _ _ _ h2.out (hl2))
    go_wp2_with fail
    refine HC.out.mono ?_
    rintro e w3 ⟨A3, c3_, l3, rfl, h3, q3⟩
    clear HC
    clear v0 v1 v2
    obtain ⟨v0, v1, v2⟩ := own_boxCell h3.out
    have hp3 : 0 < l3.length := by rw [q3.out]; exact flat_pos _ _
    have hl4 : l3.length ≤ 1000 := by rw [q3.out, flat_length]; omega
    have hb8 : l3.length < 1099511627776 := by omega
    have HQ : Hid (l3 ++ [(4, (l2.length : Int) - 1, (l3.length : Int) - 1)] = flat (nnf false (.bin 4 t t2)) l) := by show _ = flat (nnf false t2) (flat (nnf false t) l) ++ [(4, (((flat (nnf false t) l).length - 1 : Nat) : Int), (((flat (nnf false t2) (flat (nnf false t) l)).length - 1 : Nat) : Int))]; rw [pre_int _ (flat_pos _ _), pre_int _ (flat_pos _ _), q3.out, q2.out]
    clear c0 c1 c2 hl hl2 h2
    go_wp2_with (at_builtin; refine own_node (m := (4, (l2.length : Int) - 1, (l3.length : Int) - 1)) (by rfl) _ _ (by rfl) (by rfl) h3.out (by rfl) hb8 ?_)
    intro g6 cap6 w6 ho6
    have HO := Lib.hid (own_less (own_lof (l2 := l3) rfl ho6) box_mem)
    clear ho6 h3 v0 v1 v2
    go_wp2
    go_ret
    exact ⟨_, _, _, by simp, HO, HQ⟩
  · have HI := Lib.hid (ihj true)
    have HI2 := Lib.hid (ihj2 true)
    have hl8 : l.length + ((nnf true t).size + (nnf true t2).size + 1) ≤ 1000 := hl
    obtain ⟨W1, hW1⟩ : ∃ W1, W1 = (w.alloc (.cells #[.int .i64 4, .int .i64 (j : Int), .int .i64 (j2 : Int)] 29)).alloc (.cells #[.int .i64 1, .int .i64 0, .int .i64 2, .int .i64 3, .int .i64 5, .int .i64 4, .int .i64 7, .int .i64 6, .int .i64 9, .int .i64 8] 3) := ⟨_, rfl⟩
    have HW1 := Lib.hid hW1
    have HSz : Hid (W1.heap.size = w.heap.size + 2) := by rw [Hid, hW1]; simp
    have H1 : Hid (Own w0 W1 [eNodes (.slice Av l.length cv) l] (eBox w.heap.size (4, (j : Int), (j2 : Int)) :: fs)) := by rw [hW1]; exact (own_box h 4 (j : Int) (j2 : Int)).alloc _
    obtain ⟨v0, v1, v2⟩ := own_boxCell H1.out
    have hi2 : (i : Int) < (n : Int) := by omega
    have hlt1 : w.heap.size < W1.heap.size := by rw [HSz.out]; omega
    have hb9 : l.length < 1099511627776 := by omega
    clear hW1 h
    go_enter Tryd.func39, Tryd.ntmps39
    have HC := Lib.hid (HI.out _ _ _ _ _ H1.out (by omega))
    go_wp2_with fail
    rw [← HW1.out]
    refine HC.out.mono ?_
    rintro e w2 ⟨A2, c2_, l2, rfl, h2, q2⟩
    clear HC
    clear v0 v1 v2
    obtain ⟨v0, v1, v2⟩ := own_boxCell h2.out
    have hp2 : 0 < l2.length := by rw [q2.out]; exact flat_pos _ _
    have hl2 : l2.length + (nnf true t2).size ≤ 1000 := by rw [q2.out, flat_length]; omega
    have hl3 : l2.length ≤ 1000 := by omega
    have HC := Lib.hid (HI2.out _ _ _ _ _ h2.out (hl2))
    go_wp2_with fail
    refine HC.out.mono ?_
    rintro e w3 ⟨A3, c3_, l3, rfl, h3, q3⟩
    clear HC
    clear v0 v1 v2
    obtain ⟨v0, v1, v2⟩ := own_boxCell h3.out
    have hp3 : 0 < l3.length := by rw [q3.out]; exact flat_pos _ _
    have hl4 : l3.length ≤ 1000 := by rw [q3.out, flat_length]; omega
    have hb8 : l3.length < 1099511627776 := by omega
    have HQ : Hid (l3 ++ [(5, (l2.length : Int) - 1, (l3.length : Int) - 1)] = flat (nnf true (.bin 4 t t2)) l) := by show _ = flat (nnf true t2) (flat (nnf true t) l) ++ [(5, (((flat (nnf true t) l).length - 1 : Nat) : Int), (((flat (nnf true t2) (flat (nnf true t) l)).length - 1 : Nat) : Int))]; rw [pre_int _ (flat_pos _ _), pre_int _ (flat_pos _ _), q3.out, q2.out]
    clear c0 c1 c2 hl hl2 h2
    go_wp2_with (at_builtin; refine own_node (m := (5, (l2.length : Int) - 1, (l3.length : Int) - 1)) (by rfl) _ _ (by rfl) (by rfl) h3.out (by rfl) hb8 ?_)
    intro g6 cap6 w6 ho6
    have HO := Lib.hid (own_less (own_lof (l2 := l3) rfl ho6) box_mem)
    clear ho6 h3 v0 v1 v2
    go_wp2
    go_ret
    exact ⟨_, _, _, by simp, HO, HQ⟩
  · have HI := Lib.hid (ihj false)
    have HI2 := Lib.hid (ihj2 false)
    have hl8 : l.length + ((nnf false t).size + (nnf false t2).size + 1) ≤ 1000 := hl
    obtain ⟨W1, hW1⟩ : ∃ W1, W1 = w.alloc (.cells #[.int .i64 5, .int .i64 (j : Int), .int .i64 (j2 : Int)] 29) := ⟨_, rfl⟩
    have HW1 := Lib.hid hW1
    have HSz : Hid (W1.heap.size = w.heap.size + 1) := by rw [Hid, hW1]; simp
    have H1 : Hid (Own w0 W1 [eNodes (.slice Av l.length cv) l] (eBox w.heap.size (5, (j : Int), (j2 : Int)) :: fs)) := by rw [hW1]; exact own_box h 5 (j : Int) (j2 : Int)
    obtain ⟨v0, v1, v2⟩ := own_boxCell H1.out
    have hi2 : (i : Int) < (n : Int) := by omega
    have hlt1 : w.heap.size < W1.heap.size := by rw [HSz.out]; omega
    have hb9 : l.length < 1099511627776 := by omega
    clear hW1 h
    go_enter Tryd.func39, Tryd.ntmps39
    have HC := Lib.hid (HI.out _ _ _ _ _ H1.out (by omega))
    go_wp2_with fail
    rw [← HW1.out]
    refine HC.out.mono ?_
    rintro e w2 ⟨A2, c2_, l2, rfl, h2, q2⟩
    clear HC
    clear v0 v1 v2
    obtain ⟨v0, v1, v2⟩ := own_boxCell h2.out
    have hp2 : 0 < l2.length := by rw [q2.out]; exact flat_pos _ _
    have hl2 : l2.length + (nnf false t2).size ≤ 1000 := by rw [q2.out, flat_length]; omega
    have hl3 : l2.length ≤ 1000 := by omega
    have HC := Lib.hid (HI2.out _ _ _ _ _ h2.out (hl2))
    go_wp2_with fail
    refine HC.out.mono ?_
    rintro e w3 ⟨A3, c3_, l3, rfl, h3, q3⟩
    clear HC
    clear v0 v1 v2
    obtain ⟨v0, v1, v2⟩ := own_boxCell h3.out
    have hp3 : 0 < l3.length := by rw [q3.out]; exact flat_pos _ _
    have hl4 : l3.length ≤ 1000 := by rw [q3.out, flat_length]; omega
    have hb8 : l3.length < 1099511627776 := by omega
    have HQ : Hid (l3 ++ [(5, (l2.length : Int) - 1, (l3.length : Int) - 1)] = flat (nnf false (.bin 5 t t2)) l) := by show _ = flat (nnf false t2) (flat (nnf false t) l) ++ [(5, (((flat (nnf false t) l).length - 1 : Nat) : Int), (((flat (nnf false t2) (flat (nnf false t) l)).length - 1 : Nat) : Int))]; rw [pre_int _ (flat_pos _ _), pre_int _ (flat_pos _ _), q3.out, q2.out]
    clear c0 c1 c2 hl hl2 h2
    go_wp2_with (at_builtin; refine own_node (m := (5, (l2.length : Int) - 1, (l3.length : Int) - 1)) (by rfl) _ _ (by rfl) (by rfl) h3.out (by rfl) hb8 ?_)
    intro g6 cap6 w6 ho6
    have HO := Lib.hid (own_less (own_lof (l2 := l3) rfl ho6) box_mem)
    clear ho6 h3 v0 v1 v2
    go_wp2
    go_ret
    exact ⟨_, _, _, by simp, HO, HQ⟩
  · have HI := Lib.hid (ihj true)
    have HI2 := Lib.hid (ihj2 true)
    have hl8 : l.length + ((nnf true t).size + (nnf true t2).size + 1) ≤ 1000 := hl
    obtain ⟨W1, hW1⟩ : ∃ W1, W1 = (w.alloc (.cells #[.int .i64 5, .int .i64 (j : Int), .int .i64 (j2 : Int)] 29)).alloc (.cells #[.int .i64 1, .int .i64 0, .int .i64 2, .int .i64 3, .int .i64 5, .int .i64 4, .int .i64 7, .int .i64 6, .int .i64 9, .int .i64 8] 3) := ⟨_, rfl⟩
    have HW1 := Lib.hid hW1
    have HSz : Hid (W1.heap.size = w.heap.size + 2) := by rw [Hid, hW1]; simp
    have H1 : Hid (Own w0 W1 [eNodes (.slice Av l.length cv) l] (eBox w.heap.size (5, (j : Int), (j2 : Int)) :: fs)) := by rw [hW1]; exact (own_box h 5 (j : Int) (j2 : Int)).alloc _
    obtain ⟨v0, v1, v2⟩ := own_boxCell H1.out
    have hi2 : (i : Int) < (n : Int) := by omega
    have hlt1 : w.heap.size < W1.heap.size := by rw [HSz.out]; omega
    have hb9 : l.length < 1099511627776 := by omega
    clear hW1 h
    go_enter Tryd.func39, Tryd.ntmps39
    have HC := Lib.hid (HI.out _ _ _ _ _ H1.out (by omega))
    go_wp2_with fail
    rw [← HW1.out]
    refine HC.out.mono ?_
    rintro e w2 ⟨A2, c2_, l2, rfl, h2, q2⟩
    clear HC
    clear v0 v1 v2
    obtain ⟨v0, v1, v2⟩ := own_boxCell h2.out
    have hp2 : 0 < l2.length := by rw [q2.out]; exact flat_pos _ _
    have hl2 : l2.length + (nnf true t2).size ≤ 1000 := by rw [q2.out, flat_length]; omega
    have hl3 : l2.length ≤ 1000 := by omega
    have HC := Lib.hid (HI2.out _ _ _ _ _ h2.out (hl2))
    go_wp2_with fail
    refine HC.out.mono ?_
    rintro e w3 ⟨A3, c3_, l3, rfl, h3, q3⟩
    clear HC
    clear v0 v1 v2
    obtain ⟨v0, v1, v2⟩ := own_boxCell h3.out
    have hp3 : 0 < l3.length := by rw [q3.out]; exact flat_pos _ _
    have hl4 : l3.length ≤ 1000 := by rw [q3.out, flat_length]; omega
    have hb8 : l3.length < 1099511627776 := by omega
    have HQ : Hid (l3 ++ [(4, (l2.length : Int) - 1, (l3.length : Int) - 1)] = flat (nnf true (.bin 5 t t2)) l) := by show _ = flat (nnf true t2) (flat (nnf true t) l) ++ [(4, (((flat (nnf true t) l).length - 1 : Nat) : Int), (((flat (nnf true t2) (flat (nnf true t) l)).length - 1 : Nat) : Int))]; rw [pre_int _ (flat_pos _ _), pre_int _ (flat_pos _ _), q3.out, q2.out]
    clear c0 c1 c2 hl hl2 h2
    go_wp2_with (at_builtin; refine own_node (m := (4, (l2.length : Int) - 1, (l3.length : Int) - 1)) (by rfl) _ _ (by rfl) (by rfl) h3.out (by rfl) hb8 ?_)
    intro g6 cap6 w6 ho6
    have HO := Lib.hid (own_less (own_lof (l2 := l3) rfl ho6) box_mem)
    clear ho6 h3 v0 v1 v2
    go_wp2
    go_ret
    exact ⟨_, _, _, by simp, HO, HQ⟩
  · have HI := Lib.hid (ihj false)
    have HI2 := Lib.hid (ihj2 false)
    have hl8 : l.length + ((nnf false t).size + (nnf false t2).size + 1) ≤ 1000 := hl
    obtain ⟨W1, hW1⟩ : ∃ W1, W1 = w.alloc (.cells #[.int .i64 8, .int .i64 (j : Int), .int .i64 (j2 : Int)] 29) := ⟨_, rfl⟩
    have HW1 := Lib.hid hW1
    have HSz : Hid (W1.heap.size = w.heap.size + 1) := by rw [Hid, hW1]; simp
    have H1 : Hid (Own w0 W1 [eNodes (.slice Av l.length cv) l] (eBox w.heap.size (8, (j : Int), (j2 : Int)) :: fs)) := by rw [hW1]; exact own_box h 8 (j : Int) (j2 : Int)
    obtain ⟨v0, v1, v2⟩ := own_boxCell H1.out
    have hi2 : (i : Int) < (n : Int) := by omega
    have hlt1 : w.heap.size < W1.heap.size := by rw [HSz.out]; omega
    have hb9 : l.length < 1099511627776 := by omega
    clear hW1 h
    go_enter Tryd.func39, Tryd.ntmps39
    have HC := Lib.hid (HI.out _ _ _ _ _ H1.out (by omega))
    go_wp2_with fail
    rw [← HW1.out]
    refine HC.out.mono ?_
    rintro e w2 ⟨A2, c2_, l2, rfl, h2, q2⟩
    clear HC
    clear v0 v1 v2
    obtain ⟨v0, v1, v2⟩ := own_boxCell h2.out
    have hp2 : 0 < l2.length := by rw [q2.out]; exact flat_pos _ _
    have hl2 : l2.length + (nnf false t2).size ≤ 1000 := by rw [q2.out, flat_length]; omega
    have hl3 : l2.length ≤ 1000 := by omega
    have HC := Lib.hid (HI2.out _ _ _ _ _ h2.out (hl2))
    go_wp2_with fail
    refine HC.out.mono ?_
    rintro e w3 ⟨A3, c3_, l3, rfl, h3, q3⟩
    clear HC
    clear v0 v1 v2
    obtain ⟨v0, v1, v2⟩ := own_boxCell h3.out
    have hp3 : 0 < l3.length := by rw [q3.out]; exact flat_pos _ _
    have hl4 : l3.length ≤ 1000 := by rw [q3.out, flat_length]; omega
    have hb8 : l3.length < 1099511627776 := by omega
    have HQ : Hid (l3 ++ [(8, (l2.length : Int) - 1, (l3.length : Int) - 1)] = flat (nnf false (.bin 8 t t2)) l) := by show _ = flat (nnf false t2) (flat (nnf false t) l) ++ [(8, (((flat (nnf false t) l).length - 1 : Nat) : Int), (((flat (nnf false t2) (flat (nnf false t) l)).length - 1 : Nat) : Int))]; rw [pre_int _ (flat_pos _ _), pre_int _ (flat_pos _ _), q3.out, q2.out]
    clear c0 c1 c2 hl hl2 h2
    go_wp2_with (at_builtin; refine own_node (m := (8, (l2.length : Int) - 1, (l3.length : Int) - 1)) (by rfl) _ _ (by rfl) (by rfl) h3.out (by rfl) hb8 ?_)
    intro g6 cap6 w6 ho6
    have HO := Lib.hid (own_less (own_lof (l2 := l3) rfl ho6) box_mem)
    clear ho6 h3 v0 v1 v2
    go_wp2
    go_ret
    exact ⟨_, _, _, by simp, HO, HQ⟩
  · have HI := Lib.hid (ihj true)
    have HI2 := Lib.hid (ihj2 true)
    have hl8 : l.length + ((nnf true t).size + (nnf true t2).size + 1) ≤ 1000 := hl
    obtain ⟨W1, hW1⟩ : ∃ W1, W1 = (w.alloc (.cells #[.int .i64 8, .int .i64 (j : Int), .int .i64 (j2 : Int)] 29)).alloc (.cells #[.int .i64 1, .int .i64 0, .int .i64 2, .int .i64 3, .int .i64 5, .int .i64 4, .int .i64 7, .int .i64 6, .int .i64 9, .int .i64 8] 3) := ⟨_, rfl⟩
    have HW1 := Lib.hid hW1
    have HSz : Hid (W1.heap.size = w.heap.size + 2) := by rw [Hid, hW1]; simp
    have H1 : Hid (Own w0 W1 [eNodes (.slice Av l.length cv) l] (eBox w.heap.size (8, (j : Int), (j2 : Int)) :: fs)) := by rw [hW1]; exact (own_box h 8 (j : Int) (j2 : Int)).alloc _
    obtain ⟨v0, v1, v2⟩ := own_boxCell H1.out
    have hi2 : (i : Int) < (n : Int) := by omega
    have hlt1 : w.heap.size < W1.heap.size := by rw [HSz.out]; omega
    have hb9 : l.length < 1099511627776 := by omega
    clear hW1 h
    go_enter Tryd.func39, Tryd.ntmps39
    have HC := Lib.hid (HI.out _ _ _ _ _ H1.out (by omega))
    go_wp2_with fail
    rw [← HW1.out]
    refine HC.out.mono ?_
    rintro e w2 ⟨A2, c2_, l2, rfl, h2, q2⟩
    clear HC
    clear v0 v1 v2
    obtain ⟨v0, v1, v2⟩ := own_boxCell h2.out
    have hp2 : 0 < l2.length := by rw [q2.out]; exact flat_pos _ _
    have hl2 : l2.length + (nnf true t2).size ≤ 1000 := by rw [q2.out, flat_length]; omega
    have hl3 : l2.length ≤ 1000 := by omega
    have HC := Lib.hid (HI2.out _ _ _ _ _ h2.out (hl2))
    go_wp2_with fail
    refine HC.out.mono ?_
    rintro e w3 ⟨A3, c3_, l3, rfl, h3, q3⟩
    clear HC
    clear v0 v1 v2
    obtain ⟨v0, v1, v2⟩ := own_boxCell h3.out
    have hp3 : 0 < l3.length := by rw [q3.out]; exact flat_pos _ _
    have hl4 : l3.length ≤ 1000 := by rw [q3.out, flat_length]; omega
    have hb8 : l3.length < 1099511627776 := by omega
    have HQ : Hid (l3 ++ [(9, (l2.length : Int) - 1, (l3.length : Int) - 1)] = flat (nnf true (.bin 8 t t2)) l) := by show _ = flat (nnf true t2) (flat (nnf true t) l) ++ [(9, (((flat (nnf true t) l).length - 1 : Nat) : Int), (((flat (nnf true t2) (flat (nnf true t) l)).length - 1 : Nat) : Int))]; rw [pre_int _ (flat_pos _ _), pre_int _ (flat_pos _ _), q3.out, q2.out]
    clear c0 c1 c2 hl hl2 h2
    go_wp2_with (at_builtin; refine own_node (m := (9, (l2.length : Int) - 1, (l3.length : Int) - 1)) (by rfl) _ _ (by rfl) (by rfl) h3.out (by rfl) hb8 ?_)
    intro g6 cap6 w6 ho6
    have HO := Lib.hid (own_less (own_lof (l2 := l3) rfl ho6) box_mem)
    clear ho6 h3 v0 v1 v2
    go_wp2
    go_ret
    exact ⟨_, _, _, by simp, HO, HQ⟩
  · have HI := Lib.hid (ihj false)
    have HI2 := Lib.hid (ihj2 false)
    have hl8 : l.length + ((nnf false t).size + (nnf false t2).size + 1) ≤ 1000 := hl
    obtain ⟨W1, hW1⟩ : ∃ W1, W1 = w.alloc (.cells #[.int .i64 9, .int .i64 (j : Int), .int .i64 (j2 : Int)] 29) := ⟨_, rfl⟩
    have HW1 := Lib.hid hW1
    have HSz : Hid (W1.heap.size = w.heap.size + 1) := by rw [Hid, hW1]; simp
    have H1 : Hid (Own w0 W1 [eNodes (.slice Av l.length cv) l] (eBox w.heap.size (9, (j : Int), (j2 : Int)) :: fs)) := by rw [hW1]; exact own_box h 9 (j : Int) (j2 : Int)
    obtain ⟨v0, v1, v2⟩ := own_boxCell H1.out
    have hi2 : (i : Int) < (n : Int) := by omega
    have hlt1 : w.heap.size < W1.heap.size := by rw [HSz.out]; omega
    have hb9 : l.length < 1099511627776 := by omega
    clear hW1 h
    go_enter Tryd.func39, Tryd.ntmps39
    have HC := Lib.hid (HI.out _ _ _ _ _ H1.out (by omega))
    go_wp2_with fail
    rw [← HW1.out]
    refine HC.out.mono ?_
    rintro e w2 ⟨A2, c2_, l2, rfl, h2, q2⟩
    clear HC
    clear v0 v1 v2
    obtain ⟨v0, v1, v2⟩ := own_boxCell h2.out
    have hp2 : 0 < l2.length := by rw [q2.out]; exact flat_pos _ _
    have hl2 : l2.length + (nnf false t2).size ≤ 1000 := by rw [q2.out, flat_length]; omega
    have hl3 : l2.length ≤ 1000 := by omega
    have HC := Lib.hid (HI2.out _ _ _ _ _ h2.out (hl2))
    go_wp2_with fail
    refine HC.out.mono ?_
    rintro e w3 ⟨A3, c3_, l3, rfl, h3, q3⟩
    clear HC
    clear v0 v1 v2
    obtain ⟨v0, v1, v2⟩ := own_boxCell h3.out
    have hp3 : 0 < l3.length := by rw [q3.out]; exact flat_pos _ _
    have hl4 : l3.length ≤ 1000 := by rw [q3.out, flat_length]; omega
    have hb8 : l3.length < 1099511627776 := by omega
    have HQ : Hid (l3 ++ [(9, (l2.length : Int) - 1, (l3.length : Int) - 1)] = flat (nnf false (.bin 9 t t2)) l) := by show _ = flat (nnf false t2) (flat (nnf false t) l) ++ [(9, (((flat (nnf false t) l).length - 1 : Nat) : Int), (((flat (nnf false t2) (flat (nnf false t) l)).length - 1 : Nat) : Int))]; rw [pre_int _ (flat_pos _ _), pre_int _ (flat_pos _ _), q3.out, q2.out]
    clear c0 c1 c2 hl hl2 h2
    go_wp2_with (at_builtin; refine own_node (m := (9, (l2.length : Int) - 1, (l3.length : Int) - 1)) (by rfl) _ _ (by rfl) (by rfl) h3.out (by rfl) hb8 ?_)
    intro g6 cap6 w6 ho6
    have HO := Lib.hid (own_less (own_lof (l2 := l3) rfl ho6) box_mem)
    clear ho6 h3 v0 v1 v2
    go_wp2
    go_ret
    exact ⟨_, _, _, by simp, HO, HQ⟩
  · have HI := Lib.hid (ihj true)
    have HI2 := Lib.hid (ihj2 true)
    have hl8 : l.length + ((nnf true t).size + (nnf true t2).size + 1) ≤ 1000 := hl
    obtain ⟨W1, hW1⟩ : ∃ W1, W1 = (w.alloc (.cells #[.int .i64 9, .int .i64 (j : Int), .int .i64 (j2 : Int)] 29)).alloc (.cells #[.int .i64 1, .int .i64 0, .int .i64 2, .int .i64 3, .int .i64 5, .int .i64 4, .int .i64 7, .int .i64 6, .int .i64 9, .int .i64 8] 3) := ⟨_, rfl⟩
    have HW1 := Lib.hid hW1
    have HSz : Hid (W1.heap.size = w.heap.size + 2) := by rw [Hid, hW1]; simp
    have H1 : Hid (Own w0 W1 [eNodes (.slice Av l.length cv) l] (eBox w.heap.size (9, (j : Int), (j2 : Int)) :: fs)) := by rw [hW1]; exact (own_box h 9 (j : Int) (j2 : Int)).alloc _
    obtain ⟨v0, v1, v2⟩ := own_boxCell H1.out
    have hi2 : (i : Int) < (n : Int) := by omega
    have hlt1 : w.heap.size < W1.heap.size := by rw [HSz.out]; omega
    have hb9 : l.length < 1099511627776 := by omega
    clear hW1 h
    go_enter Tryd.func39, Tryd.ntmps39
    have HC := Lib.hid (HI.out _ _ _ _ _ H1.out (by omega))
    go_wp2_with fail
    rw [← HW1.out]
    refine HC.out.mono ?_
    rintro e w2 ⟨A2, c2_, l2, rfl, h2, q2⟩
    clear HC
    clear v0 v1 v2
    obtain ⟨v0, v1, v2⟩ := own_boxCell h2.out
    have hp2 : 0 < l2.length := by rw [q2.out]; exact flat_pos _ _
    have hl2 : l2.length + (nnf true t2).size ≤ 1000 := by rw [q2.out, flat_length]; omega
    have hl3 : l2.length ≤ 1000 := by omega
    have HC := Lib.hid (HI2.out _ _ _ _ _ h2.out (hl2))
    go_wp2_with fail
    refine HC.out.mono ?_
    rintro e w3 ⟨A3, c3_, l3, rfl, h3, q3⟩
    clear HC
    clear v0 v1 v2
    obtain ⟨v0, v1, v2⟩ := own_boxCell h3.out
    have hp3 : 0 < l3.length := by rw [q3.out]; exact flat_pos _ _
    have hl4 : l3.length ≤ 1000 := by rw [q3.out, flat_length]; omega
    have hb8 : l3.length < 1099511627776 := by omega
    have HQ : Hid (l3 ++ [(8, (l2.length : Int) - 1, (l3.length : Int) - 1)] = flat (nnf true (.bin 9 t t2)) l) := by show _ = flat (nnf true t2) (flat (nnf true t) l) ++ [(8, (((flat (nnf true t) l).length - 1 : Nat) : Int), (((flat (nnf true t2) (flat (nnf true t) l)).length - 1 : Nat) : Int))]; rw [pre_int _ (flat_pos _ _), pre_int _ (flat_pos _ _), q3.out, q2.out]
    clear c0 c1 c2 hl hl2 h2
    go_wp2_with (at_builtin; refine own_node (m := (8, (l2.length : Int) - 1, (l3.length : Int) - 1)) (by rfl) _ _ (by rfl) (by rfl) h3.out (by rfl) hb8 ?_)
    intro g6 cap6 w6 ho6
    have HO := Lib.hid (own_less (own_lof (l2 := l3) rfl ho6) box_mem)
    clear ho6 h3 v0 v1 v2
    go_wp2
    go_ret
    exact ⟨_, _, _, by simp, HO, HQ⟩
theorem rplain_any {L : Int} {f : List Nd} (hg : FGood L f) {w0 : World} {A : Option Addr} (hA : NodesAt w0 w0.heap.size A f) (c : Nat) : ∀ i, i < f.length → ∀ (b : Bool) (fs : List Ent) (Av : Option Addr) (cv : Nat) (l : List Nd) (W : World),
    Own w0 W [eNodes (.slice Av l.length cv) l] fs → l.length + (nnf b (tre f i)).size ≤ 1000 → Calls Tryd.prog 39 #[.slice A f.length c, .int .i64 (i : Int), .bool b, .slice Av l.length cv] W (RpOut w0 fs l (tre f i) b) := by
  intro i
  induction i using Nat.strongRecOn with
  | _ i ih =>
    intro hi b fs Av cv l W h hl
    have hn : f[i]? = some f[i] := List.getElem?_eq_getElem hi
    have gd := hg.nd i _ hn
    obtain ⟨ad, e, hadb, c0, c1, c2⟩ := (hA.on h.below).at_ hn
    subst e
    rw [tre_get hg.nd hn] at hl ⊢
    generalize f[i] = nd at *
    obtain ⟨kd, x, y⟩ := nd
    have h0 : 0 ≤ kd := gd.k0
    have h9 : kd ≤ 9 := gd.k9
    have ha : 1 ≤ ops kd → 0 ≤ x ∧ x < (i : Int) := gd.a1
    have hb : ops kd = 2 → 0 ≤ y ∧ y < (i : Int) := gd.b2
    have hb0 : ops kd ≠ 2 → y = 0 := gd.b0
    have hst : kd = 2 → 0 ≤ x ∧ x < 2 ^ L.toNat := gd.set
    simp only at c0 c1 c2
    have hk : (kd = 0 ∨ kd = 1) ∨ kd = 2 ∨ kd = 3 ∨ (kd = 6 ∨ kd = 7) ∨ (kd = 4 ∨ kd = 5 ∨ kd = 8 ∨ kd = 9) := by omega
    rcases hk with hk | rfl | rfl | hk | hk
    · have e : tone (kd, x, y) (trees f) = .leaf kd.toNat 0 := by rcases hk with rfl | rfl <;> rfl
      rw [e] at hl ⊢
      exact rp_leaf h hi (by rw [show ((kd.toNat : Nat) : Int) = kd by omega]; exact c0) c1 c2 hadb b (by omega) hl
    · have e : tone (2, x, y) (trees f) = .leaf 2 x.toNat := rfl
      rw [e] at hl ⊢
      exact rp_is h (k0 := 2) hi c0 c1 c2 hadb x.toNat (by have := hst rfl; omega) (hb0 (by decide)) b rfl hl
    · have hx := ha (by decide)
      have e : tone (3, x, y) (trees f) = .un 3 (tre f x.toNat) := rfl
      rw [e] at hl ⊢
      exact rp_not h (k0 := 3) hi c0 c1 c2 hadb (j := x.toNat) (by omega) (fun b fs Av cv l W h hl => ih x.toNat (by omega) (by omega) b fs Av cv l W h hl) (by omega) b rfl hl
    · have hx := ha (by rcases hk with rfl | rfl <;> decide)
      have e : tone (kd, x, y) (trees f) = .un kd.toNat (tre f x.toNat) := by rcases hk with rfl | rfl <;> rfl
      rw [e] at hl ⊢
      exact rp_un h hi (by rw [show ((kd.toNat : Nat) : Int) = kd by omega]; exact c0) c1 c2 hadb (j := x.toNat) (by omega) (fun b fs Av cv l W h hl => ih x.toNat (by omega) (by omega) b fs Av cv l W h hl) (by omega) b (by omega) hl
    · have hx := ha (by rcases hk with rfl | rfl | rfl | rfl <;> decide)
      have hy := hb (by rcases hk with rfl | rfl | rfl | rfl <;> decide)
      have e : tone (kd, x, y) (trees f) = .bin kd.toNat (tre f x.toNat) (tre f y.toNat) := by rcases hk with rfl | rfl | rfl | rfl <;> rfl
      rw [e] at hl ⊢
      exact rp_bin h hi (by rw [show ((kd.toNat : Nat) : Int) = kd by omega]; exact c0) c1 c2 hadb (j := x.toNat) (by omega) (fun b fs Av cv l W h hl => ih x.toNat (by omega) (by omega) b fs Av cv l W h hl) (by omega) (j2 := y.toNat) (by omega) (fun b fs Av cv l W h hl => ih y.toNat (by omega) (by omega) b fs Av cv l W h hl) (by omega) b (by omega) hl
end Go.Proofs.YtaelgnmklepebaaDoor.Fm
