/- The walk of package form: the writer's node, arm by arm. -/
import Derived.Test.YtloihkoamccacaaGreatDoorWrite
namespace Go.Proofs.YtloihkoamccacaaGreatDoor.Fm
open Go.RowKit Go.IntWalk Go.Proofs.YtloihkoamccacaaGreatDoor.Wd Go.Proofs.YtloihkoamccacaaGreatDoor.Wo

theorem Put.then {w0 : World} {g : Nat} {nv : Value} {fs : List Ent} {l s t : List UInt8} {e : Ending} {w : World} (h : Put w0 g nv fs (l ++ s) t e w) : Put w0 g nv fs l (s ++ t) e w := by
  rcases h with ⟨h1, h2, h3⟩ | ⟨h1, h2, h3⟩
  · exact .inl ⟨by simp at h1 ⊢; omega, h2, by rw [← List.append_assoc]; exact h3⟩
  · exact .inr ⟨by simp at h1 ⊢; omega, h2, h3⟩
theorem Wr.less {w0 w : World} {g : Nat} {nv : Value} {fs fs' : List Ent} {l : List UInt8} (h : Wr w0 w g nv fs l) (p : ∀ e ∈ fs', e ∈ fs) : Wr w0 w g nv fs' l := by
  obtain ⟨q, v, hp, h⟩ := h
  exact ⟨q, v, hp, h.weak p⟩
def eVar (g : Nat) (n : Nd) : Ent := ⟨108, 3, .slice (some ⟨g, 0, none⟩) 1 1, 1, [.int .i64 n.1, .int .i64 n.2.1, .int .i64 n.2.2]⟩
theorem Wr.var {w0 w : World} {g : Nat} {nv : Value} {fs : List Ent} {l : List UInt8} (h : Wr w0 w g nv fs l) (k a b : Int) :
    Wr w0 (w.alloc (.cells #[.int .i64 k, .int .i64 a, .int .i64 b] 108)) g nv (eVar w.heap.size (k, a, b) :: fs) l := by
  obtain ⟨q, v, hp, h⟩ := h
  exact ⟨q, v, hp, (h.lit 108 3 1 #[.int .i64 k, .int .i64 a, .int .i64 b] rfl (by simp [maxLen])).fin⟩
theorem Wr.varCell {w0 w : World} {g g2 : Nat} {nv : Value} {fs : List Ent} {l : List UInt8} {k a b : Int} (h : Wr w0 w g nv (eVar g2 (k, a, b) :: fs) l) :
    w.cell? ⟨g2, 0, none⟩ = some (.int .i64 k) ∧ w.cell? ⟨g2, 1, none⟩ = some (.int .i64 a) ∧ w.cell? ⟨g2, 2, none⟩ = some (.int .i64 b) := by
  obtain ⟨q, v, hp, h⟩ := h
  have hm : eVar g2 (k, a, b) ∈ [eWr g [q, v, nv], eBuf v l] ++ (eVar g2 (k, a, b) :: fs) := by simp
  exact ⟨(h.cell (j := 0) hm rfl).1, (h.cell (j := 1) hm rfl).1, (h.cell (j := 2) hm rfl).1⟩
theorem tail_mem {x : Ent} {fs : List Ent} : ∀ e ∈ fs, e ∈ x :: fs := fun _ h => List.mem_cons_of_mem _ h
set_option maxRecDepth 100000 in
set_option maxHeartbeats 1000000 in
theorem node_k0 {w0 w : World} {g : Nat} {nv : Value} {fs : List Ent} {l : List UInt8} (h : Wr w0 w g nv fs l) (hl : l.length ≤ 300) {A : Option Addr} {f : List Nd} {c : Nat} (hA : NodesAt w0 w0.heap.size A f) (hnv : nv = .slice A f.length c) {i : Nat} {a b : Int}
    (hn : f[i]? = some (0, a, b)) :
    Calls Tryz.prog 24 #[.pointer (some ⟨g, 0, none⟩), .int .i64 (i : Int)] w (Put w0 g nv fs l ([116])) := by
  subst hnv
  obtain ⟨ad, e, hadb, c0, c1, c2⟩ := (hA.on h.below).at_ hn
  subst e
  have hi := (List.getElem?_eq_some_iff.1 hn).1
  have hcell := h.cell2
  obtain ⟨W1, hW1⟩ : ∃ W1, W1 = w.alloc (.cells #[.int .i64 0, .int .i64 a, .int .i64 b] 108) := ⟨_, rfl⟩
  have HW1 := Lib.hid hW1
  have H1 : Hid (Wr w0 W1 g (.slice (some ad) f.length c) (eVar w.heap.size (0, a, b) :: fs) l) := by rw [hW1]; exact h.var 0 a b
  have HO := fun W => Lib.hid (operands_any 0 W)
  obtain ⟨v0, v1, v2⟩ := H1.out.varCell
  simp only at c0 c1 c2
  clear hW1 h hn hA hadb
  go_enter Tryz.func24, Tryz.ntmps24
  go_wp2_with fail
  refine (HO _).out.mono ?_
  rintro e w2 ⟨rfl, rfl⟩
  rw [← HW1.out, show ops 0 = 0 from by decide]
  clear HO HW1 c0 c1 c2 hcell
  have HC0 := Lib.hid (sign_any H1.out hl 116 116 rfl)
  clear H1
  go_wp2_with fail
  refine HC0.out.mono ?_
  rintro e w3 (⟨hl2x, rfl, H2⟩ | ⟨hl2, rfl, H2⟩)
  rotate_left
  · exact ⟨rfl, .inr ⟨by simp at hl2 ⊢; omega, rfl, Lib.hid (H2.out.weak tail_mem)⟩⟩
  clear HC0
  clear v0 v1 v2
  obtain ⟨v0, v1, v2⟩ := H2.out.varCell
  go_wp2
  go_end0
  exact .inl ⟨by simp at hl2x ⊢; omega, rfl, Lib.hid (by have := H2.out.less tail_mem; simpa using this)⟩
set_option maxRecDepth 100000 in
set_option maxHeartbeats 1000000 in
theorem node_k1 {w0 w : World} {g : Nat} {nv : Value} {fs : List Ent} {l : List UInt8} (h : Wr w0 w g nv fs l) (hl : l.length ≤ 300) {A : Option Addr} {f : List Nd} {c : Nat} (hA : NodesAt w0 w0.heap.size A f) (hnv : nv = .slice A f.length c) {i : Nat} {a b : Int}
    (hn : f[i]? = some (1, a, b)) :
    Calls Tryz.prog 24 #[.pointer (some ⟨g, 0, none⟩), .int .i64 (i : Int)] w (Put w0 g nv fs l ([102])) := by
  subst hnv
  obtain ⟨ad, e, hadb, c0, c1, c2⟩ := (hA.on h.below).at_ hn
  subst e
  have hi := (List.getElem?_eq_some_iff.1 hn).1
  have hcell := h.cell2
  obtain ⟨W1, hW1⟩ : ∃ W1, W1 = w.alloc (.cells #[.int .i64 1, .int .i64 a, .int .i64 b] 108) := ⟨_, rfl⟩
  have HW1 := Lib.hid hW1
  have H1 : Hid (Wr w0 W1 g (.slice (some ad) f.length c) (eVar w.heap.size (1, a, b) :: fs) l) := by rw [hW1]; exact h.var 1 a b
  have HO := fun W => Lib.hid (operands_any 1 W)
  obtain ⟨v0, v1, v2⟩ := H1.out.varCell
  simp only at c0 c1 c2
  clear hW1 h hn hA hadb
  go_enter Tryz.func24, Tryz.ntmps24
  go_wp2_with fail
  refine (HO _).out.mono ?_
  rintro e w2 ⟨rfl, rfl⟩
  rw [← HW1.out, show ops 1 = 0 from by decide]
  clear HO HW1 c0 c1 c2 hcell
  have HC0 := Lib.hid (sign_any H1.out hl 102 102 rfl)
  clear H1
  go_wp2_with fail
  refine HC0.out.mono ?_
  rintro e w3 (⟨hl2x, rfl, H2⟩ | ⟨hl2, rfl, H2⟩)
  rotate_left
  · exact ⟨rfl, .inr ⟨by simp at hl2 ⊢; omega, rfl, Lib.hid (H2.out.weak tail_mem)⟩⟩
  clear HC0
  clear v0 v1 v2
  obtain ⟨v0, v1, v2⟩ := H2.out.varCell
  go_wp2
  go_end0
  exact .inl ⟨by simp at hl2x ⊢; omega, rfl, Lib.hid (by have := H2.out.less tail_mem; simpa using this)⟩
set_option maxRecDepth 100000 in
set_option maxHeartbeats 1000000 in
theorem node_k2 {w0 w : World} {g : Nat} {nv : Value} {fs : List Ent} {l : List UInt8} (h : Wr w0 w g nv fs l) (hl : l.length ≤ 300) {A : Option Addr} {f : List Nd} {c : Nat} (hA : NodesAt w0 w0.heap.size A f) (hnv : nv = .slice A f.length c) {i : Nat} {a b : Int}
    (hn : f[i]? = some (2, a, b))
    {v : Nat} (hv : a = (v : Int)) :
    Calls Tryz.prog 24 #[.pointer (some ⟨g, 0, none⟩), .int .i64 (i : Int)] w (Put w0 g nv fs l (91 :: ((bitsOf v).map dg ++ [93]))) := by
  subst hnv
  obtain ⟨ad, e, hadb, c0, c1, c2⟩ := (hA.on h.below).at_ hn
  subst e
  have hi := (List.getElem?_eq_some_iff.1 hn).1
  have hcell := h.cell2
  obtain ⟨W1, hW1⟩ : ∃ W1, W1 = w.alloc (.cells #[.int .i64 2, .int .i64 a, .int .i64 b] 108) := ⟨_, rfl⟩
  have HW1 := Lib.hid hW1
  have H1 : Hid (Wr w0 W1 g (.slice (some ad) f.length c) (eVar w.heap.size (2, a, b) :: fs) l) := by rw [hW1]; exact h.var 2 a b
  have HO := fun W => Lib.hid (operands_any 2 W)
  obtain ⟨v0, v1, v2⟩ := H1.out.varCell
  simp only at c0 c1 c2
  clear hW1 h hn hA hadb
  subst hv
  go_enter Tryz.func24, Tryz.ntmps24
  go_wp2_with fail
  refine (HO _).out.mono ?_
  rintro e w2 ⟨rfl, rfl⟩
  rw [← HW1.out, show ops 2 = 0 from by decide]
  clear HO HW1 c0 c1 c2 hcell
  have HC0 := Lib.hid (sign_any H1.out hl 91 91 rfl)
  clear H1
  go_wp2_with fail
  refine HC0.out.mono ?_
  rintro e w3 (⟨hl2x, rfl, H2⟩ | ⟨hl2, rfl, H2⟩)
  rotate_left
  · exact ⟨rfl, .inr ⟨by simp at hl2 ⊢; omega, rfl, Lib.hid (H2.out.weak tail_mem)⟩⟩
  clear HC0
  have hl2 : (l ++ [91]).length ≤ 300 := by rw [List.length_append]; exact hl2x
  clear hl2x
  clear v0 v1 v2
  obtain ⟨v0, v1, v2⟩ := H2.out.varCell
  have HC1 := Lib.hid (rest_any H2.out hl2 v)
  clear H2
  go_wp2_with fail
  refine HC1.out.mono ?_
  rintro e w4 (⟨hl3x, rfl, H3⟩ | ⟨hl3, rfl, H3⟩)
  rotate_left
  · exact ⟨rfl, .inr ⟨by simp at hl3 ⊢; omega, rfl, Lib.hid (H3.out.weak tail_mem)⟩⟩
  clear HC1
  clear v0 v1 v2
  obtain ⟨v0, v1, v2⟩ := H3.out.varCell
  go_wp2
  go_end0
  exact .inl ⟨by simp at hl3x ⊢; omega, rfl, Lib.hid (by have := H3.out.less tail_mem; simpa using this)⟩
set_option maxRecDepth 100000 in
set_option maxHeartbeats 1000000 in
theorem node_k3 {w0 w : World} {g : Nat} {nv : Value} {fs : List Ent} {l : List UInt8} (h : Wr w0 w g nv fs l) (hl : l.length ≤ 300) {A : Option Addr} {f : List Nd} {c : Nat} (hA : NodesAt w0 w0.heap.size A f) (hnv : nv = .slice A f.length c) {i : Nat} {a b : Int}
    (hn : f[i]? = some (3, a, b))
    {ta : List UInt8} (ha : ∀ W' l', Wr w0 W' g nv (eVar w.heap.size (3, a, b) :: fs) l' → l'.length ≤ 300 → Calls Tryz.prog 24 #[.pointer (some ⟨g, 0, none⟩), .int .i64 a] W' (Put w0 g nv (eVar w.heap.size (3, a, b) :: fs) l' ta)) :
    Calls Tryz.prog 24 #[.pointer (some ⟨g, 0, none⟩), .int .i64 (i : Int)] w (Put w0 g nv fs l (33 :: ta)) := by
  subst hnv
  obtain ⟨ad, e, hadb, c0, c1, c2⟩ := (hA.on h.below).at_ hn
  subst e
  have hi := (List.getElem?_eq_some_iff.1 hn).1
  have hcell := h.cell2
  obtain ⟨W1, hW1⟩ : ∃ W1, W1 = w.alloc (.cells #[.int .i64 3, .int .i64 a, .int .i64 b] 108) := ⟨_, rfl⟩
  have HW1 := Lib.hid hW1
  have H1 : Hid (Wr w0 W1 g (.slice (some ad) f.length c) (eVar w.heap.size (3, a, b) :: fs) l) := by rw [hW1]; exact h.var 3 a b
  have HO := fun W => Lib.hid (operands_any 3 W)
  obtain ⟨v0, v1, v2⟩ := H1.out.varCell
  simp only at c0 c1 c2
  clear hW1 h hn hA hadb
  go_enter Tryz.func24, Tryz.ntmps24
  go_wp2_with fail
  refine (HO _).out.mono ?_
  rintro e w2 ⟨rfl, rfl⟩
  rw [← HW1.out, show ops 3 = 1 from by decide]
  clear HO HW1 c0 c1 c2 hcell
  have HC0 := Lib.hid (sign_any H1.out hl 33 33 rfl)
  clear H1
  go_wp2_with fail
  refine HC0.out.mono ?_
  rintro e w3 (⟨hl2x, rfl, H2⟩ | ⟨hl2, rfl, H2⟩)
  rotate_left
  · exact ⟨rfl, .inr ⟨by simp at hl2 ⊢; omega, rfl, Lib.hid (H2.out.weak tail_mem)⟩⟩
  clear HC0
  have hl2 : (l ++ [33]).length ≤ 300 := by rw [List.length_append]; exact hl2x
  clear hl2x
  clear v0 v1 v2
  obtain ⟨v0, v1, v2⟩ := H2.out.varCell
  have HC1 := Lib.hid (ha _ _ H2.out hl2)
  clear H2
  go_wp2_with fail
  refine HC1.out.mono ?_
  rintro e w4 (⟨hl3x, rfl, H3⟩ | ⟨hl3, rfl, H3⟩)
  rotate_left
  · exact ⟨rfl, .inr ⟨by simp at hl3 ⊢; omega, rfl, Lib.hid (H3.out.weak tail_mem)⟩⟩
  clear HC1
  clear v0 v1 v2
  obtain ⟨v0, v1, v2⟩ := H3.out.varCell
  go_wp2
  go_end0
  exact .inl ⟨by simp at hl3x ⊢; omega, rfl, Lib.hid (by have := H3.out.less tail_mem; simpa using this)⟩
set_option maxRecDepth 100000 in
set_option maxHeartbeats 1000000 in
theorem node_k6 {w0 w : World} {g : Nat} {nv : Value} {fs : List Ent} {l : List UInt8} (h : Wr w0 w g nv fs l) (hl : l.length ≤ 300) {A : Option Addr} {f : List Nd} {c : Nat} (hA : NodesAt w0 w0.heap.size A f) (hnv : nv = .slice A f.length c) {i : Nat} {a b : Int}
    (hn : f[i]? = some (6, a, b))
    {ta : List UInt8} (ha : ∀ W' l', Wr w0 W' g nv (eVar w.heap.size (6, a, b) :: fs) l' → l'.length ≤ 300 → Calls Tryz.prog 24 #[.pointer (some ⟨g, 0, none⟩), .int .i64 a] W' (Put w0 g nv (eVar w.heap.size (6, a, b) :: fs) l' ta)) :
    Calls Tryz.prog 24 #[.pointer (some ⟨g, 0, none⟩), .int .i64 (i : Int)] w (Put w0 g nv fs l (88 :: ta)) := by
  subst hnv
  obtain ⟨ad, e, hadb, c0, c1, c2⟩ := (hA.on h.below).at_ hn
  subst e
  have hi := (List.getElem?_eq_some_iff.1 hn).1
  have hcell := h.cell2
  obtain ⟨W1, hW1⟩ : ∃ W1, W1 = w.alloc (.cells #[.int .i64 6, .int .i64 a, .int .i64 b] 108) := ⟨_, rfl⟩
  have HW1 := Lib.hid hW1
  have H1 : Hid (Wr w0 W1 g (.slice (some ad) f.length c) (eVar w.heap.size (6, a, b) :: fs) l) := by rw [hW1]; exact h.var 6 a b
  have HO := fun W => Lib.hid (operands_any 6 W)
  obtain ⟨v0, v1, v2⟩ := H1.out.varCell
  simp only at c0 c1 c2
  clear hW1 h hn hA hadb
  go_enter Tryz.func24, Tryz.ntmps24
  go_wp2_with fail
  refine (HO _).out.mono ?_
  rintro e w2 ⟨rfl, rfl⟩
  rw [← HW1.out, show ops 6 = 1 from by decide]
  clear HO HW1 c0 c1 c2 hcell
  have HC0 := Lib.hid (sign_any H1.out hl 88 88 rfl)
  clear H1
  go_wp2_with fail
  refine HC0.out.mono ?_
  rintro e w3 (⟨hl2x, rfl, H2⟩ | ⟨hl2, rfl, H2⟩)
  rotate_left
  · exact ⟨rfl, .inr ⟨by simp at hl2 ⊢; omega, rfl, Lib.hid (H2.out.weak tail_mem)⟩⟩
  clear HC0
  have hl2 : (l ++ [88]).length ≤ 300 := by rw [List.length_append]; exact hl2x
  clear hl2x
  clear v0 v1 v2
  obtain ⟨v0, v1, v2⟩ := H2.out.varCell
  have HC1 := Lib.hid (ha _ _ H2.out hl2)
  clear H2
  go_wp2_with fail
  refine HC1.out.mono ?_
  rintro e w4 (⟨hl3x, rfl, H3⟩ | ⟨hl3, rfl, H3⟩)
  rotate_left
  · exact ⟨rfl, .inr ⟨by simp at hl3 ⊢; omega, rfl, Lib.hid (H3.out.weak tail_mem)⟩⟩
  clear HC1
  clear v0 v1 v2
  obtain ⟨v0, v1, v2⟩ := H3.out.varCell
  go_wp2
  go_end0
  exact .inl ⟨by simp at hl3x ⊢; omega, rfl, Lib.hid (by have := H3.out.less tail_mem; simpa using this)⟩
set_option maxRecDepth 100000 in
set_option maxHeartbeats 1000000 in
theorem node_k7 {w0 w : World} {g : Nat} {nv : Value} {fs : List Ent} {l : List UInt8} (h : Wr w0 w g nv fs l) (hl : l.length ≤ 300) {A : Option Addr} {f : List Nd} {c : Nat} (hA : NodesAt w0 w0.heap.size A f) (hnv : nv = .slice A f.length c) {i : Nat} {a b : Int}
    (hn : f[i]? = some (7, a, b))
    {ta : List UInt8} (ha : ∀ W' l', Wr w0 W' g nv (eVar w.heap.size (7, a, b) :: fs) l' → l'.length ≤ 300 → Calls Tryz.prog 24 #[.pointer (some ⟨g, 0, none⟩), .int .i64 a] W' (Put w0 g nv (eVar w.heap.size (7, a, b) :: fs) l' ta)) :
    Calls Tryz.prog 24 #[.pointer (some ⟨g, 0, none⟩), .int .i64 (i : Int)] w (Put w0 g nv fs l (87 :: ta)) := by
  subst hnv
  obtain ⟨ad, e, hadb, c0, c1, c2⟩ := (hA.on h.below).at_ hn
  subst e
  have hi := (List.getElem?_eq_some_iff.1 hn).1
  have hcell := h.cell2
  obtain ⟨W1, hW1⟩ : ∃ W1, W1 = w.alloc (.cells #[.int .i64 7, .int .i64 a, .int .i64 b] 108) := ⟨_, rfl⟩
  have HW1 := Lib.hid hW1
  have H1 : Hid (Wr w0 W1 g (.slice (some ad) f.length c) (eVar w.heap.size (7, a, b) :: fs) l) := by rw [hW1]; exact h.var 7 a b
  have HO := fun W => Lib.hid (operands_any 7 W)
  obtain ⟨v0, v1, v2⟩ := H1.out.varCell
  simp only at c0 c1 c2
  clear hW1 h hn hA hadb
  go_enter Tryz.func24, Tryz.ntmps24
  go_wp2_with fail
  refine (HO _).out.mono ?_
  rintro e w2 ⟨rfl, rfl⟩
  rw [← HW1.out, show ops 7 = 1 from by decide]
  clear HO HW1 c0 c1 c2 hcell
  have HC0 := Lib.hid (sign_any H1.out hl 87 87 rfl)
  clear H1
  go_wp2_with fail
  refine HC0.out.mono ?_
  rintro e w3 (⟨hl2x, rfl, H2⟩ | ⟨hl2, rfl, H2⟩)
  rotate_left
  · exact ⟨rfl, .inr ⟨by simp at hl2 ⊢; omega, rfl, Lib.hid (H2.out.weak tail_mem)⟩⟩
  clear HC0
  have hl2 : (l ++ [87]).length ≤ 300 := by rw [List.length_append]; exact hl2x
  clear hl2x
  clear v0 v1 v2
  obtain ⟨v0, v1, v2⟩ := H2.out.varCell
  have HC1 := Lib.hid (ha _ _ H2.out hl2)
  clear H2
  go_wp2_with fail
  refine HC1.out.mono ?_
  rintro e w4 (⟨hl3x, rfl, H3⟩ | ⟨hl3, rfl, H3⟩)
  rotate_left
  · exact ⟨rfl, .inr ⟨by simp at hl3 ⊢; omega, rfl, Lib.hid (H3.out.weak tail_mem)⟩⟩
  clear HC1
  clear v0 v1 v2
  obtain ⟨v0, v1, v2⟩ := H3.out.varCell
  go_wp2
  go_end0
  exact .inl ⟨by simp at hl3x ⊢; omega, rfl, Lib.hid (by have := H3.out.less tail_mem; simpa using this)⟩
set_option maxRecDepth 100000 in
set_option maxHeartbeats 1000000 in
theorem node_k4 {w0 w : World} {g : Nat} {nv : Value} {fs : List Ent} {l : List UInt8} (h : Wr w0 w g nv fs l) (hl : l.length ≤ 300) {A : Option Addr} {f : List Nd} {c : Nat} (hA : NodesAt w0 w0.heap.size A f) (hnv : nv = .slice A f.length c) {i : Nat} {a b : Int}
    (hn : f[i]? = some (4, a, b))
    {ta : List UInt8} (ha : ∀ W' l', Wr w0 W' g nv (eVar w.heap.size (4, a, b) :: fs) l' → l'.length ≤ 300 → Calls Tryz.prog 24 #[.pointer (some ⟨g, 0, none⟩), .int .i64 a] W' (Put w0 g nv (eVar w.heap.size (4, a, b) :: fs) l' ta))
    {tb : List UInt8} (hb : ∀ W' l', Wr w0 W' g nv (eVar w.heap.size (4, a, b) :: fs) l' → l'.length ≤ 300 → Calls Tryz.prog 24 #[.pointer (some ⟨g, 0, none⟩), .int .i64 b] W' (Put w0 g nv (eVar w.heap.size (4, a, b) :: fs) l' tb)) :
    Calls Tryz.prog 24 #[.pointer (some ⟨g, 0, none⟩), .int .i64 (i : Int)] w (Put w0 g nv fs l (40 :: (ta ++ 38 :: (tb ++ [41])))) := by
  subst hnv
  obtain ⟨ad, e, hadb, c0, c1, c2⟩ := (hA.on h.below).at_ hn
  subst e
  have hi := (List.getElem?_eq_some_iff.1 hn).1
  have hcell := h.cell2
  obtain ⟨W1, hW1⟩ : ∃ W1, W1 = w.alloc (.cells #[.int .i64 4, .int .i64 a, .int .i64 b] 108) := ⟨_, rfl⟩
  have HW1 := Lib.hid hW1
  have H1 : Hid (Wr w0 W1 g (.slice (some ad) f.length c) (eVar w.heap.size (4, a, b) :: fs) l) := by rw [hW1]; exact h.var 4 a b
  have HO := fun W => Lib.hid (operands_any 4 W)
  obtain ⟨v0, v1, v2⟩ := H1.out.varCell
  simp only at c0 c1 c2
  clear hW1 h hn hA hadb
  go_enter Tryz.func24, Tryz.ntmps24
  go_wp2_with fail
  refine (HO _).out.mono ?_
  rintro e w2 ⟨rfl, rfl⟩
  rw [← HW1.out, show ops 4 = 2 from by decide]
  clear HO HW1 c0 c1 c2 hcell
  have HC0 := Lib.hid (sign_any H1.out hl 40 40 rfl)
  clear H1
  go_wp2_with fail
  refine HC0.out.mono ?_
  rintro e w3 (⟨hl2x, rfl, H2⟩ | ⟨hl2, rfl, H2⟩)
  rotate_left
  · exact ⟨rfl, .inr ⟨by simp at hl2 ⊢; omega, rfl, Lib.hid (H2.out.weak tail_mem)⟩⟩
  clear HC0
  have hl2 : (l ++ [40]).length ≤ 300 := by rw [List.length_append]; exact hl2x
  clear hl2x
  clear v0 v1 v2
  obtain ⟨v0, v1, v2⟩ := H2.out.varCell
  have HC1 := Lib.hid (ha _ _ H2.out hl2)
  clear H2
  go_wp2_with fail
  refine HC1.out.mono ?_
  rintro e w4 (⟨hl3x, rfl, H3⟩ | ⟨hl3, rfl, H3⟩)
  rotate_left
  · exact ⟨rfl, .inr ⟨by simp at hl3 ⊢; omega, rfl, Lib.hid (H3.out.weak tail_mem)⟩⟩
  clear HC1
  have hl3 : ((l ++ [40]) ++ ta).length ≤ 300 := by rw [List.length_append]; exact hl3x
  clear hl3x
  clear v0 v1 v2
  obtain ⟨v0, v1, v2⟩ := H3.out.varCell
  have HC2 := Lib.hid (sign_any H3.out hl3 38 38 rfl)
  clear H3
  go_wp2_with fail
  refine HC2.out.mono ?_
  rintro e w5 (⟨hl4x, rfl, H4⟩ | ⟨hl4, rfl, H4⟩)
  rotate_left
  · exact ⟨rfl, .inr ⟨by simp at hl4 ⊢; omega, rfl, Lib.hid (H4.out.weak tail_mem)⟩⟩
  clear HC2
  have hl4 : ((l ++ [40] ++ ta) ++ [38]).length ≤ 300 := by rw [List.length_append]; exact hl4x
  clear hl4x
  clear v0 v1 v2
  obtain ⟨v0, v1, v2⟩ := H4.out.varCell
  have HC3 := Lib.hid (hb _ _ H4.out hl4)
  clear H4
  go_wp2_with fail
  refine HC3.out.mono ?_
  rintro e w6 (⟨hl5x, rfl, H5⟩ | ⟨hl5, rfl, H5⟩)
  rotate_left
  · exact ⟨rfl, .inr ⟨by simp at hl5 ⊢; omega, rfl, Lib.hid (H5.out.weak tail_mem)⟩⟩
  clear HC3
  have hl5 : ((l ++ [40] ++ ta ++ [38]) ++ tb).length ≤ 300 := by rw [List.length_append]; exact hl5x
  clear hl5x
  clear v0 v1 v2
  obtain ⟨v0, v1, v2⟩ := H5.out.varCell
  have HC4 := Lib.hid (sign_any H5.out hl5 41 41 rfl)
  clear H5
  go_wp2_with fail
  refine HC4.out.mono ?_
  rintro e w7 (⟨hl6x, rfl, H6⟩ | ⟨hl6, rfl, H6⟩)
  rotate_left
  · exact ⟨rfl, .inr ⟨by simp at hl6 ⊢; omega, rfl, Lib.hid (H6.out.weak tail_mem)⟩⟩
  clear HC4
  clear v0 v1 v2
  obtain ⟨v0, v1, v2⟩ := H6.out.varCell
  go_wp2
  go_end0
  exact .inl ⟨by simp at hl6x ⊢; omega, rfl, Lib.hid (by have := H6.out.less tail_mem; simpa using this)⟩
set_option maxRecDepth 100000 in
set_option maxHeartbeats 1000000 in
theorem node_k5 {w0 w : World} {g : Nat} {nv : Value} {fs : List Ent} {l : List UInt8} (h : Wr w0 w g nv fs l) (hl : l.length ≤ 300) {A : Option Addr} {f : List Nd} {c : Nat} (hA : NodesAt w0 w0.heap.size A f) (hnv : nv = .slice A f.length c) {i : Nat} {a b : Int}
    (hn : f[i]? = some (5, a, b))
    {ta : List UInt8} (ha : ∀ W' l', Wr w0 W' g nv (eVar w.heap.size (5, a, b) :: fs) l' → l'.length ≤ 300 → Calls Tryz.prog 24 #[.pointer (some ⟨g, 0, none⟩), .int .i64 a] W' (Put w0 g nv (eVar w.heap.size (5, a, b) :: fs) l' ta))
    {tb : List UInt8} (hb : ∀ W' l', Wr w0 W' g nv (eVar w.heap.size (5, a, b) :: fs) l' → l'.length ≤ 300 → Calls Tryz.prog 24 #[.pointer (some ⟨g, 0, none⟩), .int .i64 b] W' (Put w0 g nv (eVar w.heap.size (5, a, b) :: fs) l' tb)) :
    Calls Tryz.prog 24 #[.pointer (some ⟨g, 0, none⟩), .int .i64 (i : Int)] w (Put w0 g nv fs l (40 :: (ta ++ 124 :: (tb ++ [41])))) := by
  subst hnv
  obtain ⟨ad, e, hadb, c0, c1, c2⟩ := (hA.on h.below).at_ hn
  subst e
  have hi := (List.getElem?_eq_some_iff.1 hn).1
  have hcell := h.cell2
  obtain ⟨W1, hW1⟩ : ∃ W1, W1 = w.alloc (.cells #[.int .i64 5, .int .i64 a, .int .i64 b] 108) := ⟨_, rfl⟩
  have HW1 := Lib.hid hW1
  have H1 : Hid (Wr w0 W1 g (.slice (some ad) f.length c) (eVar w.heap.size (5, a, b) :: fs) l) := by rw [hW1]; exact h.var 5 a b
  have HO := fun W => Lib.hid (operands_any 5 W)
  obtain ⟨v0, v1, v2⟩ := H1.out.varCell
  simp only at c0 c1 c2
  clear hW1 h hn hA hadb
  go_enter Tryz.func24, Tryz.ntmps24
  go_wp2_with fail
  refine (HO _).out.mono ?_
  rintro e w2 ⟨rfl, rfl⟩
  rw [← HW1.out, show ops 5 = 2 from by decide]
  clear HO HW1 c0 c1 c2 hcell
  have HC0 := Lib.hid (sign_any H1.out hl 40 40 rfl)
  clear H1
  go_wp2_with fail
  refine HC0.out.mono ?_
  rintro e w3 (⟨hl2x, rfl, H2⟩ | ⟨hl2, rfl, H2⟩)
  rotate_left
  · exact ⟨rfl, .inr ⟨by simp at hl2 ⊢; omega, rfl, Lib.hid (H2.out.weak tail_mem)⟩⟩
  clear HC0
  have hl2 : (l ++ [40]).length ≤ 300 := by rw [List.length_append]; exact hl2x
  clear hl2x
  clear v0 v1 v2
  obtain ⟨v0, v1, v2⟩ := H2.out.varCell
  have HC1 := Lib.hid (ha _ _ H2.out hl2)
  clear H2
  go_wp2_with fail
  refine HC1.out.mono ?_
  rintro e w4 (⟨hl3x, rfl, H3⟩ | ⟨hl3, rfl, H3⟩)
  rotate_left
  · exact ⟨rfl, .inr ⟨by simp at hl3 ⊢; omega, rfl, Lib.hid (H3.out.weak tail_mem)⟩⟩
  clear HC1
  have hl3 : ((l ++ [40]) ++ ta).length ≤ 300 := by rw [List.length_append]; exact hl3x
  clear hl3x
  clear v0 v1 v2
  obtain ⟨v0, v1, v2⟩ := H3.out.varCell
  have HC2 := Lib.hid (sign_any H3.out hl3 124 124 rfl)
  clear H3
  go_wp2_with fail
  refine HC2.out.mono ?_
  rintro e w5 (⟨hl4x, rfl, H4⟩ | ⟨hl4, rfl, H4⟩)
  rotate_left
  · exact ⟨rfl, .inr ⟨by simp at hl4 ⊢; omega, rfl, Lib.hid (H4.out.weak tail_mem)⟩⟩
  clear HC2
  have hl4 : ((l ++ [40] ++ ta) ++ [124]).length ≤ 300 := by rw [List.length_append]; exact hl4x
  clear hl4x
  clear v0 v1 v2
  obtain ⟨v0, v1, v2⟩ := H4.out.varCell
  have HC3 := Lib.hid (hb _ _ H4.out hl4)
  clear H4
  go_wp2_with fail
  refine HC3.out.mono ?_
  rintro e w6 (⟨hl5x, rfl, H5⟩ | ⟨hl5, rfl, H5⟩)
  rotate_left
  · exact ⟨rfl, .inr ⟨by simp at hl5 ⊢; omega, rfl, Lib.hid (H5.out.weak tail_mem)⟩⟩
  clear HC3
  have hl5 : ((l ++ [40] ++ ta ++ [124]) ++ tb).length ≤ 300 := by rw [List.length_append]; exact hl5x
  clear hl5x
  clear v0 v1 v2
  obtain ⟨v0, v1, v2⟩ := H5.out.varCell
  have HC4 := Lib.hid (sign_any H5.out hl5 41 41 rfl)
  clear H5
  go_wp2_with fail
  refine HC4.out.mono ?_
  rintro e w7 (⟨hl6x, rfl, H6⟩ | ⟨hl6, rfl, H6⟩)
  rotate_left
  · exact ⟨rfl, .inr ⟨by simp at hl6 ⊢; omega, rfl, Lib.hid (H6.out.weak tail_mem)⟩⟩
  clear HC4
  clear v0 v1 v2
  obtain ⟨v0, v1, v2⟩ := H6.out.varCell
  go_wp2
  go_end0
  exact .inl ⟨by simp at hl6x ⊢; omega, rfl, Lib.hid (by have := H6.out.less tail_mem; simpa using this)⟩
set_option maxRecDepth 100000 in
set_option maxHeartbeats 1000000 in
theorem node_k8 {w0 w : World} {g : Nat} {nv : Value} {fs : List Ent} {l : List UInt8} (h : Wr w0 w g nv fs l) (hl : l.length ≤ 300) {A : Option Addr} {f : List Nd} {c : Nat} (hA : NodesAt w0 w0.heap.size A f) (hnv : nv = .slice A f.length c) {i : Nat} {a b : Int}
    (hn : f[i]? = some (8, a, b))
    {ta : List UInt8} (ha : ∀ W' l', Wr w0 W' g nv (eVar w.heap.size (8, a, b) :: fs) l' → l'.length ≤ 300 → Calls Tryz.prog 24 #[.pointer (some ⟨g, 0, none⟩), .int .i64 a] W' (Put w0 g nv (eVar w.heap.size (8, a, b) :: fs) l' ta))
    {tb : List UInt8} (hb : ∀ W' l', Wr w0 W' g nv (eVar w.heap.size (8, a, b) :: fs) l' → l'.length ≤ 300 → Calls Tryz.prog 24 #[.pointer (some ⟨g, 0, none⟩), .int .i64 b] W' (Put w0 g nv (eVar w.heap.size (8, a, b) :: fs) l' tb)) :
    Calls Tryz.prog 24 #[.pointer (some ⟨g, 0, none⟩), .int .i64 (i : Int)] w (Put w0 g nv fs l (40 :: (ta ++ 85 :: (tb ++ [41])))) := by
  subst hnv
  obtain ⟨ad, e, hadb, c0, c1, c2⟩ := (hA.on h.below).at_ hn
  subst e
  have hi := (List.getElem?_eq_some_iff.1 hn).1
  have hcell := h.cell2
  obtain ⟨W1, hW1⟩ : ∃ W1, W1 = w.alloc (.cells #[.int .i64 8, .int .i64 a, .int .i64 b] 108) := ⟨_, rfl⟩
  have HW1 := Lib.hid hW1
  have H1 : Hid (Wr w0 W1 g (.slice (some ad) f.length c) (eVar w.heap.size (8, a, b) :: fs) l) := by rw [hW1]; exact h.var 8 a b
  have HO := fun W => Lib.hid (operands_any 8 W)
  obtain ⟨v0, v1, v2⟩ := H1.out.varCell
  simp only at c0 c1 c2
  clear hW1 h hn hA hadb
  go_enter Tryz.func24, Tryz.ntmps24
  go_wp2_with fail
  refine (HO _).out.mono ?_
  rintro e w2 ⟨rfl, rfl⟩
  rw [← HW1.out, show ops 8 = 2 from by decide]
  clear HO HW1 c0 c1 c2 hcell
  have HC0 := Lib.hid (sign_any H1.out hl 40 40 rfl)
  clear H1
  go_wp2_with fail
  refine HC0.out.mono ?_
  rintro e w3 (⟨hl2x, rfl, H2⟩ | ⟨hl2, rfl, H2⟩)
  rotate_left
  · exact ⟨rfl, .inr ⟨by simp at hl2 ⊢; omega, rfl, Lib.hid (H2.out.weak tail_mem)⟩⟩
  clear HC0
  have hl2 : (l ++ [40]).length ≤ 300 := by rw [List.length_append]; exact hl2x
  clear hl2x
  clear v0 v1 v2
  obtain ⟨v0, v1, v2⟩ := H2.out.varCell
  have HC1 := Lib.hid (ha _ _ H2.out hl2)
  clear H2
  go_wp2_with fail
  refine HC1.out.mono ?_
  rintro e w4 (⟨hl3x, rfl, H3⟩ | ⟨hl3, rfl, H3⟩)
  rotate_left
  · exact ⟨rfl, .inr ⟨by simp at hl3 ⊢; omega, rfl, Lib.hid (H3.out.weak tail_mem)⟩⟩
  clear HC1
  have hl3 : ((l ++ [40]) ++ ta).length ≤ 300 := by rw [List.length_append]; exact hl3x
  clear hl3x
  clear v0 v1 v2
  obtain ⟨v0, v1, v2⟩ := H3.out.varCell
  have HC2 := Lib.hid (sign_any H3.out hl3 85 85 rfl)
  clear H3
  go_wp2_with fail
  refine HC2.out.mono ?_
  rintro e w5 (⟨hl4x, rfl, H4⟩ | ⟨hl4, rfl, H4⟩)
  rotate_left
  · exact ⟨rfl, .inr ⟨by simp at hl4 ⊢; omega, rfl, Lib.hid (H4.out.weak tail_mem)⟩⟩
  clear HC2
  have hl4 : ((l ++ [40] ++ ta) ++ [85]).length ≤ 300 := by rw [List.length_append]; exact hl4x
  clear hl4x
  clear v0 v1 v2
  obtain ⟨v0, v1, v2⟩ := H4.out.varCell
  have HC3 := Lib.hid (hb _ _ H4.out hl4)
  clear H4
  go_wp2_with fail
  refine HC3.out.mono ?_
  rintro e w6 (⟨hl5x, rfl, H5⟩ | ⟨hl5, rfl, H5⟩)
  rotate_left
  · exact ⟨rfl, .inr ⟨by simp at hl5 ⊢; omega, rfl, Lib.hid (H5.out.weak tail_mem)⟩⟩
  clear HC3
  have hl5 : ((l ++ [40] ++ ta ++ [85]) ++ tb).length ≤ 300 := by rw [List.length_append]; exact hl5x
  clear hl5x
  clear v0 v1 v2
  obtain ⟨v0, v1, v2⟩ := H5.out.varCell
  have HC4 := Lib.hid (sign_any H5.out hl5 41 41 rfl)
  clear H5
  go_wp2_with fail
  refine HC4.out.mono ?_
  rintro e w7 (⟨hl6x, rfl, H6⟩ | ⟨hl6, rfl, H6⟩)
  rotate_left
  · exact ⟨rfl, .inr ⟨by simp at hl6 ⊢; omega, rfl, Lib.hid (H6.out.weak tail_mem)⟩⟩
  clear HC4
  clear v0 v1 v2
  obtain ⟨v0, v1, v2⟩ := H6.out.varCell
  go_wp2
  go_end0
  exact .inl ⟨by simp at hl6x ⊢; omega, rfl, Lib.hid (by have := H6.out.less tail_mem; simpa using this)⟩
set_option maxRecDepth 100000 in
set_option maxHeartbeats 1000000 in
theorem node_k9 {w0 w : World} {g : Nat} {nv : Value} {fs : List Ent} {l : List UInt8} (h : Wr w0 w g nv fs l) (hl : l.length ≤ 300) {A : Option Addr} {f : List Nd} {c : Nat} (hA : NodesAt w0 w0.heap.size A f) (hnv : nv = .slice A f.length c) {i : Nat} {a b : Int}
    (hn : f[i]? = some (9, a, b))
    {ta : List UInt8} (ha : ∀ W' l', Wr w0 W' g nv (eVar w.heap.size (9, a, b) :: fs) l' → l'.length ≤ 300 → Calls Tryz.prog 24 #[.pointer (some ⟨g, 0, none⟩), .int .i64 a] W' (Put w0 g nv (eVar w.heap.size (9, a, b) :: fs) l' ta))
    {tb : List UInt8} (hb : ∀ W' l', Wr w0 W' g nv (eVar w.heap.size (9, a, b) :: fs) l' → l'.length ≤ 300 → Calls Tryz.prog 24 #[.pointer (some ⟨g, 0, none⟩), .int .i64 b] W' (Put w0 g nv (eVar w.heap.size (9, a, b) :: fs) l' tb)) :
    Calls Tryz.prog 24 #[.pointer (some ⟨g, 0, none⟩), .int .i64 (i : Int)] w (Put w0 g nv fs l (40 :: (ta ++ 82 :: (tb ++ [41])))) := by
  subst hnv
  obtain ⟨ad, e, hadb, c0, c1, c2⟩ := (hA.on h.below).at_ hn
  subst e
  have hi := (List.getElem?_eq_some_iff.1 hn).1
  have hcell := h.cell2
  obtain ⟨W1, hW1⟩ : ∃ W1, W1 = w.alloc (.cells #[.int .i64 9, .int .i64 a, .int .i64 b] 108) := ⟨_, rfl⟩
  have HW1 := Lib.hid hW1
  have H1 : Hid (Wr w0 W1 g (.slice (some ad) f.length c) (eVar w.heap.size (9, a, b) :: fs) l) := by rw [hW1]; exact h.var 9 a b
  have HO := fun W => Lib.hid (operands_any 9 W)
  obtain ⟨v0, v1, v2⟩ := H1.out.varCell
  simp only at c0 c1 c2
  clear hW1 h hn hA hadb
  go_enter Tryz.func24, Tryz.ntmps24
  go_wp2_with fail
  refine (HO _).out.mono ?_
  rintro e w2 ⟨rfl, rfl⟩
  rw [← HW1.out, show ops 9 = 2 from by decide]
  clear HO HW1 c0 c1 c2 hcell
  have HC0 := Lib.hid (sign_any H1.out hl 40 40 rfl)
  clear H1
  go_wp2_with fail
  refine HC0.out.mono ?_
  rintro e w3 (⟨hl2x, rfl, H2⟩ | ⟨hl2, rfl, H2⟩)
  rotate_left
  · exact ⟨rfl, .inr ⟨by simp at hl2 ⊢; omega, rfl, Lib.hid (H2.out.weak tail_mem)⟩⟩
  clear HC0
  have hl2 : (l ++ [40]).length ≤ 300 := by rw [List.length_append]; exact hl2x
  clear hl2x
  clear v0 v1 v2
  obtain ⟨v0, v1, v2⟩ := H2.out.varCell
  have HC1 := Lib.hid (ha _ _ H2.out hl2)
  clear H2
  go_wp2_with fail
  refine HC1.out.mono ?_
  rintro e w4 (⟨hl3x, rfl, H3⟩ | ⟨hl3, rfl, H3⟩)
  rotate_left
  · exact ⟨rfl, .inr ⟨by simp at hl3 ⊢; omega, rfl, Lib.hid (H3.out.weak tail_mem)⟩⟩
  clear HC1
  have hl3 : ((l ++ [40]) ++ ta).length ≤ 300 := by rw [List.length_append]; exact hl3x
  clear hl3x
  clear v0 v1 v2
  obtain ⟨v0, v1, v2⟩ := H3.out.varCell
  have HC2 := Lib.hid (sign_any H3.out hl3 82 82 rfl)
  clear H3
  go_wp2_with fail
  refine HC2.out.mono ?_
  rintro e w5 (⟨hl4x, rfl, H4⟩ | ⟨hl4, rfl, H4⟩)
  rotate_left
  · exact ⟨rfl, .inr ⟨by simp at hl4 ⊢; omega, rfl, Lib.hid (H4.out.weak tail_mem)⟩⟩
  clear HC2
  have hl4 : ((l ++ [40] ++ ta) ++ [82]).length ≤ 300 := by rw [List.length_append]; exact hl4x
  clear hl4x
  clear v0 v1 v2
  obtain ⟨v0, v1, v2⟩ := H4.out.varCell
  have HC3 := Lib.hid (hb _ _ H4.out hl4)
  clear H4
  go_wp2_with fail
  refine HC3.out.mono ?_
  rintro e w6 (⟨hl5x, rfl, H5⟩ | ⟨hl5, rfl, H5⟩)
  rotate_left
  · exact ⟨rfl, .inr ⟨by simp at hl5 ⊢; omega, rfl, Lib.hid (H5.out.weak tail_mem)⟩⟩
  clear HC3
  have hl5 : ((l ++ [40] ++ ta ++ [82]) ++ tb).length ≤ 300 := by rw [List.length_append]; exact hl5x
  clear hl5x
  clear v0 v1 v2
  obtain ⟨v0, v1, v2⟩ := H5.out.varCell
  have HC4 := Lib.hid (sign_any H5.out hl5 41 41 rfl)
  clear H5
  go_wp2_with fail
  refine HC4.out.mono ?_
  rintro e w7 (⟨hl6x, rfl, H6⟩ | ⟨hl6, rfl, H6⟩)
  rotate_left
  · exact ⟨rfl, .inr ⟨by simp at hl6 ⊢; omega, rfl, Lib.hid (H6.out.weak tail_mem)⟩⟩
  clear HC4
  clear v0 v1 v2
  obtain ⟨v0, v1, v2⟩ := H6.out.varCell
  go_wp2
  go_end0
  exact .inl ⟨by simp at hl6x ⊢; omega, rfl, Lib.hid (by have := H6.out.less tail_mem; simpa using this)⟩
/-- A formula written, from node i on. -/
theorem node_any {w0 : World} {g : Nat} {nv : Value} {A : Option Addr} {f : List Nd} {c : Nat} {L : Int} (hg : ∀ j n, f[j]? = some n → NdGood L j n) (hA : NodesAt w0 w0.heap.size A f) (hnv : nv = .slice A f.length c) :
    ∀ (m i : Nat), i < m → i < f.length → ∀ (fs : List Ent) (w : World) (l : List UInt8), Wr w0 w g nv fs l → l.length ≤ 300 →
      Calls Tryz.prog 24 #[.pointer (some ⟨g, 0, none⟩), .int .i64 (i : Int)] w (Put w0 g nv fs l (txt f i)) := by
  intro m
  induction m with
  | zero => intro i h; omega
  | succ m ih =>
    intro i hi hlen fs w l h hl
    obtain ⟨n, hn⟩ : ∃ n, f[i]? = some n := ⟨_, List.getElem?_eq_getElem hlen⟩
    have hgn := hg i n hn
    rw [txt_eq hg hn]
    obtain ⟨k, a, b⟩ := n
    have sub : ∀ x : Int, 0 ≤ x → x < (i : Int) → ∀ (fs : List Ent) (w : World) (l : List UInt8), Wr w0 w g nv fs l → l.length ≤ 300 →
        Calls Tryz.prog 24 #[.pointer (some ⟨g, 0, none⟩), .int .i64 x] w (Put w0 g nv fs l ((texts f).getD x.toNat [])) := by
      intro x h0 h1
      obtain ⟨j, rfl⟩ := Int.eq_ofNat_of_zero_le h0
      exact ih j (by omega) (by omega)
    have hk0 := hgn.k0
    have hk9 := hgn.k9
    have ha := hgn.a1
    have hb := hgn.b2
    have hs := hgn.set
    simp only at hk0 hk9 ha hb hs
    have hk : k = 0 ∨ k = 1 ∨ k = 2 ∨ k = 3 ∨ k = 6 ∨ k = 7 ∨ k = 4 ∨ k = 5 ∨ k = 8 ∨ k = 9 := by omega
    clear hgn hk0 hk9
    rcases hk with rfl | rfl | rfl | rfl | rfl | rfl | rfl | rfl | rfl | rfl
    · exact node_k0 h hl hA hnv hn
    · exact node_k1 h hl hA hnv hn
    · have hs := hs rfl
      exact node_k2 h hl hA hnv hn (v := a.toNat) (by omega)
    · have ha := ha (by decide)
      exact node_k3 h hl hA hnv hn (ha := fun W' l' h' hl' => sub a ha.1 ha.2 _ W' l' h' hl')
    · have ha := ha (by decide)
      exact node_k6 h hl hA hnv hn (ha := fun W' l' h' hl' => sub a ha.1 ha.2 _ W' l' h' hl')
    · have ha := ha (by decide)
      exact node_k7 h hl hA hnv hn (ha := fun W' l' h' hl' => sub a ha.1 ha.2 _ W' l' h' hl')
    · have ha := ha (by decide)
      have hb := hb (by decide)
      exact node_k4 h hl hA hnv hn (ha := fun W' l' h' hl' => sub a ha.1 ha.2 _ W' l' h' hl') (hb := fun W' l' h' hl' => sub b hb.1 hb.2 _ W' l' h' hl')
    · have ha := ha (by decide)
      have hb := hb (by decide)
      exact node_k5 h hl hA hnv hn (ha := fun W' l' h' hl' => sub a ha.1 ha.2 _ W' l' h' hl') (hb := fun W' l' h' hl' => sub b hb.1 hb.2 _ W' l' h' hl')
    · have ha := ha (by decide)
      have hb := hb (by decide)
      exact node_k8 h hl hA hnv hn (ha := fun W' l' h' hl' => sub a ha.1 ha.2 _ W' l' h' hl') (hb := fun W' l' h' hl' => sub b hb.1 hb.2 _ W' l' h' hl')
    · have ha := ha (by decide)
      have hb := hb (by decide)
      exact node_k9 h hl hA hnv hn (ha := fun W' l' h' hl' => sub a ha.1 ha.2 _ W' l' h' hl') (hb := fun W' l' h' hl' => sub b hb.1 hb.2 _ W' l' h' hl')
end Go.Proofs.YtloihkoamccacaaGreatDoor.Fm
