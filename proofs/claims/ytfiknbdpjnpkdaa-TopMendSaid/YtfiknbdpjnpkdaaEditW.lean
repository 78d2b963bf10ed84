/- An editor in memory. The walks of package edit. -/
import Derived.Test.YtfiknbdpjnpkdaaEditM
import Derived.Test.YtfiknbdpjnpkdaaGateW
namespace Go.Proofs.Ytfiknbdpjnpkdaa.Ed
open Go.RowKit Go.IntWalk Go.Proofs.Ytfiknbdpjnpkdaa.Wd Go.Proofs.Ytfiknbdpjnpkdaa.Wo Go.Proofs.Ytfiknbdpjnpkdaa.Df Go.Proofs.Ytfiknbdpjnpkdaa.Rc Go.Proofs.Ytfiknbdpjnpkdaa.Sm Go.Proofs.Ytfiknbdpjnpkdaa.Sa Go.Proofs.Ytfiknbdpjnpkdaa.Ga
set_option maxRecDepth 100000 in
/-- 'z[i:]' of ints. -/
theorem ints_from {w : World} {B : Nat} {A : Option Addr} {z : List Int} (hA : IntsAt w B A z) {c : Nat} (hc : z.length ≤ c) {i : Nat} (hi : i ≤ z.length) :
    ∃ A' : Option Addr, (∀ W : World, (Instr.slice 26 (.slice A z.length c) (some (.int .i64 (i : Int))) none none).run Try.prog W = .ok (.slice A' (z.drop i).length (c - i)) W) ∧ IntsAt w B A' (z.drop i) := by
  refine ⟨if c = i then A else A.map (·.add i), fun W => ?_, ?_⟩
  · have h := run_slice_l (P := Try.prog) W 26 A z.length c (by exact Try.underlying26) .i64 (i : Int) (by omega) (by omega)
    obtain ⟨i0, hi0, hz0, hz1, hz2⟩ := info_parts infoI
    rw [h]
    have he : Try.prog.elem 26 = 3 := by kernel_rfl
    rw [he]
    simp [sizeOf, typeInfo, hi0, hz1, sliced, Result.andThen]
  · refine ⟨fun k u hk => ?_, fun x hx => hA.2 x (List.mem_of_mem_drop hx)⟩
    rw [List.map_drop, List.getElem?_drop] at hk
    have hlt : i + k < z.length := by
      have := (List.getElem?_eq_some_iff.1 hk).1
      simpa using this
    obtain ⟨ad, e, h1, h2⟩ := hA.1 _ _ hk
    subst e
    rw [if_neg (by omega)]
    refine ⟨ad.add i, rfl, by rw [block_add]; exact h1, ?_⟩
    rw [Addr.add_add]
    exact h2
/-- 'z[:k]' of ints. -/
theorem ints_upto {w : World} {B : Nat} {A : Option Addr} {z : List Int} (h : IntsAt w B A z) (k : Nat) : IntsAt w B A (z.take k) :=
  ⟨fun j u hj => h.1 j u (by
    rw [List.map_take] at hj
    rw [List.getElem?_take] at hj
    split at hj
    · exact hj
    · simp at hj), fun x hx => h.2 x (List.mem_of_mem_take hx)⟩
set_option maxRecDepth 100000 in
/-- slices.Clone of any slice of ints. -/
theorem clone_ints (A : Option Addr) (c : Nat) (l : List Int) (w : World) (hA : IntsAt w w.heap.size A l) (hl : l.length ≤ 17592186044416) :
    Calls Try.prog 29 #[.slice A l.length c] w fun e w' => Hid (∃ v', e = .returned v' ∧ Own w w' [eInts v' l] []) := by
  rcases A with _ | ad
  · have hl0 := hA.none_nil
    subst hl0
    clear hA hl
    have hnil : ∀ W, (binOp .eql 26 (.slice none 0 c) (.slice none 0 0)).run Try.prog W = .ok (.bool true) W := fun W => Lib.run_eql_slice_nil W _ _ _ _ _ _ _ Try.underlying26
    have HO : Hid (Own w w [eInts (.slice none 0 0) []] []) := (own_start w).nil 3 1
    show Calls Try.prog _ #[.slice none 0 c] w _
    go_enter Try.func29, Try.ntmps29
    go_wp2
    go_ret
    exact ⟨_, rfl, HO.out⟩
  · have HA := Lib.hid hA
    clear hA
    have HN := Lib.hid (Own.to_nums (l := []) (v := .slice (some ⟨w.heap.size, 0, none⟩) 0 0) (Own.lit (own_start w) 3 1 0 #[] rfl (by simp [maxLen])))
    have hnil : ∀ W, (binOp .eql 26 (.slice (some ad) l.length c) (.slice none 0 0)).run Try.prog W = .ok (.bool false) W := fun W => Lib.run_eql_slice_nil W _ _ _ _ _ _ _ Try.underlying26
    go_enter Try.func29, Try.ntmps29
    go_wp2_with (at_builtin; refine app_ints (acc := []) rfl _ _ rfl rfl HN.out rfl (HA.out.on (below_alloc _ _)) (by simpa using hl) ?_)
    intro v' w2 hn
    have HO2 : Hid (Own w w2 [eInts v' l] []) := Own.of_nums (by simpa using hn)
    clear hn HN
    go_wp2
    go_ret
    exact ⟨_, rfl, HO2.out⟩
/-! ### an editor's struct in a block of its own -/
def eEdit (g : Nat) (l : List Value) : Ent := ⟨62, 6, .slice (some ⟨g, 0, none⟩) 1 1, 1, l⟩
theorem own_edit {w0 w : World} {es fs : List Ent} (h : Own w0 w es fs) (a b c d e f : Value) : Own w0 (w.alloc (.cells #[a, b, c, d, e, f] 62)) (eEdit w.heap.size [a, b, c, d, e, f] :: es) fs :=
  h.lit _ 6 1 #[a, b, c, d, e, f] rfl (by simp [maxLen])
theorem own_ecell {w0 w : World} {es fs : List Ent} (h : Own w0 w es fs) {g : Nat} {l : List Value} (he : eEdit g l ∈ es ++ fs) {j : Nat} {u : Value} (hj : l[j]? = some u) : w.cell? ⟨g, j, none⟩ = some u ∧ w.frozen? ⟨g, j, none⟩ = false := h.cell he hj
theorem own_eset {w0 w : World} {es fs : List Ent} {g : Nat} {l : List Value} (h : Own w0 w (eEdit g l :: es) fs) (j : Nat) (u : Value) : Own w0 (w.setCell ⟨g, j, none⟩ u) (eEdit g (l.set j u) :: es) fs := h.set j u
/-- An editor that a call has made and still changes: its struct at block g, what it took at pv; es and fs are owned beside it. -/
structure EditV (w0 w : World) (g : Nat) (d : Aut) (E : Et) (nv fv pv : Value) (rs : List (Value × List Int)) (es fs : List Ent) : Prop where
  next : d.next = rs.map (·.2)
  small : ∀ p ∈ rs, ∀ x ∈ p.2, Small x
  sL : Small d.L
  ss : Small d.s
  own : Own w0 w (eEdit g [.int .i64 d.L, .int .i64 d.s, nv, fv, pv, .int .i64 (E.out.length : Int)] :: eInts pv (E.out ++ E.held) :: es) (eRows nv (rs.map (·.1)) :: eBools fv d.fin :: (eEach rs ++ fs))
def EditW (w0 w : World) (g : Nat) (d : Aut) (E : Et) (es fs : List Ent) : Prop := ∃ nv fv pv rs, EditV w0 w g d E nv fv pv rs es fs
section
variable {w0 w w' : World} {g : Nat} {d : Aut} {E E2 : Et} {nv fv pv pv' : Value} {rs : List (Value × List Int)} {es fs : List Ent} {e e' : Ent}
theorem EditV.on (h : EditV w0 w g d E nv fv pv rs es fs) (hb : Below w.heap.size w w') : EditV w0 w' g d E nv fv pv rs es fs := ⟨h.next, h.small, h.sL, h.ss, h.own.on hb⟩
theorem EditW.on (h : EditW w0 w g d E es fs) (hb : Below w.heap.size w w') : EditW w0 w' g d E es fs := by
  obtain ⟨nv, fv, pv, rs, h⟩ := h
  exact ⟨nv, fv, pv, rs, h.on hb⟩
theorem EditW.base {w1 : World} (h : EditW w0 w g d E es fs) (hb : Below w1.heap.size w1 w0) : EditW w1 w g d E es fs := by
  obtain ⟨nv, fv, pv, rs, h⟩ := h
  exact ⟨nv, fv, pv, rs, h.next, h.small, h.sL, h.ss, h.own.base hb⟩
theorem EditW.below (h : EditW w0 w g d E es fs) : Below w0.heap.size w0 w := by
  obtain ⟨nv, fv, pv, rs, h⟩ := h
  exact h.own.below
theorem EditV.cell (h : EditV w0 w g d E nv fv pv rs es fs) {j : Nat} {u : Value} (hj : [Value.int .i64 d.L, .int .i64 d.s, nv, fv, pv, .int .i64 (E.out.length : Int)][j]? = some u) : w.cell? ⟨g, j, none⟩ = some u ∧ w.frozen? ⟨g, j, none⟩ = false := own_ecell h.own (by simp) hj
theorem EditV.dfa (h : EditV w0 w g d E nv fv pv rs es fs) : DfaAt w w.heap.size (.agg #[.int .i64 d.L, .int .i64 d.s, nv, fv]) d := by
  have h7 := own_dfa (nv := nv) (fv := fv) (rs := rs) (bs := d.fin) (L := d.L) (s := d.s) h.own (by simp) (fun e he => by simp [he]) (by simp) h.small h.sL h.ss
  rw [← h.next] at h7
  exact h7
theorem EditV.forms (h : EditV w0 w g d E nv fv pv rs es fs) : ∃ A c F cf P cp, nv = .slice A d.next.length c ∧ fv = .slice F d.fin.length cf ∧ pv = .slice P (E.out ++ E.held).length cp := by
  obtain ⟨A, c, h1, _⟩ := h.own.form (e := eRows nv (rs.map (·.1))) (by simp)
  obtain ⟨F, cf, h2, _⟩ := h.own.form (e := eBools fv d.fin) (by simp)
  obtain ⟨P, cp, h3, _⟩ := h.own.form (e := eInts pv (E.out ++ E.held)) (by simp)
  simp only [eRows, eBools, eInts, List.length_map] at h1 h2 h3
  exact ⟨A, c, F, cf, P, cp, by rw [h1, h.next, List.length_map], h2, h3⟩
theorem EditV.all {P : Option Addr} {n cp : Nat} (h : EditV w0 w g d E nv fv (.slice P n cp) rs es fs) (hs : ∀ x ∈ E.out ++ E.held, Small x) : n = (E.out ++ E.held).length ∧ (E.out ++ E.held).length ≤ cp ∧ IntsAt w w.heap.size P (E.out ++ E.held) := by
  obtain ⟨A, cap, hv, h1, _, h3⟩ := own_ints_at h.own (v := .slice P n cp) (l := E.out ++ E.held) (by simp) hs
  obtain ⟨rfl, rfl, rfl⟩ : P = A ∧ n = (E.out ++ E.held).length ∧ cp = cap := by simpa using hv
  exact ⟨rfl, h1, h3⟩
/-- The append has been done, and nothing is made of it. -/
theorem EditV.back (h : EditV w0 w g d E nv fv pv rs es fs) (h2 : Own w0 w' (eInts pv (E.out ++ E.held) :: eEdit g [.int .i64 d.L, .int .i64 d.s, nv, fv, pv, .int .i64 (E.out.length : Int)] :: es) (eRows nv (rs.map (·.1)) :: eBools fv d.fin :: (eEach rs ++ fs))) : EditV w0 w' g d E nv fv pv rs es fs := ⟨h.next, h.small, h.sL, h.ss, h2.two⟩
/-- One letter more is held. -/
theorem EditV.more {l : List Int} (h : EditV w0 w g d E nv fv pv rs es fs) (ho : E2.out = E.out) (hl : E2.out ++ E2.held = l) (h2 : Own w0 w' (eInts pv' l :: eEdit g [.int .i64 d.L, .int .i64 d.s, nv, fv, pv, .int .i64 (E.out.length : Int)] :: es) (eRows nv (rs.map (·.1)) :: eBools fv d.fin :: (eEach rs ++ fs))) :
    EditV w0 (w'.setCell ⟨g, 4, none⟩ pv') g d E2 nv fv pv' rs es fs := ⟨h.next, h.small, h.sL, h.ss, by rw [hl, ho]; exact own_eset h2.two 4 pv'⟩
/-- All goes out. -/
theorem EditV.goes {n : Int} (h : EditV w0 w g d E nv fv pv rs es fs) (hl : E2.out ++ E2.held = E.out ++ E.held) (hn : n = (E2.out.length : Int)) :
    EditV w0 (w.setCell ⟨g, 5, none⟩ (.int .i64 n)) g d E2 nv fv pv rs es fs := ⟨h.next, h.small, h.sL, h.ss, by rw [hl, ← hn]; exact own_eset h.own 5 (.int .i64 n)⟩
theorem EditV.join {es1 fs1 : List Ent} (h : EditV w0 w g d E nv fv pv rs es fs) (h1 : Own w w' es1 fs1) : EditV w0 w' g d E nv fv pv rs (es1 ++ es) (fs1 ++ fs) := by
  refine ⟨h.next, h.small, h.sL, h.ss, ((h.own.join h1).weak fun e he => ?_).perm ?_⟩
  · simp only [List.mem_cons, List.mem_append] at he ⊢
    rcases he with rfl | rfl | he | he | he <;> simp [*]
  · refine List.perm_append_comm.trans ?_
    exact (List.perm_append_comm.cons _).cons _
theorem EditV.front (h : EditV w0 w g d E nv fv pv rs (e :: es) fs) : Own w0 w (e :: eEdit g [.int .i64 d.L, .int .i64 d.s, nv, fv, pv, .int .i64 (E.out.length : Int)] :: eInts pv (E.out ++ E.held) :: es) (eRows nv (rs.map (·.1)) :: eBools fv d.fin :: (eEach rs ++ fs)) := h.own.three
theorem EditV.swap (h : EditV w0 w g d E nv fv pv rs es fs) (h2 : Own w0 w' (e' :: eEdit g [.int .i64 d.L, .int .i64 d.s, nv, fv, pv, .int .i64 (E.out.length : Int)] :: eInts pv (E.out ++ E.held) :: es) (eRows nv (rs.map (·.1)) :: eBools fv d.fin :: (eEach rs ++ fs))) : EditV w0 w' g d E nv fv pv rs (e' :: es) fs :=
  ⟨h.next, h.small, h.sL, h.ss, h2.three'⟩
theorem EditV.tail (h : EditV w0 w g d E nv fv pv rs (e :: es) fs) : EditV w0 w g d E nv fv pv rs es fs := ⟨h.next, h.small, h.sL, h.ss, h.own.three.tail⟩
theorem EditW.tail (h : EditW w0 w g d E (e :: es) fs) : EditW w0 w g d E es fs := by
  obtain ⟨nv, fv, pv, rs, h⟩ := h
  exact ⟨nv, fv, pv, rs, h.tail⟩
theorem EditW.with_nil (h : EditW w0 w g d E es fs) : EditW w0 w g d E (eInts (.slice none 0 0) [] :: es) fs := by
  obtain ⟨nv, fv, pv, rs, h⟩ := h
  exact ⟨nv, fv, pv, rs, h.swap (h.own.nil 3 1)⟩
theorem EditW.ints {x : Value} {l : List Int} (h : EditW w0 w g d E es fs) (hm : eInts x l ∈ es) (hs : ∀ y ∈ l, Small y) : ∃ A cap, x = .slice A l.length cap ∧ l.length ≤ cap ∧ IntsAt w w.heap.size A l := by
  obtain ⟨nv, fv, pv, rs, h⟩ := h
  obtain ⟨A, cap, e, h1, _, h2⟩ := own_ints_at h.own (v := x) (l := l) (List.mem_append_left _ (List.mem_cons_of_mem _ (List.mem_cons_of_mem _ hm))) hs
  exact ⟨A, cap, e, h1, h2⟩
theorem EditW.join {es1 fs1 : List Ent} (h : EditW w0 w g d E es fs) (h1 : Own w w' es1 fs1) : EditW w0 w' g d E (es1 ++ es) (fs1 ++ fs) := by
  obtain ⟨nv, fv, pv, rs, h⟩ := h
  exact ⟨nv, fv, pv, rs, h.join h1⟩
end
/-- The editor of an automaton that a call has made. -/
theorem edit_new {w0 w1 : World} {d : Aut} {L s : Int} {nv fv : Value} (h : DfaNew w0 w1 (.agg #[.int .i64 L, .int .i64 s, nv, fv]) d) :
    EditW w0 (w1.alloc (.cells #[.int .i64 L, .int .i64 s, nv, fv, .slice none 0 0, .int .i64 0] 62)) w1.heap.size d (edit0 d) [] [] := by
  obtain ⟨nv', fv', rs, e, h1, h2, h3, h4, h5⟩ := h
  obtain ⟨rfl, rfl, rfl, rfl⟩ : L = d.L ∧ s = d.s ∧ nv = nv' ∧ fv = fv' := by simpa using e
  refine ⟨nv, fv, .slice none 0 0, rs, h1, h3, h4, h5, ?_⟩
  exact own_edit ((Own.allDone h2).nil 3 1) (.int .i64 d.L) (.int .i64 d.s) nv fv (.slice none 0 0) (.int .i64 0)
theorem dnew_move {w w' w2 : World} {x : Value} {d : Aut} (h : DfaNew w w' x d) (hb : Below w'.heap.size w' w2) : DfaNew w w2 x d := by
  obtain ⟨nv, fv, rs, h1, h2, h3, h4⟩ := h
  exact ⟨nv, fv, rs, h1, h2, h3.on hb, h4⟩
/-! ### Held, Out -/
theorem own_drew {w w' : World} {es fs : List Ent} (h : Own w.drew w' es fs) : Own w w' es fs := h.base (Below.refl _ _).drew
set_option maxRecDepth 100000 in
theorem held_any (w0 w : World) (g : Nat) (d : Aut) (E : Et) (es fs : List Ent) (hE : EditW w0 w g d E es fs) (hs : ∀ x ∈ E.out ++ E.held, Small x) (h80 : (E.out ++ E.held).length ≤ 80) :
    Calls Try.prog 15 #[.pointer (some ⟨g, 0, none⟩)] w fun e w' => Hid (∃ v', e = .returned v' ∧ Own w w' [eInts v' E.held] []) := by
  obtain ⟨nv, fv, pv, rs, hV⟩ := hE
  obtain ⟨c4, _⟩ := hV.cell (j := 4) rfl
  obtain ⟨c5, _⟩ := hV.cell (j := 5) rfl
  obtain ⟨A, c, F, cf, P, cp, rfl, rfl, rfl⟩ := hV.forms
  obtain ⟨_, hcp, hA⟩ := hV.all hs
  obtain ⟨A', hsl, hA'⟩ := ints_from hA hcp (i := E.out.length) (by rw [List.length_append]; omega)
  rw [List.drop_left] at hsl hA'
  have HC := Lib.hid (clone_ints A' (cp - E.out.length) E.held w.drew (hA'.on (Below.refl _ _).drew) (by rw [List.length_append] at h80; omega))
  clear hV hA hA' hs h80 hcp
  generalize E.held.length = nh at *
  generalize E.out.length = no at *
  generalize hall : E.out ++ E.held = l at *
  clear hall
  generalize l.length = n at *
  go_enter Try.func15, Try.ntmps15
  go_wp2_with fail
  go_region_with ((go_at_call 29; refine HC.out.mono ?_; rintro e w2 he; obtain ⟨v', rfl, ho⟩ := he.out))
  all_goals
    have HO := Lib.hid (own_drew ho)
    clear he ho HC
    go_wp2
    go_ret
    exact ⟨_, rfl, HO.out⟩
set_option maxRecDepth 100000 in
theorem eout_any (w0 w : World) (g : Nat) (d : Aut) (E : Et) (es fs : List Ent) (hE : EditW w0 w g d E es fs) (hs : ∀ x ∈ E.out ++ E.held, Small x) (h80 : (E.out ++ E.held).length ≤ 80) :
    Calls Try.prog 14 #[.pointer (some ⟨g, 0, none⟩)] w fun e w' => Hid (∃ v', e = .returned v' ∧ Own w w' [eInts v' E.out] []) := by
  obtain ⟨nv, fv, pv, rs, hV⟩ := hE
  obtain ⟨c4, _⟩ := hV.cell (j := 4) rfl
  obtain ⟨c5, _⟩ := hV.cell (j := 5) rfl
  obtain ⟨A, c, F, cf, P, cp, rfl, rfl, rfl⟩ := hV.forms
  obtain ⟨_, hcp, hA⟩ := hV.all hs
  have hA' := ints_upto hA E.out.length
  rw [List.take_left] at hA'
  have HC := Lib.hid (clone_ints P cp E.out w.drew (hA'.on (Below.refl _ _).drew) (by rw [List.length_append] at h80; omega))
  have hno : E.out.length ≤ cp := by rw [List.length_append] at hcp; omega
  clear hV hA hA' hs hcp h80
  generalize hall : E.out ++ E.held = l at *
  clear hall
  generalize l.length = n at *
  generalize E.out.length = no at *
  have hn2 : (no : Int) ≤ (cp : Int) := by omega
  go_enter Try.func14, Try.ntmps14
  go_wp2_with fail
  go_region_with ((go_at_call 29; refine HC.out.mono ?_; rintro e w2 he; obtain ⟨v', rfl, ho⟩ := he.out))
  all_goals
    have HO := Lib.hid (own_drew ho)
    clear he ho HC
    go_wp2
    go_ret
    exact ⟨_, rfl, HO.out⟩
/-! ### Offer -/
theorem eok_small {d : Aut} (hd : Df.Good d) {E : Et} {w : List Int} (hk : Eok d E w) : (∀ x ∈ E.out ++ E.held, Small x) ∧ (E.out ++ E.held).length ≤ 80 := by
  rw [hk.all]
  exact ⟨letter_small hd hk.word, hk.len⟩
/-- What is told of one letter more. -/
theorem eacc_more {d : Aut} (hd : Df.Good d) {E : Et} {w : List Int} (hk : Eok d E w) {a : Int} (ha : isL d a = true) : accErr d (w ++ [a]) = (if 80 ≤ w.length then 4 else 0) ∧ (w.length < 80 → accOut d (w ++ [a]) = finA d (Df.step d E.s a.toNat)) := by
  obtain ⟨h0, h1⟩ := isL_iff.1 ha
  have hz : dchk d = 0 := dchk_iff.2 hd
  have hL1 := hd.l1
  have hL6 := hd.l6
  have hw := word_one hk.word h0 h1
  by_cases h : 80 ≤ w.length
  · rw [if_pos h]
    refine ⟨?_, fun h2 => by omega⟩
    unfold accErr
    rw [if_neg (by omega), chk_four (by omega) (by rw [List.length_append]; simp; omega)]
  · rw [if_neg h]
    have he : accErr d (w ++ [a]) = 0 := by
      unfold accErr
      rw [if_neg (by omega)]
      exact chk_iff.2 ⟨by omega, by rw [List.length_append]; simp; omega, hw⟩
    refine ⟨he, fun _ => ?_⟩
    unfold accOut
    rw [if_pos he]
    unfold accA
    rw [step_last, ← hk.st]
/-- What Offer gives. -/
def OffOut (w0 : World) (g : Nat) (d : Aut) (R : Nat × List Int × Et) (es fs : List Ent) (e : Ending) (w' : World) : Prop :=
  ∃ A c, e = .returned (.tuple #[.slice A R.2.1.length c, errV R.1]) ∧ IntsAt w' w'.heap.size A R.2.1 ∧ EditW w0 w' g d R.2.2 es fs
set_option maxRecDepth 100000 in
set_option maxHeartbeats 2000000 in
theorem eoffer_any (w0 w : World) (g : Nat) (d : Aut) (E : Et) (wd : List Int) (es fs : List Ent) (a : Int) (hE : EditW w0 w g d E es fs) (hd : Df.Good d) (hk : Eok d E wd) (ha : Small a) :
    Calls Try.prog 13 #[.pointer (some ⟨g, 0, none⟩), .int .i64 a] w fun e w' => Hid (OffOut w0 g d (eoffer d E a) es fs e w') := by
  obtain ⟨nv, fv, pv, rs, hV⟩ := hE
  obtain ⟨A, c, F, cf, P, cp, rfl, rfl, rfl⟩ := hV.forms
  obtain ⟨c0, _⟩ := hV.cell (j := 0) rfl
  have HC := Lib.hid (check_any d.L (some ⟨w.heap.size, 0, none⟩) 1 [a] (w.alloc (.cells #[.int .i64 a] 3)) hV.sL (one_at w a ha) (by simp))
  rw [chk_letter hd] at HC
  rcases hl : isL d a with _ | _
  · have HO : Hid (eoffer d E a = (1, [], E)) := eoffer_bad hl
    rw [hl] at HC
    have HW : Hid (EditW w0 (w.alloc (.cells #[.int .i64 a] 3)) g d E es fs) := ⟨_, _, _, rs, hV.on (below_alloc _ _)⟩
    clear hl hV
    generalize d.L = L at *
    go_enter Try.func13, Try.ntmps13
    go_wp2_with fail
    refine HC.out.mono ?_
    rintro e w2 ⟨he, rfl⟩
    obtain rfl : e = .returned (errI 1) := he.out
    go_wp2
    go_ret2
    exact ⟨none, 0, by rw [HO.out]; rfl, by rw [HO.out]; exact IntsAt.nil _ _ _, by rw [HO.out]; exact HW.out⟩
  · rw [hl] at HC
    obtain ⟨hsml, hn80⟩ := eok_small hd hk
    have hall := hk.all
    obtain ⟨_, hcp, _⟩ := hV.all hsml
    rw [hall] at hn80 hcp hV
    obtain ⟨hae, hao⟩ := eacc_more hd hk hl
    have hk2 := eok_offer hk a
    have hN : (wd ++ [a]).length = wd.length + 1 := by simp
    have hw2 := word_one hk.word (isL_iff.1 hl).1 (isL_iff.1 hl).2
    have hsm := letter_small hd hw2
    have HACC : Hid (∀ (v : Value) (Z : Option Addr) (cz : Nat) (W : World), DfaAt W W.heap.size v d → IntsAt W W.heap.size Z (wd ++ [a]) → Calls Try.prog 8 #[v, .slice Z (wd.length + 1) cz] W fun e w' => Hid (e = .returned (.tuple #[.bool (accOut d (wd ++ [a])), errV (accErr d (wd ++ [a]))])) ∧ Below W.heap.size W w') := fun v Z cz W h1 h2 => by
      have := acc_any v d Z cz (wd ++ [a]) W h1 h2 (by rw [hN]; omega)
      rwa [hN] at this
    have HV := Lib.hid (hV.on (below_alloc w (.cells #[.int .i64 a] 3)))

    have HOwn := HV.out.own.two
    rw [hall] at HOwn
    replace HOwn := Lib.hid HOwn
    have HAll := Lib.hid hall
    have HP : Hid (∀ gb w2 w3, Own w0 w2 (eInts (.slice (some ⟨gb, 0, none⟩) (wd.length + 1) w3) (wd ++ [a]) :: eEdit g [.int .i64 d.L, .int .i64 d.s, .slice A d.next.length c, .slice F d.fin.length cf, .slice P wd.length cp, .int .i64 (E.out.length : Int)] :: es) (eRows (.slice A d.next.length c) (rs.map (·.1)) :: eBools (.slice F d.fin.length cf) d.fin :: (eEach rs ++ fs)) → IntsAt w2 w2.heap.size (some ⟨gb, 0, none⟩) (wd ++ [a])) := fun gb w2 w3 ho => by
      obtain ⟨A', c', e, _, _, h⟩ := own_ints_at ho List.mem_cons_self hsm
      obtain ⟨rfl, _⟩ : some ⟨gb, 0, none⟩ = A' ∧ w3 = c' := by simpa using e
      exact h
    have HOff : Hid (if 80 ≤ wd.length then eoffer d E a = (4, [], E) else if finA d (Df.step d E.s a.toNat) = true then eoffer d E a = (0, E.held ++ [a], ⟨Df.step d E.s a.toNat, E.out ++ (E.held ++ [a]), []⟩) else eoffer d E a = (0, [], ⟨Df.step d E.s a.toNat, E.out, E.held ++ [a]⟩)) := by
      unfold Hid
      have hle : E.out.length + E.held.length = wd.length := by rw [← hall, List.length_append]
      split
      · exact eoffer_full hl (by omega)
      · split
        · exact eoffer_out hl (by omega) (by assumption)
        · exact eoffer_hold hl (by omega) (by simpa using (by assumption : ¬ finA d (Df.step d E.s a.toNat) = true))
    have HAE := Lib.hid (And.intro hae hao)
    have HSM := Lib.hid hsm
    have HG : Hid (∀ (W : World), EditW w0 W g d ⟨Df.step d E.s a.toNat, E.out, E.held ++ [a]⟩ es fs → wd.length < 80 → Calls Try.prog 15 #[.pointer (some ⟨g, 0, none⟩)] W fun e w' => Hid (∃ v', e = .returned v' ∧ Own W w' [eInts v' (E.held ++ [a])] [])) := fun W h h8 => by
      have h9 : (E.out ++ (E.held ++ [a])).length ≤ 80 := by rw [← List.append_assoc, hall, hN]; omega
      exact held_any w0 W g d _ es fs h (by show ∀ x ∈ E.out ++ (E.held ++ [a]), Small x; rw [← List.append_assoc, hall]; exact hsm) h9
    have HHS : Hid (∀ x ∈ E.held ++ [a], Small x) := fun x hx => hsm x (by rw [← hall, List.append_assoc]; exact List.mem_append_right _ hx)
    clear hl hV hsm hw2 hN hae hao hk hk2 hsml hall
    obtain ⟨n, hn⟩ : ∃ n, wd.length = n := ⟨_, rfl⟩
    obtain ⟨N, hNn⟩ : ∃ N, d.next.length = N := ⟨_, rfl⟩
    obtain ⟨M, hM⟩ : ∃ M, d.fin.length = M := ⟨_, rfl⟩
    have HLn := Lib.hid (And.intro hn (And.intro hNn hM))
    rw [hn] at hn80 hcp HACC HP HOff HAE HOwn HV HG
    rw [hNn, hM] at HP HOwn HV
    clear hn hNn hM
    obtain ⟨e4, _⟩ := HV.out.cell (j := 4) rfl
    go_enter Try.func13, Try.ntmps13
    go_wp2_with fail
    refine HC.out.mono ?_
    rintro e w2 ⟨he, rfl⟩
    obtain rfl : e = .returned .nilIface := he.out
    clear HC he c0
    generalize hw1 : w.alloc (.cells #[.int .i64 a] 3) = w1 at *
    go_wp2_with (at_builtin; refine own_int_both rfl _ _ rfl rfl HOwn.out rfl (by rw [HLn.out.1]; omega) ?_)
    intro g2 cap w3 hA hB
    have HV3 := Lib.hid (HV.out.back (by rw [HAll.out]; exact hB))
    rw [HLn.out.1] at hA ⊢
    have HZ := Lib.hid (HP.out _ _ _ hA)
    have HD := Lib.hid HV3.out.dfa
    obtain ⟨k0, _⟩ := HV3.out.cell (j := 0) rfl
    obtain ⟨k1, _⟩ := HV3.out.cell (j := 1) rfl
    obtain ⟨k2, _⟩ := HV3.out.cell (j := 2) rfl
    obtain ⟨k3, _⟩ := HV3.out.cell (j := 3) rfl
    have HA := Lib.hid hA
    clear hA hB e4 HP hw1 hn80 hcp HOwn HV
    go_wp2_with fail
    refine (HACC.out _ _ _ _ HD.out HZ.out).mono ?_
    rintro e w4 ⟨he, hb⟩
    rw [HAE.out.1] at he
    have HV4 := Lib.hid (HV3.out.on hb)
    have HA4 := Lib.hid (HA.out.on hb)
    clear k0 k1 k2 k3 HZ HD HACC HA HV3 hb
    by_cases h80 : 80 ≤ n
    · have HO : Hid (eoffer d E a = (4, [], E)) := by have := HOff.out; rwa [if_pos h80] at this
      rw [if_pos h80] at he
      have HE : Hid (EditW w0 w4 g d E es fs) := ⟨_, _, _, rs, HV4.out⟩
      obtain ⟨b, hb⟩ : ∃ b, accOut d (wd ++ [a]) = b := ⟨_, rfl⟩
      rw [hb] at he
      obtain rfl : e = .returned (.tuple #[.bool b, errI 4]) := he.out
      clear he hb HOff HAE
      go_wp2
      go_ret2
      exact ⟨none, 0, by rw [HO.out]; rfl, by rw [HO.out]; exact IntsAt.nil _ _ _, by rw [HO.out]; exact HE.out⟩
    · rw [if_neg h80, HAE.out.2 (by omega)] at he
      obtain ⟨k4, f4⟩ := HV4.out.cell (j := 4) rfl
      have HV5 : Hid (EditV w0 (w4.setCell ⟨g, 4, none⟩ (.slice (some ⟨g2, 0, none⟩) (n + 1) cap)) g d ⟨Df.step d E.s a.toNat, E.out, E.held ++ [a]⟩ (.slice A N c) (.slice F M cf) (.slice (some ⟨g2, 0, none⟩) (n + 1) cap) rs es fs) := HV4.out.more rfl (by show E.out ++ (E.held ++ [a]) = _; rw [← List.append_assoc, HAll.out]) HA4.out
      rcases hf : finA d (Df.step d E.s a.toNat) with _ | _
      · have HO : Hid (eoffer d E a = (0, [], ⟨Df.step d E.s a.toNat, E.out, E.held ++ [a]⟩)) := by have := HOff.out; rwa [if_neg h80, if_neg (by rw [hf]; decide)] at this
        rw [hf] at he
        obtain rfl : e = .returned (.tuple #[.bool false, .nilIface]) := he.out
        have HE : Hid (EditW w0 (w4.setCell ⟨g, 4, none⟩ (.slice (some ⟨g2, 0, none⟩) (n + 1) cap)) g d ⟨Df.step d E.s a.toNat, E.out, E.held ++ [a]⟩ es fs) := ⟨_, _, _, rs, HV5.out⟩
        clear he hf HOff HAE
        go_wp2
        go_ret2
        exact ⟨none, 0, by rw [HO.out]; rfl, by rw [HO.out]; exact IntsAt.nil _ _ _, by rw [HO.out]; exact HE.out⟩
      · have HO : Hid (eoffer d E a = (0, E.held ++ [a], ⟨Df.step d E.s a.toNat, E.out ++ (E.held ++ [a]), []⟩)) := by have := HOff.out; rwa [if_neg h80, if_pos hf] at this
        rw [hf] at he
        obtain rfl : e = .returned (.tuple #[.bool true, .nilIface]) := he.out
        have HK := Lib.hid (HG.out _ ⟨_, _, _, rs, HV5.out⟩ (by omega))
        clear he hf HOff HAE HG
        go_wp2_with fail
        generalize hw5 : w4.setCell ⟨g, 4, none⟩ (.slice (some ⟨g2, 0, none⟩) (n + 1) cap) = w5 at *
        refine HK.out.mono ?_
        rintro e w6 he
        obtain ⟨v', rfl, ho⟩ := he.out
        have HV6 := Lib.hid (HV5.out.on ho.below)
        obtain ⟨A', c', rfl, _, _, hI⟩ := own_ints_at ho (List.mem_append_left _ List.mem_cons_self) HHS.out
        obtain ⟨q4, _⟩ := HV6.out.cell (j := 4) rfl
        obtain ⟨q5, f5⟩ := HV6.out.cell (j := 5) rfl
        have HVJ := (HV5.out.join ho).goes (n := (n : Int) + 1) (E2 := ⟨Df.step d E.s a.toNat, E.out ++ (E.held ++ [a]), []⟩) (by show (E.out ++ (E.held ++ [a])) ++ [] = E.out ++ (E.held ++ [a]); rw [List.append_nil]) (by show (n : Int) + 1 = ((E.out ++ (E.held ++ [a])).length : Int); rw [← List.append_assoc, HAll.out, List.length_append, HLn.out.1]; simp)
        have HI : Hid (IntsAt (w6.setCell ⟨g, 5, none⟩ (.int .i64 ((n : Int) + 1))) (w6.setCell ⟨g, 5, none⟩ (.int .i64 ((n : Int) + 1))).heap.size A' (E.held ++ [a])) := by
          obtain ⟨A9, c9, e9, _, h9⟩ := EditW.ints ⟨_, _, _, _, HVJ⟩ (x := .slice A' (E.held ++ [a]).length c') (l := E.held ++ [a]) (by simp) HHS.out
          obtain ⟨rfl, _⟩ : A' = A9 ∧ c' = c9 := by simpa using e9
          exact h9
        have HE : Hid (EditW w0 (w6.setCell ⟨g, 5, none⟩ (.int .i64 ((n : Int) + 1))) g d ⟨Df.step d E.s a.toNat, E.out ++ (E.held ++ [a]), []⟩ es fs) := ⟨_, _, _, rs, HV6.out.goes (by show (E.out ++ (E.held ++ [a])) ++ [] = E.out ++ (E.held ++ [a]); rw [List.append_nil]) (by show (n : Int) + 1 = ((E.out ++ (E.held ++ [a])).length : Int); rw [← List.append_assoc, HAll.out, List.length_append, HLn.out.1]; simp)⟩
        clear ho he hw5 HK HV4 HA4 HV5 HV6 hI HVJ k4 f4
        obtain ⟨nh, hnh⟩ : ∃ nh, (E.held ++ [a]).length = nh := ⟨_, rfl⟩
        rw [hnh]
        have HNh := Lib.hid hnh
        clear hnh
        go_wp2
        go_ret2
        exact ⟨A', c', by rw [HO.out, ← HNh.out]; rfl, by rw [HO.out]; exact HI.out, by rw [HO.out]; exact HE.out⟩
