/- The walk of package mend's cheapest: the table of all costs. -/
import Derived.Test.YtfiknbdpjnpkdaaDoorMendE
namespace Go.Proofs.YtfiknbdpjnpkdaaDoor.Me
open Go.RowKit Go.IntWalk Go.Proofs.YtfiknbdpjnpkdaaDoor.Wd Go.Proofs.YtfiknbdpjnpkdaaDoor.Wo Go.Proofs.YtfiknbdpjnpkdaaDoor.Df Go.Proofs.YtfiknbdpjnpkdaaDoor.Rc Go.Proofs.YtfiknbdpjnpkdaaDoor.Ne

/-- 'make([][]int, n)'. -/
theorem mk_irows {w : World} {ops : Array Oper} {rest : List Oper} {o : Oper} {a : Act} {Q : Exit → Act → World → Prop} (hgd : o.guard = none) (l c : Operand)
    (ho : o.op = Op.makeSlice 22 l c) (n : Nat) (hl : a.eval l = .int .i64 (n : Int)) (hc : a.eval c = .int .i64 (n : Int)) (hn : n ≤ 1099511627776)
    (h : ∀ w', Own w w' [eRows (.slice (some ⟨w.heap.size, 0, none⟩) n n) (List.replicate n (.slice none 0 0))] [] → wpList Tryd.prog ops Q rest (a.put o.dst (.slice (some ⟨w.heap.size, 0, none⟩) n n)) w') : wpList Tryd.prog ops Q (o :: rest) a w := by
  obtain ⟨i0, hi, hz0, hz1, hz2⟩ := info_parts infoRow
  refine wpList_make_full w hgd l c 22 ho w.heap.size 26 i0 (.slice none 0 0) 1 Tryd.underlying22 hi hz0 hz1 .i64 .i64 _ _ n hl hc rfl rfl (by rw [hz2]; omega) (by unfold maxLen; omega) (Nat.le_refl _) ?_
  intro w' hown hg
  refine h w' ⟨(Below.refl _ _).grown hg (Nat.le_refl _) (fun k hk => by cases hk), fun e he => ?_, fun e he => by simp at he, by simp, fun e _ f hf => by simp at hf⟩
  have e' : (madeCells (Value.slice none 0 0).cells (n * 1)).toList = List.replicate n (.slice none 0 0) := by
    have : (Value.slice none 0 0).cells = #[.slice none 0 0] := rfl
    rw [this, Nat.mul_one, toList_madeCells_one]
  simp at he; subst he
  rw [e'] at hown
  unfold eRows
  rw [List.length_replicate]
  exact hown
theorem own_irows_set {w0 w : World} {g n cap : Nat} {l : List Value} {es fs : List Ent} (h : Own w0 w (eRows (.slice (some ⟨g, 0, none⟩) n cap) l :: es) fs) (hl : l.length = n) (j : Nat) (x : Value) :
    Own w0 (w.setCell ⟨g, j, none⟩ x) (eRows (.slice (some ⟨g, 0, none⟩) n cap) (l.set j x) :: es) fs := by
  subst hl
  have h2 := Own.set (t := 26) (sz := 1) (n := l.length) (cap := cap) (xs := l) h j x
  unfold eRows
  rw [List.length_set]
  exact h2
theorem own_irows_cell {w0 w : World} {g n cap : Nat} {l : List Value} {es fs : List Ent} (h : Own w0 w es fs) (he : eRows (.slice (some ⟨g, 0, none⟩) n cap) l ∈ es ++ fs) (hl : l.length = n) {j : Nat} {x : Value} (hj : l[j]? = some x) :
    w.cell? ⟨g, j, none⟩ = some x ∧ w.frozen? ⟨g, j, none⟩ = false := by
  subst hl
  exact h.cell (t := 26) (sz := 1) (n := l.length) (cap := cap) (xs := l) he hj
/-- The rows of costs, from the first place of a word on. -/
noncomputable def rowsOf (d : Aut) (n : Nat) : List Int → List (List Int)
  | [] => [cF n fun s => cst d s []]
  | x :: p => (cF n fun s => cst d s (x :: p)) :: rowsOf d n p
theorem rowsOf_length (d : Aut) (n : Nat) : ∀ z : List Int, (rowsOf d n z).length = z.length + 1
  | [] => rfl
  | x :: p => by unfold rowsOf; rw [List.length_cons, rowsOf_length d n p, List.length_cons]
theorem rowsOf_head (d : Aut) (n : Nat) (z : List Int) : (rowsOf d n z)[0]? = some (cF n fun s => cst d s z) := by cases z <;> rfl
theorem rowsOf_at (d : Aut) (n : Nat) : ∀ (z : List Int) (i : Nat), i ≤ z.length → (rowsOf d n z)[i]? = some (cF n fun s => cst d s (z.drop i))
  | z, 0, _ => by rw [rowsOf_head, List.drop_zero]
  | [], i + 1, h => by simp at h
  | x :: p, i + 1, h => by unfold rowsOf; rw [List.getElem?_cons_succ, rowsOf_at d n p i (by simpa using h), List.drop_succ_cons]
theorem rowsOf_drop (d : Aut) (n : Nat) {z : List Int} {i : Nat} (h : i < z.length) : rowsOf d n (z.drop i) = (cF n fun s => cst d s (z.drop i)) :: rowsOf d n (z.drop (i + 1)) := by
  rw [drop_at h]; rfl
theorem cF_small {n : Nat} {R : Cs} (h : ∀ s, s < n → R s ≤ 1000000) : ∀ x ∈ cF n R, Small x := fun x hx => by
  unfold cF at hx
  obtain ⟨s, hs, rfl⟩ := List.mem_map.1 hx
  have := h s (List.mem_range.1 hs)
  exact ⟨by omega, by omega⟩
/-- The outer row while the last rows are there. -/
def lateV (p : Nat) (rs : List (Value × List Int)) : List Value := List.replicate p (.slice none 0 0) ++ rs.map (·.1)
theorem lateV_set (p : Nat) (rs : List (Value × List Int)) (v : Value) (l : List Int) : (lateV (p + 1) rs).set p v = lateV p ((v, l) :: rs) := by
  unfold lateV
  rw [List.set_append_left _ _ (by simp), List.replicate_succ', List.set_append_right _ _ (by simp)]
  simp
theorem lateV_get (p : Nat) (v : Value) (l : List Int) (rs : List (Value × List Int)) : (lateV p ((v, l) :: rs))[p]? = some v := by
  unfold lateV
  rw [List.getElem?_append_right (by simp)]
  simp
theorem lateV_length (p : Nat) (rs : List (Value × List Int)) : (lateV p rs).length = p + rs.length := by simp [lateV]
set_option linter.unusedSimpArgs false in
set_option maxRecDepth 100000 in
set_option maxHeartbeats 4000000 in
theorem cheapest_any (v : Value) (d : Aut) (n : Nat) (Z : Option Addr) (cz : Nat) (z : List Int) (w : World) (h : DfaAt w w.heap.size v d) (gd : Df.Good d) (hn : d.next.length = n) (hZ : IntsAt w w.heap.size Z z) (hz : z.length ≤ 80) :
    Calls Tryd.prog 38 #[v, .slice Z z.length cz] w fun e w' => Hid (∃ tv rs, e = .returned tv ∧ rs.map (·.2) = rowsOf d n z ∧ Own w w' [] (eRows tv (rs.map (·.1)) :: eEach rs)) := by
  have hV := h
  obtain ⟨L, s, A, c, F, cf, rfl, h⟩ := h
  obtain ⟨w1, hw1, hB1, hX, hd1⟩ := box_dfa w h
  have HG := Lib.hid gd
  have h40 := gd.n40
  have HN := Lib.hid hn
  have hV := hV.on hB1
  rw [gd.fin, hn] at hX hw1 hV
  rw [gd.fin, hn]
  have HV := Lib.hid hV
  have HB := Lib.hid hB1
  have HW := Lib.hid hw1
  have HX := Lib.hid hX
  have hZ1 := hZ.on hB1
  have HZ := Lib.hid hZ1
  have hnn : n ≤ 40 := by rw [← hn]; exact h40
  have hc0 := hX.c0
  have hc1 := hX.c1
  have hc2 := hX.c2
  have hc3 := hX.c3
  have HEnd := Lib.hid fun (W : World) (hW : DfaAt W W.heap.size (.agg #[.int .i64 L, .int .i64 s, .slice A n c, .slice F n cf]) d) => ended_any _ d n W hW gd hn
  have HIns := Lib.hid fun (p : List Int) (g : Nat) (R0 : Cs) (W : World) (es fs : List Ent) hf hs hO => insert_any _ d p n g R0 w1 W es fs hV gd hn hf hs hO
  have HEdt := Lib.hid fun (x : Int) (p : List Int) (B : Option Addr) (cb : Nat) (W : World) (hW : DfaAt W W.heap.size (.agg #[.int .i64 L, .int .i64 s, .slice A n c, .slice F n cf]) d) hB => edited_any _ d n x p B cb W hW gd hn hB
  clear h hw1 hB1 hX hd1 gd h40 hn hZ hZ1 hV
  obtain ⟨m, hm⟩ : ∃ m, z.length = m := ⟨_, rfl⟩
  rw [hm] at hz
  rw [hm]
  have HMl := Lib.hid hm
  clear hm
  go_enter Tryd.func38, Tryd.ntmps38
  go_wp2_with (at_make; rw [← HW.out]; refine mk_irows rfl _ _ rfl (m + 1) rfl rfl (by omega) ?_)
  intro w2 ho
  have HO := Lib.hid ho
  have HV2 := Lib.hid (HV.out.on ho.below)
  have HX2 := Lib.hid (HX.out.on ho.below)
  obtain ⟨g, hg⟩ : ∃ g, w1.heap.size = g := ⟨_, rfl⟩
  rw [hg] at HO ⊢
  have hgw : w.heap.size < g := by rw [← hg]; exact HX.out.lt
  clear hg ho HW hc0 hc1 hc2 hc3
  have hc0 := HX2.out.c0
  have hc1 := HX2.out.c1
  have hc2 := HX2.out.c2
  have hc3 := HX2.out.c3
  go_wp2_with fail
  refine (HEnd.out _ HV2.out).mono ?_
  rintro e w3 he
  obtain ⟨g3, rfl, ho⟩ := he.out
  have hj := HO.out.join ho
  have hj2 : Own w1 w3 (eRows (wv g (m + 1)) (List.replicate (m + 1) (.slice none 0 0)) :: [eInts (wv g3 n) (cF n (endC d))]) [] := hj.two
  obtain ⟨q1, q2⟩ := own_irows_cell hj2 (List.mem_append_left _ List.mem_cons_self) (by simp) (j := m) (x := .slice none 0 0) (by simp)
  have hst := own_irows_set hj2 (by simp) m (wv g3 n)
  rw [show List.replicate (m + 1) (Value.slice none 0 0) = lateV (m + 1) [] by simp [lateV], lateV_set m [] (wv g3 n) (cF n fun s => cst d s [])] at hst
  obtain ⟨w4, hw4⟩ : ∃ w4, w4 = w3.setCell ⟨g, m, none⟩ (wv g3 n) := ⟨_, rfl⟩
  rw [← hw4] at hst
  have HX4 := Lib.hid (HX.out.on hst.below)
  have HO4 := Lib.hid hst.two
  obtain ⟨q3, _⟩ := own_irows_cell hst (List.mem_append_left _ List.mem_cons_self) (by rw [lateV_length]; simp) (lateV_get m (wv g3 n) (cF n fun s => cst d s []) [])
  have HW4 := Lib.hid hw4
  have e1 : (m : Int) < (m : Int) + 1 := by omega
  clear he ho hj hj2 hst hw4 HEnd HO HV2 HX2 hc0 hc1 hc2 hc3
  have hc0 := HX4.out.c0
  have hc1 := HX4.out.c1
  have hc2 := HX4.out.c2
  have hc3 := HX4.out.c3
  go_wp2_with fail
  rw [← HW4.out]
  refine wp_region_still_tail 6 (by kernel_rfl) (by kernel_rfl) ?_
  simp only [List.take_succ_cons, List.take_zero, List.drop_succ_cons, List.drop_zero]
  iterate 6 still_step
  refine wpStill_nil ?_
  change wpList _ _ _ _ _ w4.drew
  go_wp2_with fail
  refine (HIns.out [] g3 (endC d) _ _ _ (endC_full d) (endC_sound d) (HO4.out.on (Below.refl _ _).drew)).mono ?_
  rintro e w5 he
  obtain ⟨rfl, ho5⟩ := he.out
  have HS : Hid (∃ rs, rs.map (·.2) = rowsOf d n (z.drop m) ∧ Own w1 w5 [eRows (wv g (m + 1)) (lateV m rs)] (eEach rs)) := ⟨[(wv g3 n, cF n fun s => cst d s [])], by rw [List.drop_of_length_le (by rw [HMl.out]; omega)]; rfl, ho5.fin⟩
  clear he ho5 HO4 HX4 HW4 hc0 hc1 hc2 hc3 q1 q2 q3
  go_wp2
  go_loopw [6] (fun i wr => ∃ (p : Nat) (x : Int), p ≤ m ∧ x = (p : Int) - 1 ∧ i = .int .i64 x ∧ Hid (∃ rs, rs.map (·.2) = rowsOf d n (z.drop p) ∧ Own w1 wr [eRows (wv g (m + 1)) (lateV p rs)] (eEach rs))) (fun i _ => (intOf i + 1).toNat)
  case atStart => exact ⟨m, (m : Int) - 1, by omega, rfl, rfl, HS⟩
  case round =>
    clear HS
    obtain ⟨p, x, hp, hx, rfl, HS⟩ := hrel
    rcases p with _ | q
    · have hx0 : x < 0 := by omega
      have HE : Hid (∃ tv rs, (.slice (some ⟨g, 0, none⟩) (m + 1) (m + 1) : Value) = tv ∧ rs.map (·.2) = rowsOf d n z ∧ Own w wr [] (eRows tv (rs.map (·.1)) :: eEach rs)) := by
        obtain ⟨rs, hrs, ho⟩ := HS.out
        refine ⟨_, rs, rfl, by rw [hrs, List.drop_zero], ?_⟩
        have h := (ho.base HB.out).fin
        rwa [show lateV 0 rs = rs.map (·.1) by simp [lateV]] at h
      clear HS hx
      go_wp2
      go_ret
      obtain ⟨tv, rs, rfl, h2, h3⟩ := HE.out
      exact ⟨_, rs, rfl, h2, h3⟩
    · obtain rfl : x = (q : Int) := by omega
      clear hx
      obtain ⟨rs, hrs, ho⟩ := HS.out
      have hqz : q < z.length := by rw [HMl.out]; omega
      obtain ⟨⟨v0, r0⟩, rs', rfl⟩ : ∃ p0 rs', rs = p0 :: rs' := by
        rcases rs with _ | ⟨p0, rs'⟩
        · have := rowsOf_head d n (z.drop (q + 1)); rw [← hrs] at this; simp at this
        · exact ⟨p0, rs', rfl⟩
      obtain rfl : r0 = cF n fun s => cst d s (z.drop (q + 1)) := by
        have := rowsOf_head d n (z.drop (q + 1)); rw [← hrs] at this; simpa using this
      have hsm : ∀ y ∈ cF n fun s => cst d s (z.drop (q + 1)), Small y := cF_small fun s _ => cst_never d s _
      obtain ⟨A0, c0, hv0, _, _, hI0⟩ := own_ints_at ho (v := v0) (List.mem_append_right _ (List.mem_map.2 ⟨(v0, _), List.mem_cons_self, rfl⟩)) hsm
      rw [cF_length] at hv0
      subst hv0
      have hlen : (lateV (q + 1) ((.slice A0 n c0, cF n fun s => cst d s (z.drop (q + 1))) :: rs')).length = m + 1 := by
        have h1 := congrArg List.length hrs
        rw [List.length_map, rowsOf_length, List.length_drop] at h1
        have h2 := HMl.out
        rw [lateV_length]; omega
      obtain ⟨q1, _⟩ := own_irows_cell ho (List.mem_append_left _ List.mem_cons_self) hlen (lateV_get (q + 1) _ _ rs')
      obtain ⟨adz, rfl, _, hzc, _⟩ := (HZ.out.on ho.below).get (List.getElem?_eq_getElem hqz)
      have hX := HX.out.on ho.below
      have hc0 := hX.c0
      have hc1 := hX.c1
      have hc2 := hX.c2
      have hc3 := hX.c3
      have HV6 := Lib.hid ((HV.out.on ho.below).on (Below.refl _ _).drew)
      have HI6 := Lib.hid (hI0.on (Below.refl _ _).drew)
      have HO6 := Lib.hid (ho.on (Below.refl _ _).drew)
      have HRs := Lib.hid hrs
      have HLn := Lib.hid hlen
      have hw1 : IntKind.i64.wrap ((q : Int) + 1) = (q : Int) + 1 := IntWalk.i64_in _ ⟨by omega, by omega⟩
      have e2 : (q : Int) < (m : Int) := by omega
      have e3 : (q : Int) < (m : Int) + 1 := by omega
      have e4 : (q : Int) + 1 < (m : Int) + 1 := by omega
      have e5 : (0 : Int) ≤ (q : Int) + 1 := by omega
      have HSl : Hid (Small z[q]) := (HZ.out.2 _ (List.getElem_mem hqz))
      clear HS hrs ho hsm hI0 hlen hX
      generalize hxq : z[q] = xq at *
      have HXq := Lib.hid hxq
      clear hxq
      go_wp2_with fail
      go_region_with ((go_at_call 52; refine (HEdt.out xq (z.drop (q + 1)) A0 c0 _ HV6.out HI6.out).mono ?_; rintro e w7 he; obtain ⟨g7, R, rfl, hed, ho7⟩ := he.out; have HEd := Lib.hid hed; have HO7 := Lib.hid (HO6.out.join ho7).two; obtain ⟨_, q2⟩ := own_irows_cell HO7.out (List.mem_append_left _ List.mem_cons_self) HLn.out (j := q) (x := .slice none 0 0) (by unfold lateV; rw [List.getElem?_append_left (by simp)]; simp); clear he hed ho7))
      all_goals
        have hst := own_irows_set HO7.out HLn.out q (wv g7 n)
        rw [lateV_set q ((.slice A0 n c0, cF n fun s => cst d s (z.drop (q + 1))) :: rs') (wv g7 n) (cF n R)] at hst
        obtain ⟨w8, hw8⟩ : ∃ w8, w8 = w7.setCell ⟨g, q, none⟩ (wv g7 n) := ⟨_, rfl⟩
        have HW8 := Lib.hid hw8
        rw [← hw8] at hst
        obtain ⟨q3, _⟩ := own_irows_cell hst (List.mem_append_left _ List.mem_cons_self) (by have := HLn.out; rw [lateV_length] at this ⊢; simp only [List.length_cons] at *; omega) (lateV_get q (wv g7 n) (cF n R) _)
        have hX := HX.out.on hst.below
        have HO8 := Lib.hid hst.two
        clear hw8 hst hc0 hc1 hc2 hc3 q1 q2 HO7 HO6 HI6 HV6 hzc
        have hc0 := hX.c0
        have hc1 := hX.c1
        have hc2 := hX.c2
        have hc3 := hX.c3
        go_wp2_with fail
        rw [← HW8.out]
        refine wp_region_still_tail 5 (by kernel_rfl) (by kernel_rfl) ?_
        simp only [List.take_succ_cons, List.take_zero, List.drop_succ_cons, List.drop_zero]
        iterate 5 still_step
        refine wpStill_nil ?_
        change wpList _ _ _ _ _ w8.drew
        have hdz : xq :: z.drop (q + 1) = z.drop q := by rw [← HXq.out]; exact (drop_at hqz).symm
        go_wp2_with fail
        refine (HIns.out (z.drop q) g7 R _ _ _ (by rw [← hdz]; exact edited_full HEd.out) (by rw [← hdz]; exact HEd.out.sound) (HO8.out.on (Below.refl _ _).drew)).mono ?_
        rintro e w9 he
        obtain ⟨rfl, ho9⟩ := he.out
        have HE : Hid (∃ rs, rs.map (·.2) = rowsOf d n (z.drop q) ∧ Own w1 w9 [eRows (wv g (m + 1)) (lateV q rs)] (eEach rs)) := by
          refine ⟨(wv g7 n, cF n fun s => cst d s (z.drop q)) :: (.slice A0 n c0, cF n fun s => cst d s (z.drop (q + 1))) :: rs', ?_, ho9.fin⟩
          rw [List.map_cons, HRs.out, rowsOf_drop d n hqz]
        clear he ho9 HO8 hX hc0 hc1 hc2 hc3 q3 HW8 hdz HEd
        go_wp2
        go_roundw
        case rel => exact ⟨q, (q : Int) - 1, by omega, rfl, by go_num, HE⟩
        case measure => simp [intOf]
end Go.Proofs.YtfiknbdpjnpkdaaDoor.Me
