/- The walks of package mend's mender: what it knows, and the first word. The walks of package mend's remove and behind. -/
import Derived.Test.YtfiknbdpjnpkdaaMendC
import Derived.BigQuiet
import Derived.Deep.QuietTactic

namespace Go.Proofs.Ytfiknbdpjnpkdaa.Me
open Go.RowKit Go.IntWalk Go.Proofs.Ytfiknbdpjnpkdaa.Wd Go.Proofs.Ytfiknbdpjnpkdaa.Wo Go.Proofs.Ytfiknbdpjnpkdaa.Df Go.Proofs.Ytfiknbdpjnpkdaa.Rc Go.Proofs.Ytfiknbdpjnpkdaa.Ne

/-- What reads as a mender. -/
structure MenIs (w : World) (B : Nat) (L s : Int) (A : Option Addr) (c : Nat) (F : Option Addr) (cf : Nat) (Z : Option Addr) (cz : Nat) (T : Option Addr) (ct : Nat) (d : Aut) (z : List Int) : Prop where
  dfa : DfaIs w B L s A c F cf d
  word : IntsAt w B Z z
  rows : RowsAt w B T (rowsOf d d.next.length z)
abbrev menV (L s : Int) (A : Option Addr) (n c : Nat) (F : Option Addr) (nf cf : Nat) (Z : Option Addr) (m cz : Nat) (T : Option Addr) (ct : Nat) : Value :=
  .agg #[.int .i64 L, .int .i64 s, .slice A n c, .slice F nf cf, .slice Z m cz, .slice T (m + 1) ct]
section
variable {w w' : World} {L s : Int} {A F Z T : Option Addr} {c cf cz ct : Nat} {d : Aut} {z : List Int}
theorem MenIs.on (h : MenIs w w.heap.size L s A c F cf Z cz T ct d z) (hb : Below w.heap.size w w') : MenIs w' w'.heap.size L s A c F cf Z cz T ct d z := ⟨h.dfa.on hb, h.word.on hb, h.rows.on hb⟩
end
/-- The block in which a mender lies. -/
structure BoxM (w1 : World) (g : Nat) (L s : Int) (A : Option Addr) (n c : Nat) (F : Option Addr) (nf cf : Nat) (Z : Option Addr) (m cz : Nat) (T : Option Addr) (ct : Nat) : Prop where
  lt : g < w1.heap.size
  c0 : w1.cell? ⟨g, 0, none⟩ = some (.int .i64 L)
  c1 : w1.cell? ⟨g, 1, none⟩ = some (.int .i64 s)
  c2 : w1.cell? ⟨g, 2, none⟩ = some (.slice A n c)
  c3 : w1.cell? ⟨g, 3, none⟩ = some (.slice F nf cf)
  c4 : w1.cell? ⟨g, 4, none⟩ = some (.slice Z m cz)
  c5 : w1.cell? ⟨g, 5, none⟩ = some (.slice T (m + 1) ct)
section
variable {w1 w2 : World} {g : Nat} {L s : Int} {A F Z T : Option Addr} {n nf m c cf cz ct : Nat}
theorem BoxM.on (h : BoxM w1 g L s A n c F nf cf Z m cz T ct) (hb : Below w1.heap.size w1 w2) : BoxM w2 g L s A n c F nf cf Z m cz T ct :=
  ⟨Nat.lt_of_lt_of_le h.lt hb.size, (hb.cell h.lt).trans h.c0, (hb.cell h.lt).trans h.c1, (hb.cell h.lt).trans h.c2, (hb.cell h.lt).trans h.c3, (hb.cell h.lt).trans h.c4, (hb.cell h.lt).trans h.c5⟩
end
theorem box_men (w : World) {L s : Int} {A F Z T : Option Addr} {n nf m c cf cz ct : Nat} {d : Aut} {z : List Int} (h : MenIs w w.heap.size L s A c F cf Z cz T ct d z) :
    ∃ w1, w1 = w.alloc (.cells #[.int .i64 L, .int .i64 s, .slice A n c, .slice F nf cf, .slice Z m cz, .slice T (m + 1) ct] 51) ∧ Below w.heap.size w w1 ∧ BoxM w1 w.heap.size L s A n c F nf cf Z m cz T ct ∧ MenIs w1 w1.heap.size L s A c F cf Z cz T ct d z :=
  ⟨_, rfl, below_alloc _ _, ⟨by simp, box_cell w _ _ 0, box_cell w _ _ 1, box_cell w _ _ 2, box_cell w _ _ 3, box_cell w _ _ 4, box_cell w _ _ 5⟩, h.on (below_alloc _ _)⟩
/-- A cost of the table. -/
theorem men_at {w : World} {B : Nat} {T : Option Addr} {d : Aut} {z : List Int} (h : RowsAt w B T (rowsOf d d.next.length z)) {i : Nat} (hi : i ≤ z.length) :
    ∃ ad ar cr, T = some ad ∧ ad.block < B ∧ w.cell? (ad.add i) = some (.slice ar d.next.length cr) ∧ d.next.length ≤ cr ∧ ∀ q, q < d.next.length → ∃ ad', ar = some ad' ∧ ad'.block < B ∧ w.cell? (ad'.add q) = some (.int .i64 ((cst d q (z.drop i) : Nat) : Int)) := by
  obtain ⟨ad, ar, cr, e, h1, h2, h3, _, h5⟩ := h i _ (rowsOf_at d d.next.length z i hi)
  rw [cF_length] at h2 h3
  refine ⟨ad, ar, cr, e, h1, h2, h3, fun q hq => ?_⟩
  obtain ⟨ad', e', k1, k2, _⟩ := h5.get (cF_get _ hq)
  exact ⟨ad', e', k1, k2⟩
theorem addr_zero (a : Addr) : a.add 0 = a := by
  unfold Addr.add
  split <;> simp_all
set_option maxRecDepth 100000 in
set_option maxHeartbeats 2000000 in
theorem letters_any (L s : Int) (A : Option Addr) (n c : Nat) (F : Option Addr) (nf cf : Nat) (Z : Option Addr) (m cz : Nat) (T : Option Addr) (ct : Nat) (d : Aut) (z : List Int) (w : World) (gd : Df.Good d) (hn : d.next.length = n) (hm : z.length = m) (h : MenIs w w.heap.size L s A c F cf Z cz T ct d z) :
    Calls Try.prog 21 #[menV L s A n c F nf cf Z m cz T ct] w fun e w' => Hid (e = .returned (.int .i64 (((cst d d.s.toNat z) % 1000 : Nat) : Int))) ∧ Below w.heap.size w w' := by
  obtain ⟨w1, hw1, hB1, hX, hM⟩ := box_men (n := n) (nf := nf) (m := m) w h
  have HB := Lib.hid hB1
  have HW := Lib.hid hw1
  have hc1 := hX.c1
  have hc5 := hX.c5
  have hs := gd.s_eq
  rw [h.dfa.es] at hs
  obtain ⟨adt, ar, cr, rfl, _, hr1, hr2, hr3⟩ := men_at hM.rows (i := 0) (by omega)
  rw [hn] at hr1 hr2 hr3
  rw [addr_zero] at hr1
  have hlt := gd.s_lt
  rw [h.dfa.es, hn] at hlt
  obtain ⟨adr, rfl, _, hr4⟩ := hr3 s.toNat hlt
  rw [List.drop_zero] at hr4
  rw [h.dfa.es]
  have hcs := cst_never d s.toNat z
  obtain ⟨x, hx⟩ : ∃ x, cst d s.toNat z = x := ⟨_, rfl⟩
  rw [hx] at hr4 hcs
  rw [hx]
  obtain ⟨q, hq⟩ : ∃ q, s.toNat = q := ⟨_, rfl⟩
  rw [hq] at hs hlt hr4
  subst hs
  clear hX hw1 hM h gd hn hr3 hB1 hx hq hm
  go_enter Try.func21, Try.ntmps21
  go_wp2_with fail
  rw [← HW.out]
  go_quiet (fail)
  go_wp2
  go_ret
  exact ⟨rfl, below_drewN HB.out _⟩
set_option maxRecDepth 100000 in
set_option maxHeartbeats 2000000 in
theorem edits_any (L s : Int) (A : Option Addr) (n c : Nat) (F : Option Addr) (nf cf : Nat) (Z : Option Addr) (m cz : Nat) (T : Option Addr) (ct : Nat) (d : Aut) (z : List Int) (w : World) (gd : Df.Good d) (hn : d.next.length = n) (hm : z.length = m) (h : MenIs w w.heap.size L s A c F cf Z cz T ct d z) :
    Calls Try.prog 23 #[menV L s A n c F nf cf Z m cz T ct] w fun e w' => Hid (e = .returned (.int .i64 (((cst d d.s.toNat z) / 1000 : Nat) : Int))) ∧ Below w.heap.size w w' := by
  obtain ⟨w1, hw1, hB1, hX, hM⟩ := box_men (n := n) (nf := nf) (m := m) w h
  have HB := Lib.hid hB1
  have HW := Lib.hid hw1
  have hc1 := hX.c1
  have hc5 := hX.c5
  have hs := gd.s_eq
  rw [h.dfa.es] at hs
  obtain ⟨adt, ar, cr, rfl, _, hr1, hr2, hr3⟩ := men_at hM.rows (i := 0) (by omega)
  rw [hn] at hr1 hr2 hr3
  rw [addr_zero] at hr1
  have hlt := gd.s_lt
  rw [h.dfa.es, hn] at hlt
  obtain ⟨adr, rfl, _, hr4⟩ := hr3 s.toNat hlt
  rw [List.drop_zero] at hr4
  rw [h.dfa.es]
  have hcs := cst_never d s.toNat z
  obtain ⟨x, hx⟩ : ∃ x, cst d s.toNat z = x := ⟨_, rfl⟩
  rw [hx] at hr4 hcs
  rw [hx]
  obtain ⟨q, hq⟩ : ∃ q, s.toNat = q := ⟨_, rfl⟩
  rw [hq] at hs hlt hr4
  subst hs
  clear hX hw1 hM h gd hn hr3 hB1 hx hq hm
  go_enter Try.func23, Try.ntmps23
  go_wp2_with fail
  rw [← HW.out]
  go_quiet (fail)
  go_wp2
  go_ret
  exact ⟨rfl, below_drewN HB.out _⟩
/-- The table's cells, wherever it still lies. -/
theorem men_cells {w1 : World} {T : Option Addr} {d : Aut} {z : List Int} {n m : Nat} (gd : Df.Good d) (hn : d.next.length = n) (hm : z.length = m) (h : RowsAt w1 w1.heap.size T (rowsOf d d.next.length z)) :
    ∃ (adt : Addr) (ar : Nat → Addr) (cr : Nat → Nat), T = some adt ∧ adt.block < w1.heap.size ∧ (∀ i, i ≤ m → (ar i).block < w1.heap.size) ∧ ∀ W, Below w1.heap.size w1 W → ∀ i, i ≤ m → W.cell? (adt.add i) = some (.slice (some (ar i)) n (cr i)) ∧ n ≤ cr i ∧ ∀ q, q < n → W.cell? ((ar i).add q) = some (.int .i64 ((cst d q (z.drop i) : Nat) : Int)) := by
  have hn1 := gd.n1
  rw [hn] at hn1
  have key : ∀ i, ∃ (p : Addr × Nat), i ≤ m → p.1.block < w1.heap.size ∧ ∃ adt, T = some adt ∧ adt.block < w1.heap.size ∧ ∀ W, Below w1.heap.size w1 W → W.cell? (adt.add i) = some (.slice (some p.1) n p.2) ∧ n ≤ p.2 ∧ ∀ q, q < n → W.cell? (p.1.add q) = some (.int .i64 ((cst d q (z.drop i) : Nat) : Int)) := by
    intro i
    by_cases hi : i ≤ m
    · obtain ⟨adt, ar, cr, e, h1, h2, h3, h4⟩ := men_at h (i := i) (by omega)
      rw [hn] at h2 h3 h4
      obtain ⟨ad', e', hb, _⟩ := h4 0 (by omega)
      subst e'
      refine ⟨(ad', cr), fun _ => ⟨hb, adt, e, h1, fun W hW => ⟨(hW.cell (p := adt.add i) (by rw [Wd.block_add]; exact h1)).trans h2, h3, fun q hq => ?_⟩⟩⟩
      obtain ⟨ad2, e2, k1, k2⟩ := h4 q hq
      obtain rfl := Option.some.inj e2
      exact (hW.cell (p := ad'.add q) (by rw [Wd.block_add]; exact k1)).trans k2
    · exact ⟨(⟨0, 0, none⟩, 0), fun h => absurd h hi⟩
  obtain ⟨_, adt, e, hb, _⟩ := (Classical.choose_spec (key 0)) (by omega)
  refine ⟨adt, fun i => (Classical.choose (key i)).1, fun i => (Classical.choose (key i)).2, e, hb, fun i hi => (Classical.choose_spec (key i) hi).1, fun W hW i hi => ?_⟩
  obtain ⟨_, adt', e', _, hx⟩ := Classical.choose_spec (key i) hi
  obtain rfl := Option.some.inj (e.symm.trans e')
  exact hx W hW
/-! ### slices.Contains at bools -/
theorem take_no {z : List Bool} {k : Nat} (h : true ∉ z.take k) (hk : k < z.length) (he : z[k] = false) : true ∉ z.take (k + 1) := by
  rw [← List.take_append_getElem hk]
  intro h2
  rcases List.mem_append.1 h2 with h2 | h2
  · exact h h2
  · simp at h2; rw [he] at h2; cases h2
set_option maxRecDepth 100000 in
set_option maxHeartbeats 1000000 in
theorem bidx_any (A : Option Addr) (c n : Nat) (z : List Bool) (w : World) (hn : z.length = n) (hA : BoolsAt w w.heap.size A z) (hz : n ≤ 17592186044416) :
    Calls Try.prog 47 #[.slice A n c, .bool true] w fun e w' => Hid (∃ r : Int, e = .returned (.int .i64 r) ∧ decide (0 ≤ r) = decide (true ∈ z)) ∧ w = w' := by
  have HA := Lib.hid hA
  have HT : Hid (true ∉ z.take 0) := by simp [Hid]
  have HN := Lib.hid hn
  clear hA hn
  go_enter Try.func47, Try.ntmps47
  go_wp2
  go_loop [8] (fun j => ∃ (k : Nat), k ≤ n ∧ j = .int .i64 k ∧ Hid (true ∉ z.take k)) (fun j => n - (intOf j).toNat)
  case atStart => exact ⟨0, by omega, rfl, HT⟩
  case round =>
    clear HT
    obtain ⟨k, hk, rfl, HT⟩ := hrel
    by_cases hlt : k < n
    · have hlt' : k < z.length := by rw [HN.out]; exact hlt
      obtain ⟨ad, rfl, hadb, hcell, hs1⟩ := HA.out.at_ (List.getElem?_eq_getElem hlt')
      rcases he : z[k] with _ | _
      · have HN2 := Lib.hid (take_no HT.out hlt' he)
        rw [he] at hcell
        clear he HT
        go_wp2
        go_round
        case rel => exact ⟨k + 1, by omega, by go_num, HN2⟩
        case measure => simp [intOf]; omega
      · have HR : Hid (true ∈ z) := by rw [← he]; exact List.getElem_mem hlt'
        rw [he] at hcell
        clear he HT
        go_wp2
        go_ret
        exact ⟨⟨k, rfl, ⟨fun _ => HR.out, fun _ => by omega⟩⟩, rfl⟩
    · have HR : Hid (true ∉ z) := by
        have h := HT.out
        rwa [List.take_of_length_le (by have := HN.out; omega)] at h
      clear HT
      go_wp2
      go_ret
      exact ⟨⟨-1, rfl, ⟨fun h => absurd h (by decide), fun h => absurd h HR.out⟩⟩, rfl⟩
set_option maxRecDepth 100000 in
theorem bhas_any (A : Option Addr) (c n : Nat) (z : List Bool) (w : World) (hn : z.length = n) (hA : BoolsAt w w.heap.size A z) (hz : n ≤ 17592186044416) {b : Bool} (hb : decide (true ∈ z) = b) :
    Calls Try.prog 35 #[.slice A n c, .bool true] w fun e w' => e = .returned (.bool b) ∧ w' = w := by
  have HI := Lib.hid (bidx_any A c n z w hn hA hz)
  rw [hb] at HI
  clear hA hz hb hn
  go_enter Try.func35, Try.ntmps35
  go_wp2_with fail
  refine HI.out.mono ?_
  rintro e w2 ⟨he, rfl⟩
  obtain ⟨r, rfl, hr⟩ := he.out
  have HR := Lib.hid hr
  clear he HI hr
  go_wp2
  go_ret
  exact ⟨by rw [← HR.out]; rfl, rfl⟩
end Go.Proofs.Ytfiknbdpjnpkdaa.Me

namespace Go.Proofs.Ytfiknbdpjnpkdaa.Me
open Go.RowKit Go.IntWalk Go.Proofs.Ytfiknbdpjnpkdaa.Wd Go.Proofs.Ytfiknbdpjnpkdaa.Wo Go.Proofs.Ytfiknbdpjnpkdaa.Df Go.Proofs.Ytfiknbdpjnpkdaa.Rc Go.Proofs.Ytfiknbdpjnpkdaa.Ne

def eMen (g : Nat) (l : List Value) : Ent := ⟨51, 6, .slice (some ⟨g, 0, none⟩) 1 1, 1, l⟩
theorem own_men {w0 w : World} {es fs : List Ent} (h : Own w0 w es fs) (a b c d e f : Value) : Own w0 (w.alloc (.cells #[a, b, c, d, e, f] 51)) (eMen w.heap.size [a, b, c, d, e, f] :: es) fs :=
  h.lit _ 6 1 #[a, b, c, d, e, f] rfl (by simp [maxLen])
theorem own_mcell {w0 w : World} {es fs : List Ent} (h : Own w0 w es fs) {g : Nat} {l : List Value} (he : eMen g l ∈ es ++ fs) {j : Nat} {u : Value} (hj : l[j]? = some u) : w.cell? ⟨g, j, none⟩ = some u := (h.cell he hj).1
theorem bF_upd (n : Nat) (f g : Nat → Bool) (i : Nat) (h : ∀ j, j < n → g j = if j = i then true else f j) : (bF n f).set i true = bF n g := by
  rw [bF_set]; exact bF_congr fun t ht => (h t ht).symm
set_option linter.unusedSimpArgs false in
set_option maxRecDepth 100000 in
set_option maxHeartbeats 4000000 in
theorem remove_any (L s : Int) (A : Option Addr) (n c : Nat) (F : Option Addr) (nf cf : Nat) (Z : Option Addr) (m cz : Nat) (T : Option Addr) (ct : Nat) (d : Aut) (z p : List Int) (gp q : Nat) (w0 w : World) (es fs : List Ent) (gd : Df.Good d) (hn : d.next.length = n) (hm : z.length = m) (hz : m ≤ 80)
    (h : MenIs w0 w0.heap.size L s A c F cf Z cz T ct d z) (hp : Word d.L p) (hq : runA d d.s.toNat p = q) (hO : Own w0 w (eBools (wv gp (m + 1)) (bF (m + 1) (mkB d z p)) :: es) fs) :
    Calls Try.prog 33 #[menV L s A n c F nf cf Z m cz T ct, wv gp (m + 1), .int .i64 (q : Int)] w fun e w' => Hid (e = .returned (.tuple #[]) ∧ Own w0 w' (eBools (wv gp (m + 1)) (bF (m + 1) (onB d z p)) :: es) fs) := by
  obtain ⟨w1, hw1⟩ : ∃ w1, w1 = w.alloc (.cells #[.int .i64 L, .int .i64 s, .slice A n c, .slice F nf cf, .slice Z m cz, .slice T (m + 1) ct] 51) := ⟨_, rfl⟩
  obtain ⟨adt, ar, cr, rfl, _, _, hcells⟩ := men_cells gd hn hm h.rows
  have hO1 := (own_men hO (.int .i64 L) (.int .i64 s) (.slice A n c) (.slice F nf cf) (.slice Z m cz) (.slice (some adt) (m + 1) ct)).fin
  rw [← hw1] at hO1
  have HC := Lib.hid hcells
  have HW := Lib.hid hw1
  have HP := Lib.hid hp
  have HQ := Lib.hid hq
  have HM := Lib.hid hm
  have hqn : q < n := by rw [← hq, ← hn]; exact gd.run_lt hp gd.s_lt
  obtain ⟨fsb, hfsb⟩ : ∃ fsb, fsb = eMen w.heap.size [.int .i64 L, .int .i64 s, .slice A n c, .slice F nf cf, .slice Z m cz, .slice (some adt) (m + 1) ct] :: fs := ⟨_, rfl⟩
  rw [← hfsb] at hO1
  have HFsb := Lib.hid hfsb
  have HS0 : Hid (Own w0 w1 (eBools (wv gp (m + 1)) (bF (m + 1) (remTo d z p 0)) :: es) fsb) := by
    rw [bF_congr fun t _ => remTo_zero hp t]; exact hO1
  have hc4 := own_mcell hO1 (g := w.heap.size) (List.mem_append_right _ (by rw [hfsb]; exact List.mem_cons_self)) (j := 4) rfl
  clear hO hO1 hw1 hp hq hm h hcells hfsb gd hn
  go_enter Try.func33, Try.ntmps33
  go_wp2_with fail
  rw [← HW.out]
  go_wp2
  clear hc4
  go_loopw [10] (fun i wr => ∃ k : Nat, k ≤ m ∧ i = .int .i64 k ∧ Hid (Own w0 wr (eBools (wv gp (m + 1)) (bF (m + 1) (remTo d z p k)) :: es) fsb)) (fun i _ => m - (intOf i).toNat)
  case atStart => exact ⟨0, by omega, rfl, HS0⟩
  case round =>
    clear HS0 HW
    obtain ⟨k, hk, rfl, HS⟩ := hrel
    by_cases hlt : k < m
    · have hkz : k < z.length := by rw [HM.out]; exact hlt
      obtain ⟨k1, _⟩ := own_bools_cell HS.out (List.mem_append_left _ List.mem_cons_self) (bF_length _ _) (bF_get (remTo d z p k) (show k < m + 1 by omega))
      obtain ⟨_, k4⟩ := own_bools_cell HS.out (List.mem_append_left _ List.mem_cons_self) (bF_length _ _) (bF_get (remTo d z p k) (show k + 1 < m + 1 by omega))
      obtain ⟨r1, r2, r3⟩ := HC.out wr HS.out.below k (by omega)
      obtain ⟨s1, s2, s3⟩ := HC.out wr HS.out.below (k + 1) (by omega)
      have r4 := r3 q hqn
      have s4 := s3 q hqn
      have hc5 := own_mcell HS.out (g := w.heap.size) (List.mem_append_right _ (by rw [HFsb.out]; exact List.mem_cons_self)) (j := 5) rfl
      have b1 := cst_never d q (z.drop k)
      have b2 := cst_never d q (z.drop (k + 1))
      have HTight : Hid (rem d z q k ↔ cst d q (z.drop k) = 1000 + cst d q (z.drop (k + 1))) := Iff.rfl
      have e1 : (k : Int) < (m : Int) := by omega
      have e2 : (k : Int) < (m : Int) + 1 := by omega
      have e3 : (k : Int) + 1 < (m : Int) + 1 := by omega
      have e4 : (0 : Int) ≤ (k : Int) + 1 := by omega
      have hw1 : IntKind.i64.wrap ((k : Int) + 1) = (k : Int) + 1 := IntWalk.i64_in _ ⟨by omega, by omega⟩
      have HRk : Hid (∀ b : Bool, (b = true ↔ rem d z q k) → ∀ j, remTo d z p (k + 1) j = if j = k + 1 ∧ (remTo d z p k k && b) = true then true else remTo d z p k j) := fun b hb j => remTo_next HP.out hkz b (by rw [HQ.out]; exact hb) j
      obtain ⟨x, hx⟩ : ∃ x, cst d q (z.drop k) = x := ⟨_, rfl⟩
      obtain ⟨y, hy⟩ : ∃ y, cst d q (z.drop (k + 1)) = y := ⟨_, rfl⟩
      rw [hx] at r4 b1 HTight
      rw [hy] at s4 b2 HTight
      have hw2 : IntKind.i64.wrap (1000 + (y : Int)) = 1000 + (y : Int) := IntWalk.i64_in _ ⟨by omega, by omega⟩
      rw [Addr.add_succ'] at s1
      clear r3 s3 hx hy hkz
      rcases hb : remTo d z p k k with _ | _
      · have HE : Hid (Own w0 wr (eBools (wv gp (m + 1)) (bF (m + 1) (remTo d z p (k + 1))) :: es) fsb) := by
          have h2 : bF (m + 1) (remTo d z p (k + 1)) = bF (m + 1) (remTo d z p k) := bF_congr fun j _ => by
            by_cases ht : rem d z q k
            · rw [HRk.out true ⟨fun _ => ht, fun _ => rfl⟩ j, hb]; simp
            · rw [HRk.out false ⟨fun h => (by cases h), fun h => absurd h ht⟩ j, hb]; simp
          rw [h2]; exact HS.out
        rw [hb] at k1
        clear HS HRk hb
        go_wp2_with fail
        go_quiet (fail)
        go_wp2
        go_roundw
        case rel => exact ⟨k + 1, by omega, by go_num, Lib.hid (Own.drewN HE.out _)⟩
        case measure => simp [intOf]; omega
      · by_cases ht : x = 1000 + y
        · have hxy : ((x : Int) == 1000 + (y : Int)) = true := int_eq (by omega)
          have HE : Hid (∀ n2, Own w0 ((wr.drewN n2).setCell ⟨gp, k + 1, none⟩ (.bool true)) (eBools (wv gp (m + 1)) (bF (m + 1) (remTo d z p (k + 1))) :: es) fsb) := fun n2 => by
            have h1 := own_bools_set (HS.out.drewN n2) (bF_length _ _) (k + 1) true
            rwa [bF_upd (m + 1) _ (remTo d z p (k + 1)) (k + 1) (fun j _ => by rw [HRk.out true ⟨fun _ => HTight.out.2 ht, fun _ => rfl⟩ j, hb]; simp)] at h1
          rw [hb] at k1
          clear HS HRk hb ht
          go_wp2_with fail
          go_quiet (fail)
          go_wp2
          go_roundw
          case rel => exact ⟨k + 1, by omega, by go_num, Lib.hid (HE.out _)⟩
          case measure => simp [intOf]; omega
        · have hxy : ((x : Int) == 1000 + (y : Int)) = false := int_ne (by omega)
          have hxy2 : ¬ ((x : Int) = 1000 + (y : Int)) := by omega
          have HE : Hid (Own w0 wr (eBools (wv gp (m + 1)) (bF (m + 1) (remTo d z p (k + 1))) :: es) fsb) := by
            have h2 : bF (m + 1) (remTo d z p (k + 1)) = bF (m + 1) (remTo d z p k) := bF_congr fun j _ => by
              rw [HRk.out false ⟨fun h => (by cases h), fun h => absurd (HTight.out.1 h) ht⟩ j, hb]; simp
            rw [h2]; exact HS.out
          rw [hb] at k1
          clear HS HRk hb ht
          go_wp2_with fail
          go_quiet (fail)
          go_wp2
          go_roundw
          case rel => exact ⟨k + 1, by omega, by go_num, Lib.hid (Own.drewN HE.out _)⟩
          case measure => simp [intOf]; omega
    · obtain rfl : k = m := by omega
      have e1 : ¬ (k : Int) < (k : Int) := by omega
      have HE : Hid (Own w0 wr (eBools (wv gp (k + 1)) (bF (k + 1) (onB d z p)) :: es) fs) := by
        have h1 := HS.out
        rw [bF_congr fun j hj => (show remTo d z p k j = onB d z p j by rw [← HM.out]; exact remTo_all j (by rw [HM.out]; omega))] at h1
        exact h1.weak (fun e he => by rw [HFsb.out]; exact List.mem_cons_of_mem _ he)
      clear HS
      go_wp2
      go_end0
      exact ⟨rfl, HE.out⟩
/-! ### behind -/
/-- What behind has found when it has looked at the first k places, and at place k for letters that are put in. -/
noncomputable def midB (d : Aut) (z p : List Int) (a k : Nat) (b : Bool) : Nat → Bool := fun j => if j = k ∧ b = true then true else behB d z p a k j
set_option linter.unusedSimpArgs false in
set_option maxRecDepth 100000 in
set_option maxHeartbeats 4000000 in
theorem mbehind_any (L s : Int) (A : Option Addr) (n c : Nat) (F : Option Addr) (nf cf : Nat) (Z : Option Addr) (m cz : Nat) (T : Option Addr) (ct : Nat) (d : Aut) (z p : List Int) (P : Option Addr) (cp q a : Nat) (w : World) (gd : Df.Good d) (hn : d.next.length = n) (hm : z.length = m) (hz : m ≤ 80)
    (h : MenIs w w.heap.size L s A c F cf Z cz T ct d z) (hp : Word d.L p) (hq : runA d d.s.toNat p = q) (ha : (a : Int) < d.L) (hP : BoolsAt w w.heap.size P (bF (m + 1) (onB d z p))) :
    Calls Try.prog 34 #[menV L s A n c F nf cf Z m cz T ct, .slice P (m + 1) cp, .int .i64 (q : Int), .int .i64 (a : Int)] w fun e w' => Hid (∃ g, e = .returned (wv g (m + 1)) ∧ Own w w' [eBools (wv g (m + 1)) (bF (m + 1) (mkB d z (p ++ [(a : Int)])))] []) := by
  obtain ⟨w1, hw1, hB1, hX, hM⟩ := box_men (n := n) (nf := nf) (m := m) w h
  obtain ⟨adt, ar, cr, rfl, _, _, hcells⟩ := men_cells gd hn hm hM.rows
  have hqn : q < n := by rw [← hq, ← hn]; exact gd.run_lt hp gd.s_lt
  obtain ⟨r, g1, _, g2, g3, g4⟩ := gd.at_ (q := q) (a := a) (by rw [hn]; exact hqn) ha
  rw [hn] at g4
  obtain ⟨ada, Ar, crw, rfl, _, hrc, hrl, _, hri⟩ := hM.dfa.rows _ _ g1
  obtain ⟨adr, rfl, _, hrcell, hrlt⟩ := hri.get g3
  have HC := Lib.hid hcells
  have HW := Lib.hid hw1
  have HB := Lib.hid hB1
  have HX := Lib.hid hX
  have HZ := Lib.hid hM.word
  have HP := Lib.hid hp
  have HQ := Lib.hid hq
  have HM := Lib.hid hm
  have hP1 := hP.on hB1
  have HPl := Lib.hid hP1
  have HMk := Lib.hid fun (x : Int) (W : World) => making_any x (a : Int) W
  obtain ⟨t, ht⟩ : ∃ t, Df.step d q a = t := ⟨_, rfl⟩
  have HIn : Hid (∀ k, ins d z q a k ↔ cst d q (z.drop k) = 1001 + cst d t (z.drop k)) := fun k => by unfold ins; rw [ht]
  have HPu : Hid (∀ k x, put d z q a k x ↔ cst d q (z.drop k) = mk x (a : Int) + cst d t (z.drop (k + 1))) := fun k x => by unfold put; rw [ht]
  rw [ht] at hrcell g4
  have hc2 := hX.c2
  rw [hw1] at hc2 hrc hrcell
  have hra : (a : Int) < (r.length : Int) := by omega
  have hqn2 : (q : Int) < (n : Int) := by omega
  clear hP hP1 hX hB1 hw1 hp hq hm h hM hcells hri g1 g2 g3 gd hn ht ha
  generalize r.length = rl at *
  go_enter Try.func34, Try.ntmps34
  go_wp2_with (at_make; rw [← HW.out]; refine mk_bools rfl _ _ rfl (m + 1) rfl rfl (by omega) ?_)
  intro w2 ho
  obtain ⟨g, hg⟩ : ∃ g, w1.heap.size = g := ⟨_, rfl⟩
  have HS0 : Hid (Own w1 w2 [eBools (wv g (m + 1)) (bF (m + 1) (behB d z p a 0))] []) := by
    rw [bF_congr fun j _ => behB_zero d z p a j, bF_false, ← hg]; exact ho
  rw [hg]
  clear ho hg hc2 hrc hrcell HW
  go_wp2
  go_loopw [27] (fun i wr => ∃ k : Nat, k ≤ m + 1 ∧ i = .int .i64 k ∧ Hid (Own w1 wr [eBools (wv g (m + 1)) (bF (m + 1) (behB d z p a k))] [])) (fun i _ => m + 1 - (intOf i).toNat)
  case atStart => exact ⟨0, by omega, rfl, HS0⟩
  case round =>
    clear HS0
    obtain ⟨k, hk, rfl, HS⟩ := hrel
    by_cases hlt : k < m + 1
    · have e2 : (k : Int) < (m : Int) + 1 := by omega
      obtain ⟨adp, rfl, _, hpc, _⟩ := (HPl.out.on HS.out.below).at_ (bF_get (onB d z p) hlt)
      obtain ⟨r1, r2, r3⟩ := HC.out wr HS.out.below k (by omega)
      have r4 := r3 q hqn
      have r5 := r3 t g4
      have hc5 := (HX.out.on HS.out.below).c5
      obtain ⟨_, k4⟩ := own_bools_cell HS.out (List.mem_append_left _ List.mem_cons_self) (bF_length _ _) (bF_get (behB d z p a k) hlt)
      have b1 := cst_never d q (z.drop k)
      have b2 := cst_never d t (z.drop k)
      have HI := Lib.hid (HIn.out k)
      obtain ⟨x, hx⟩ : ∃ x, cst d q (z.drop k) = x := ⟨_, rfl⟩
      obtain ⟨y, hy⟩ : ∃ y, cst d t (z.drop k) = y := ⟨_, rfl⟩
      rw [hx] at r4 b1 HI
      rw [hy] at r5 b2 HI
      have HXx := Lib.hid hx
      have hw2 : IntKind.i64.wrap (1001 + (y : Int)) = 1001 + (y : Int) := IntWalk.i64_in _ ⟨by omega, by omega⟩
      clear r3 hx hy
      rcases hb : onB d z p k with _ | _
      · have HE : Hid (Own w1 wr [eBools (wv g (m + 1)) (bF (m + 1) (behB d z p a (k + 1)))] []) := by
          have h2 : bF (m + 1) (behB d z p a (k + 1)) = bF (m + 1) (behB d z p a k) := bF_congr fun j _ => behB_skip (fun h => by rw [onB_iff.2 h] at hb; cases hb) j
          rw [h2]; exact HS.out
        rw [hb] at hpc
        clear HS hb
        go_wp2
        go_roundw
        case rel => exact ⟨k + 1, by omega, by go_num, HE⟩
        case measure => simp [intOf]; omega
      · rw [hb] at hpc
        have HOn : Hid (On d z p k) := onB_iff.1 hb
        clear hb
        have HNx : Hid (∀ b c : Bool, (b = true ↔ x = 1001 + y) → (c = true ↔ ∃ hi : k < z.length, put d z q a k z[k]) → ∀ j, behB d z p a (k + 1) j = if j = k + 1 ∧ c = true then true else midB d z p a k b j) := fun b c hb hc j => by
          have := behB_next (a := a) HOn.out b c (by rw [HQ.out, HI.out]; exact hb) (by rw [HQ.out]; exact hc) j
          exact this
        -- a letter that is put in
        have HO5 : Hid (∀ b : Bool, (b = true ↔ x = 1001 + y) → ∀ n2, Own w1 (if b = true then (wr.drewN n2).setCell ⟨g, k, none⟩ (.bool true) else wr.drewN n2) [eBools (wv g (m + 1)) (bF (m + 1) (midB d z p a k b))] []) := fun b hb n2 => by
          rcases b with _ | _
          · rw [if_neg (by decide)]
            have h2 : bF (m + 1) (midB d z p a k false) = bF (m + 1) (behB d z p a k) := bF_congr fun j _ => by unfold midB; simp
            rw [h2]; exact HS.out.drewN n2
          · rw [if_pos rfl]
            have h1 := own_bools_set (HS.out.drewN n2) (bF_length _ _) k true
            rwa [bF_upd (m + 1) _ (midB d z p a k true) k (fun j _ => by unfold midB; simp)] at h1
        by_cases hin : x = 1001 + y
        · have hxy : ((x : Int) == 1001 + (y : Int)) = true := int_eq (by omega)
          have HXo := Lib.hid (HO5.out true ⟨fun _ => hin, fun _ => rfl⟩)
          have HNx : Hid (∀ c : Bool, (c = true ↔ ∃ hi : k < z.length, put d z q a k z[k]) → ∀ j, behB d z p a (k + 1) j = if j = k + 1 ∧ c = true then true else midB d z p a k true j) := fun c hc j => HNx.out true c ⟨fun _ => hin, fun _ => rfl⟩ hc j
          clear HS HO5 hin
          go_wp2_with fail
          go_quiet (fail)
          go_wp2_with fail
          obtain ⟨w5, hw5⟩ : ∃ w5, w5 = (wr.drewN nq).setCell ⟨g, k, none⟩ (.bool true) := ⟨_, rfl⟩
          have HO5 : Hid (Own w1 ((wr.drewN nq).setCell ⟨g, k, none⟩ (.bool true)) [eBools (wv g (m + 1)) (bF (m + 1) (midB d z p a k true))] []) := HXo.out nq
          rw [← hw5] at HO5 ⊢
          clear hw5 hxy
          clear hpc r1 r2 r4 r5 hc5 k4 hw2 HXo HI HOn
          by_cases hkm : k < m
          · have hkz : k < z.length := by rw [HM.out]; exact hkm
            obtain ⟨s1, s2, s3⟩ := HC.out w5 HO5.out.below (k + 1) (by omega)
            obtain ⟨u1, u2, u3⟩ := HC.out w5 HO5.out.below k (by omega)
            have s4 := s3 t g4
            have u4 := u3 q hqn
            obtain ⟨adz, rfl, _, hzc, _⟩ := (HZ.out.on HO5.out.below).get (List.getElem?_eq_getElem hkz)
            have hc4 := (HX.out.on HO5.out.below).c4
            have hc5 := (HX.out.on HO5.out.below).c5
            obtain ⟨_, k5⟩ := own_bools_cell HO5.out (List.mem_append_left _ List.mem_cons_self) (bF_length _ _) (bF_get (midB d z p a k true) (show k + 1 < m + 1 by omega))
            have HP2 := Lib.hid (HPu.out k z[k])
            have HMz := Lib.hid (HMk.out z[k])
            have HN2 : Hid (∀ c : Bool, (c = true ↔ put d z q a k z[k]) → ∀ j, behB d z p a (k + 1) j = if j = k + 1 ∧ c = true then true else midB d z p a k true j) := fun c hc j => HNx.out c ⟨fun h => ⟨hkz, hc.1 h⟩, fun ⟨_, h⟩ => hc.2 h⟩ j
            have b3 := cst_never d t (z.drop (k + 1))
            have b4 : mk z[k] (a : Int) ≤ 1001 := by unfold mk neq; split <;> omega
            rw [HXx.out] at u4 HP2
            obtain ⟨y2, hy2⟩ : ∃ y2, cst d t (z.drop (k + 1)) = y2 := ⟨_, rfl⟩
            rw [hy2] at s4 HP2 b3
            obtain ⟨mz, hmz⟩ : ∃ mz, mk z[k] (a : Int) = mz := ⟨_, rfl⟩
            rw [hmz] at HP2 HMz b4
            clear s3 u3 HNx hy2 hmz
            generalize z[k] = zk at *
            have e3 : (k : Int) < (m : Int) := by omega
            have e4 : (k : Int) + 1 < (m : Int) + 1 := by omega
            have e5 : (0 : Int) ≤ (k : Int) + 1 := by omega
            have hw1 : IntKind.i64.wrap ((k : Int) + 1) = (k : Int) + 1 := IntWalk.i64_in _ ⟨by omega, by omega⟩
            have hw3 : IntKind.i64.wrap ((mz : Int) + (y2 : Int)) = (mz : Int) + (y2 : Int) := IntWalk.i64_in _ ⟨by omega, by omega⟩
            rw [Addr.add_succ'] at s1
            by_cases hpt : x = mz + y2
            · have hxz : ((x : Int) == (mz : Int) + (y2 : Int)) = true := int_eq (by omega)
              have HE : Hid (∀ n2, Own w1 ((w5.drewN n2).setCell ⟨g, k + 1, none⟩ (.bool true)) [eBools (wv g (m + 1)) (bF (m + 1) (behB d z p a (k + 1)))] []) := fun n2 => by
                have h1 := own_bools_set (HO5.out.drewN n2) (bF_length _ _) (k + 1) true
                rwa [bF_upd (m + 1) _ (behB d z p a (k + 1)) (k + 1) (fun j _ => by rw [HN2.out true ⟨fun _ => HP2.out.2 hpt, fun _ => rfl⟩ j]; simp)] at h1
              clear HO5 HN2 hpt
              go_wp2_with fail
              go_quiet ((go_at_call 46; first | with_reducible exact Calls.quiet_of_same (HMz.out _)))
              go_wp2
              go_roundw
              case rel => exact ⟨k + 1, by omega, by go_num, Lib.hid (HE.out _)⟩
              case measure => simp [intOf]; omega
            · have hxz : ((x : Int) == (mz : Int) + (y2 : Int)) = false := int_ne (by omega)
              have HE : Hid (Own w1 w5 [eBools (wv g (m + 1)) (bF (m + 1) (behB d z p a (k + 1)))] []) := by
                have h2 : bF (m + 1) (behB d z p a (k + 1)) = bF (m + 1) (midB d z p a k true) := bF_congr fun j _ => by
                  rw [HN2.out false ⟨fun h => (by cases h), fun h => absurd (HP2.out.1 h) hpt⟩ j]; simp
                rw [h2]; exact HO5.out
              clear HO5 HN2 hpt
              go_wp2_with fail
              go_quiet ((go_at_call 46; first | with_reducible exact Calls.quiet_of_same (HMz.out _)))
              go_wp2
              go_roundw
              case rel => exact ⟨k + 1, by omega, by go_num, Lib.hid (Own.drewN HE.out _)⟩
              case measure => simp [intOf]; omega
          · obtain rfl : k = m := by omega
            have e3 : ¬ (k : Int) < (k : Int) := by omega
            have hc4 := (HX.out.on HO5.out.below).c4
            have HE : Hid (Own w1 w5 [eBools (wv g (k + 1)) (bF (k + 1) (behB d z p a (k + 1)))] []) := by
              have h2 : bF (k + 1) (behB d z p a (k + 1)) = bF (k + 1) (midB d z p a k true) := bF_congr fun j _ => by
                rw [HNx.out false ⟨fun h => (by cases h), fun ⟨h, _⟩ => absurd h (by rw [HM.out]; omega)⟩ j]; simp
              rw [h2]; exact HO5.out
            clear HO5 HNx
            go_wp2_with fail
            go_quiet (fail)
            go_wp2
            go_roundw
            case rel => exact ⟨k + 1, by omega, by go_num, Lib.hid (Own.drewN HE.out _)⟩
            case measure => simp [intOf]
        · have hxy : ((x : Int) == 1001 + (y : Int)) = false := int_ne (by omega)
          have HXo := Lib.hid (HO5.out false ⟨fun h => (by cases h), fun h => absurd h hin⟩)
          have HNx : Hid (∀ c : Bool, (c = true ↔ ∃ hi : k < z.length, put d z q a k z[k]) → ∀ j, behB d z p a (k + 1) j = if j = k + 1 ∧ c = true then true else midB d z p a k false j) := fun c hc j => HNx.out false c ⟨fun h => (by cases h), fun h => absurd h hin⟩ hc j
          clear HS HO5 hin
          go_wp2_with fail
          go_quiet (fail)
          go_wp2_with fail
          obtain ⟨w5, hw5⟩ : ∃ w5, w5 = wr.drewN nq := ⟨_, rfl⟩
          have HO5 : Hid (Own w1 (wr.drewN nq) [eBools (wv g (m + 1)) (bF (m + 1) (midB d z p a k false))] []) := HXo.out nq
          rw [← hw5] at HO5 ⊢
          clear hw5 hxy
          clear hpc r1 r2 r4 r5 hc5 k4 hw2 HXo HI HOn
          by_cases hkm : k < m
          · have hkz : k < z.length := by rw [HM.out]; exact hkm
            obtain ⟨s1, s2, s3⟩ := HC.out w5 HO5.out.below (k + 1) (by omega)
            obtain ⟨u1, u2, u3⟩ := HC.out w5 HO5.out.below k (by omega)
            have s4 := s3 t g4
            have u4 := u3 q hqn
            obtain ⟨adz, rfl, _, hzc, _⟩ := (HZ.out.on HO5.out.below).get (List.getElem?_eq_getElem hkz)
            have hc4 := (HX.out.on HO5.out.below).c4
            have hc5 := (HX.out.on HO5.out.below).c5
            obtain ⟨_, k5⟩ := own_bools_cell HO5.out (List.mem_append_left _ List.mem_cons_self) (bF_length _ _) (bF_get (midB d z p a k false) (show k + 1 < m + 1 by omega))
            have HP2 := Lib.hid (HPu.out k z[k])
            have HMz := Lib.hid (HMk.out z[k])
            have HN2 : Hid (∀ c : Bool, (c = true ↔ put d z q a k z[k]) → ∀ j, behB d z p a (k + 1) j = if j = k + 1 ∧ c = true then true else midB d z p a k false j) := fun c hc j => HNx.out c ⟨fun h => ⟨hkz, hc.1 h⟩, fun ⟨_, h⟩ => hc.2 h⟩ j
            have b3 := cst_never d t (z.drop (k + 1))
            have b4 : mk z[k] (a : Int) ≤ 1001 := by unfold mk neq; split <;> omega
            rw [HXx.out] at u4 HP2
            obtain ⟨y2, hy2⟩ : ∃ y2, cst d t (z.drop (k + 1)) = y2 := ⟨_, rfl⟩
            rw [hy2] at s4 HP2 b3
            obtain ⟨mz, hmz⟩ : ∃ mz, mk z[k] (a : Int) = mz := ⟨_, rfl⟩
            rw [hmz] at HP2 HMz b4
            clear s3 u3 HNx hy2 hmz
            generalize z[k] = zk at *
            have e3 : (k : Int) < (m : Int) := by omega
            have e4 : (k : Int) + 1 < (m : Int) + 1 := by omega
            have e5 : (0 : Int) ≤ (k : Int) + 1 := by omega
            have hw1 : IntKind.i64.wrap ((k : Int) + 1) = (k : Int) + 1 := IntWalk.i64_in _ ⟨by omega, by omega⟩
            have hw3 : IntKind.i64.wrap ((mz : Int) + (y2 : Int)) = (mz : Int) + (y2 : Int) := IntWalk.i64_in _ ⟨by omega, by omega⟩
            rw [Addr.add_succ'] at s1
            by_cases hpt : x = mz + y2
            · have hxz : ((x : Int) == (mz : Int) + (y2 : Int)) = true := int_eq (by omega)
              have HE : Hid (∀ n2, Own w1 ((w5.drewN n2).setCell ⟨g, k + 1, none⟩ (.bool true)) [eBools (wv g (m + 1)) (bF (m + 1) (behB d z p a (k + 1)))] []) := fun n2 => by
                have h1 := own_bools_set (HO5.out.drewN n2) (bF_length _ _) (k + 1) true
                rwa [bF_upd (m + 1) _ (behB d z p a (k + 1)) (k + 1) (fun j _ => by rw [HN2.out true ⟨fun _ => HP2.out.2 hpt, fun _ => rfl⟩ j]; simp)] at h1
              clear HO5 HN2 hpt
              go_wp2_with fail
              go_quiet ((go_at_call 46; first | with_reducible exact Calls.quiet_of_same (HMz.out _)))
              go_wp2
              go_roundw
              case rel => exact ⟨k + 1, by omega, by go_num, Lib.hid (HE.out _)⟩
              case measure => simp [intOf]; omega
            · have hxz : ((x : Int) == (mz : Int) + (y2 : Int)) = false := int_ne (by omega)
              have HE : Hid (Own w1 w5 [eBools (wv g (m + 1)) (bF (m + 1) (behB d z p a (k + 1)))] []) := by
                have h2 : bF (m + 1) (behB d z p a (k + 1)) = bF (m + 1) (midB d z p a k false) := bF_congr fun j _ => by
                  rw [HN2.out false ⟨fun h => (by cases h), fun h => absurd (HP2.out.1 h) hpt⟩ j]; simp
                rw [h2]; exact HO5.out
              clear HO5 HN2 hpt
              go_wp2_with fail
              go_quiet ((go_at_call 46; first | with_reducible exact Calls.quiet_of_same (HMz.out _)))
              go_wp2
              go_roundw
              case rel => exact ⟨k + 1, by omega, by go_num, Lib.hid (Own.drewN HE.out _)⟩
              case measure => simp [intOf]; omega
          · obtain rfl : k = m := by omega
            have e3 : ¬ (k : Int) < (k : Int) := by omega
            have hc4 := (HX.out.on HO5.out.below).c4
            have HE : Hid (Own w1 w5 [eBools (wv g (k + 1)) (bF (k + 1) (behB d z p a (k + 1)))] []) := by
              have h2 : bF (k + 1) (behB d z p a (k + 1)) = bF (k + 1) (midB d z p a k false) := bF_congr fun j _ => by
                rw [HNx.out false ⟨fun h => (by cases h), fun ⟨h, _⟩ => absurd h (by rw [HM.out]; omega)⟩ j]; simp
              rw [h2]; exact HO5.out
            clear HO5 HNx
            go_wp2_with fail
            go_quiet (fail)
            go_wp2
            go_roundw
            case rel => exact ⟨k + 1, by omega, by go_num, Lib.hid (Own.drewN HE.out _)⟩
            case measure => simp [intOf]
    · obtain rfl : k = m + 1 := by omega
      have e2 : ¬ ((m : Int) + 1 < (m : Int) + 1) := by omega
      have HE : Hid (Own w wr [eBools (wv g (m + 1)) (bF (m + 1) (mkB d z (p ++ [(a : Int)])))] []) := by
        have h := HS.out.base HB.out
        rwa [bF_congr fun j _ => (show behB d z p a (m + 1) j = mkB d z (p ++ [(a : Int)]) j by rw [← HM.out]; exact behB_all j)] at h
      clear HS
      go_wp2
      go_ret
      exact ⟨g, rfl, HE.out⟩
end Go.Proofs.Ytfiknbdpjnpkdaa.Me
