/- The walks of package mend's mender: what it knows, and the first word. -/
import Derived.Test.YtfiknbdpjnpkdaaDoorMendC
import Derived.BigQuiet
import Derived.Deep.QuietTactic
namespace Go.Proofs.YtfiknbdpjnpkdaaDoor.Me
open Go.RowKit Go.IntWalk Go.Proofs.YtfiknbdpjnpkdaaDoor.Wd Go.Proofs.YtfiknbdpjnpkdaaDoor.Wo Go.Proofs.YtfiknbdpjnpkdaaDoor.Df Go.Proofs.YtfiknbdpjnpkdaaDoor.Rc Go.Proofs.YtfiknbdpjnpkdaaDoor.Ne

/-- What reads as a mender. -/
structure MenIs (w : World) (B : Nat) (L s : Int) (A : Option Addr) (c : Nat) (F : Option Addr) (cf : Nat) (Z : Option Addr) (cz : Nat) (T : Option Addr) (ct : Nat) (d : Aut) (z : List Int) : Prop where
  dfa : DfaIs w B L s A c F cf d
  word : IntsAt w B Z z
  rows : RowsAt w B T (rowsOf d d.next.length z)
abbrev menV (L s : Int) (A : Option Addr) (n c : Nat) (F : Option Addr) (nf cf : Nat) (Z : Option Addr) (m cz : Nat) (T : Option Addr) (ct : Nat) : Value :=
  .agg #[.int .i64 L, .int .i64 s, .slice A n c, .slice F nf cf, .slice Z m cz, .slice T (m + 1) ct]
section
variable {w w' : World} {L s : Int} {A F Z T : Option Addr} {c cf cz ct : Nat} {d : Aut} {z : List Int}
theorem MenIs.on (h : MenIs w w.heap.size L s A c F cf Z cz T ct d z) (hb : Below w.heap.size w w') : MenIs w' w'.heap.size L s A c F cf Z cz T ct d z := ⟨h.dfa.on hb, h.word.on hb, h.rows.on hb⟩
end
/-- The block in which a mender lies. -/
structure BoxM (w1 : World) (g : Nat) (L s : Int) (A : Option Addr) (n c : Nat) (F : Option Addr) (nf cf : Nat) (Z : Option Addr) (m cz : Nat) (T : Option Addr) (ct : Nat) : Prop where
  lt : g < w1.heap.size
  c0 : w1.cell? ⟨g, 0, none⟩ = some (.int .i64 L)
  c1 : w1.cell? ⟨g, 1, none⟩ = some (.int .i64 s)
  c2 : w1.cell? ⟨g, 2, none⟩ = some (.slice A n c)
  c3 : w1.cell? ⟨g, 3, none⟩ = some (.slice F nf cf)
  c4 : w1.cell? ⟨g, 4, none⟩ = some (.slice Z m cz)
  c5 : w1.cell? ⟨g, 5, none⟩ = some (.slice T (m + 1) ct)
section
variable {w1 w2 : World} {g : Nat} {L s : Int} {A F Z T : Option Addr} {n nf m c cf cz ct : Nat}
theorem BoxM.on (h : BoxM w1 g L s A n c F nf cf Z m cz T ct) (hb : Below w1.heap.size w1 w2) : BoxM w2 g L s A n c F nf cf Z m cz T ct :=
  ⟨Nat.lt_of_lt_of_le h.lt hb.size, (hb.cell h.lt).trans h.c0, (hb.cell h.lt).trans h.c1, (hb.cell h.lt).trans h.c2, (hb.cell h.lt).trans h.c3, (hb.cell h.lt).trans h.c4, (hb.cell h.lt).trans h.c5⟩
end
theorem box_men (w : World) {L s : Int} {A F Z T : Option Addr} {n nf m c cf cz ct : Nat} {d : Aut} {z : List Int} (h : MenIs w w.heap.size L s A c F cf Z cz T ct d z) :
    ∃ w1, w1 = w.alloc (.cells #[.int .i64 L, .int .i64 s, .slice A n c, .slice F nf cf, .slice Z m cz, .slice T (m + 1) ct] 56) ∧ Below w.heap.size w w1 ∧ BoxM w1 w.heap.size L s A n c F nf cf Z m cz T ct ∧ MenIs w1 w1.heap.size L s A c F cf Z cz T ct d z :=
  ⟨_, rfl, below_alloc _ _, ⟨by simp, box_cell w _ _ 0, box_cell w _ _ 1, box_cell w _ _ 2, box_cell w _ _ 3, box_cell w _ _ 4, box_cell w _ _ 5⟩, h.on (below_alloc _ _)⟩
/-- A cost of the table. -/
theorem men_at {w : World} {B : Nat} {T : Option Addr} {d : Aut} {z : List Int} (h : RowsAt w B T (rowsOf d d.next.length z)) {i : Nat} (hi : i ≤ z.length) :
    ∃ ad ar cr, T = some ad ∧ ad.block < B ∧ w.cell? (ad.add i) = some (.slice ar d.next.length cr) ∧ d.next.length ≤ cr ∧ ∀ q, q < d.next.length → ∃ ad', ar = some ad' ∧ ad'.block < B ∧ w.cell? (ad'.add q) = some (.int .i64 ((cst d q (z.drop i) : Nat) : Int)) := by
  obtain ⟨ad, ar, cr, e, h1, h2, h3, _, h5⟩ := h i _ (rowsOf_at d d.next.length z i hi)
  rw [cF_length] at h2 h3
  refine ⟨ad, ar, cr, e, h1, h2, h3, fun q hq => ?_⟩
  obtain ⟨ad', e', k1, k2, _⟩ := h5.get (cF_get _ hq)
  exact ⟨ad', e', k1, k2⟩
theorem addr_zero (a : Addr) : a.add 0 = a := by
  unfold Addr.add
  split <;> simp_all
set_option maxRecDepth 100000 in
set_option maxHeartbeats 2000000 in
theorem letters_any (L s : Int) (A : Option Addr) (n c : Nat) (F : Option Addr) (nf cf : Nat) (Z : Option Addr) (m cz : Nat) (T : Option Addr) (ct : Nat) (d : Aut) (z : List Int) (w : World) (gd : Df.Good d) (hn : d.next.length = n) (hm : z.length = m) (h : MenIs w w.heap.size L s A c F cf Z cz T ct d z) :
    Calls Tryd.prog 27 #[menV L s A n c F nf cf Z m cz T ct] w fun e w' => Hid (e = .returned (.int .i64 (((cst d d.s.toNat z) % 1000 : Nat) : Int))) ∧ Below w.heap.size w w' := by
  obtain ⟨w1, hw1, hB1, hX, hM⟩ := box_men (n := n) (nf := nf) (m := m) w h
  have HB := Lib.hid hB1
  have HW := Lib.hid hw1
  have hc1 := hX.c1
  have hc5 := hX.c5
  have hs := gd.s_eq
  rw [h.dfa.es] at hs
  obtain ⟨adt, ar, cr, rfl, _, hr1, hr2, hr3⟩ := men_at hM.rows (i := 0) (by omega)
  rw [hn] at hr1 hr2 hr3
  rw [addr_zero] at hr1
  have hlt := gd.s_lt
  rw [h.dfa.es, hn] at hlt
  obtain ⟨adr, rfl, _, hr4⟩ := hr3 s.toNat hlt
  rw [List.drop_zero] at hr4
  rw [h.dfa.es]
  have hcs := cst_never d s.toNat z
  obtain ⟨x, hx⟩ : ∃ x, cst d s.toNat z = x := ⟨_, rfl⟩
  rw [hx] at hr4 hcs
  rw [hx]
  obtain ⟨q, hq⟩ : ∃ q, s.toNat = q := ⟨_, rfl⟩
  rw [hq] at hs hlt hr4
  subst hs
  clear hX hw1 hM h gd hn hr3 hB1 hx hq hm
  go_enter Tryd.func27, Tryd.ntmps27
  go_wp2_with fail
  rw [← HW.out]
  go_quiet (fail)
  go_wp2
  go_ret
  exact ⟨rfl, below_drewN HB.out _⟩
set_option maxRecDepth 100000 in
set_option maxHeartbeats 2000000 in
theorem edits_any (L s : Int) (A : Option Addr) (n c : Nat) (F : Option Addr) (nf cf : Nat) (Z : Option Addr) (m cz : Nat) (T : Option Addr) (ct : Nat) (d : Aut) (z : List Int) (w : World) (gd : Df.Good d) (hn : d.next.length = n) (hm : z.length = m) (h : MenIs w w.heap.size L s A c F cf Z cz T ct d z) :
    Calls Tryd.prog 25 #[menV L s A n c F nf cf Z m cz T ct] w fun e w' => Hid (e = .returned (.int .i64 (((cst d d.s.toNat z) / 1000 : Nat) : Int))) ∧ Below w.heap.size w w' := by
  obtain ⟨w1, hw1, hB1, hX, hM⟩ := box_men (n := n) (nf := nf) (m := m) w h
  have HB := Lib.hid hB1
  have HW := Lib.hid hw1
  have hc1 := hX.c1
  have hc5 := hX.c5
  have hs := gd.s_eq
  rw [h.dfa.es] at hs
  obtain ⟨adt, ar, cr, rfl, _, hr1, hr2, hr3⟩ := men_at hM.rows (i := 0) (by omega)
  rw [hn] at hr1 hr2 hr3
  rw [addr_zero] at hr1
  have hlt := gd.s_lt
  rw [h.dfa.es, hn] at hlt
  obtain ⟨adr, rfl, _, hr4⟩ := hr3 s.toNat hlt
  rw [List.drop_zero] at hr4
  rw [h.dfa.es]
  have hcs := cst_never d s.toNat z
  obtain ⟨x, hx⟩ : ∃ x, cst d s.toNat z = x := ⟨_, rfl⟩
  rw [hx] at hr4 hcs
  rw [hx]
  obtain ⟨q, hq⟩ : ∃ q, s.toNat = q := ⟨_, rfl⟩
  rw [hq] at hs hlt hr4
  subst hs
  clear hX hw1 hM h gd hn hr3 hB1 hx hq hm
  go_enter Tryd.func25, Tryd.ntmps25
  go_wp2_with fail
  rw [← HW.out]
  go_quiet (fail)
  go_wp2
  go_ret
  exact ⟨rfl, below_drewN HB.out _⟩
/-- The table's cells, wherever it still lies. -/
theorem men_cells {w1 : World} {T : Option Addr} {d : Aut} {z : List Int} {n m : Nat} (gd : Df.Good d) (hn : d.next.length = n) (hm : z.length = m) (h : RowsAt w1 w1.heap.size T (rowsOf d d.next.length z)) :
    ∃ (adt : Addr) (ar : Nat → Addr) (cr : Nat → Nat), T = some adt ∧ adt.block < w1.heap.size ∧ (∀ i, i ≤ m → (ar i).block < w1.heap.size) ∧ ∀ W, Below w1.heap.size w1 W → ∀ i, i ≤ m → W.cell? (adt.add i) = some (.slice (some (ar i)) n (cr i)) ∧ n ≤ cr i ∧ ∀ q, q < n → W.cell? ((ar i).add q) = some (.int .i64 ((cst d q (z.drop i) : Nat) : Int)) := by
  have hn1 := gd.n1
  rw [hn] at hn1
  have key : ∀ i, ∃ (p : Addr × Nat), i ≤ m → p.1.block < w1.heap.size ∧ ∃ adt, T = some adt ∧ adt.block < w1.heap.size ∧ ∀ W, Below w1.heap.size w1 W → W.cell? (adt.add i) = some (.slice (some p.1) n p.2) ∧ n ≤ p.2 ∧ ∀ q, q < n → W.cell? (p.1.add q) = some (.int .i64 ((cst d q (z.drop i) : Nat) : Int)) := by
    intro i
    by_cases hi : i ≤ m
    · obtain ⟨adt, ar, cr, e, h1, h2, h3, h4⟩ := men_at h (i := i) (by omega)
      rw [hn] at h2 h3 h4
      obtain ⟨ad', e', hb, _⟩ := h4 0 (by omega)
      subst e'
      refine ⟨(ad', cr), fun _ => ⟨hb, adt, e, h1, fun W hW => ⟨(hW.cell (p := adt.add i) (by rw [Wd.block_add]; exact h1)).trans h2, h3, fun q hq => ?_⟩⟩⟩
      obtain ⟨ad2, e2, k1, k2⟩ := h4 q hq
      obtain rfl := Option.some.inj e2
      exact (hW.cell (p := ad'.add q) (by rw [Wd.block_add]; exact k1)).trans k2
    · exact ⟨(⟨0, 0, none⟩, 0), fun h => absurd h hi⟩
  obtain ⟨_, adt, e, hb, _⟩ := (Classical.choose_spec (key 0)) (by omega)
  refine ⟨adt, fun i => (Classical.choose (key i)).1, fun i => (Classical.choose (key i)).2, e, hb, fun i hi => (Classical.choose_spec (key i) hi).1, fun W hW i hi => ?_⟩
  obtain ⟨_, adt', e', _, hx⟩ := Classical.choose_spec (key i) hi
  obtain rfl := Option.some.inj (e.symm.trans e')
  exact hx W hW
/-! ### slices.Contains at bools -/
theorem take_no {z : List Bool} {k : Nat} (h : true ∉ z.take k) (hk : k < z.length) (he : z[k] = false) : true ∉ z.take (k + 1) := by
  rw [← List.take_append_getElem hk]
  intro h2
  rcases List.mem_append.1 h2 with h2 | h2
  · exact h h2
  · simp at h2; rw [he] at h2; cases h2
set_option maxRecDepth 100000 in
set_option maxHeartbeats 1000000 in
theorem bidx_any (A : Option Addr) (c n : Nat) (z : List Bool) (w : World) (hn : z.length = n) (hA : BoolsAt w w.heap.size A z) (hz : n ≤ 17592186044416) :
    Calls Tryd.prog 58 #[.slice A n c, .bool true] w fun e w' => Hid (∃ r : Int, e = .returned (.int .i64 r) ∧ decide (0 ≤ r) = decide (true ∈ z)) ∧ w = w' := by
  have HA := Lib.hid hA
  have HT : Hid (true ∉ z.take 0) := by simp [Hid]
  have HN := Lib.hid hn
  clear hA hn
  go_enter Tryd.func58, Tryd.ntmps58
  go_wp2
  go_loop [8] (fun j => ∃ (k : Nat), k ≤ n ∧ j = .int .i64 k ∧ Hid (true ∉ z.take k)) (fun j => n - (intOf j).toNat)
  case atStart => exact ⟨0, by omega, rfl, HT⟩
  case round =>
    clear HT
    obtain ⟨k, hk, rfl, HT⟩ := hrel
    by_cases hlt : k < n
    · have hlt' : k < z.length := by rw [HN.out]; exact hlt
      obtain ⟨ad, rfl, hadb, hcell, hs1⟩ := HA.out.at_ (List.getElem?_eq_getElem hlt')
      rcases he : z[k] with _ | _
      · have HN2 := Lib.hid (take_no HT.out hlt' he)
        rw [he] at hcell
        clear he HT
        go_wp2
        go_round
        case rel => exact ⟨k + 1, by omega, by go_num, HN2⟩
        case measure => simp [intOf]; omega
      · have HR : Hid (true ∈ z) := by rw [← he]; exact List.getElem_mem hlt'
        rw [he] at hcell
        clear he HT
        go_wp2
        go_ret
        exact ⟨⟨k, rfl, ⟨fun _ => HR.out, fun _ => by omega⟩⟩, rfl⟩
    · have HR : Hid (true ∉ z) := by
        have h := HT.out
        rwa [List.take_of_length_le (by have := HN.out; omega)] at h
      clear HT
      go_wp2
      go_ret
      exact ⟨⟨-1, rfl, ⟨fun h => absurd h (by decide), fun h => absurd h HR.out⟩⟩, rfl⟩
set_option maxRecDepth 100000 in
theorem bhas_any (A : Option Addr) (c n : Nat) (z : List Bool) (w : World) (hn : z.length = n) (hA : BoolsAt w w.heap.size A z) (hz : n ≤ 17592186044416) {b : Bool} (hb : decide (true ∈ z) = b) :
    Calls Tryd.prog 42 #[.slice A n c, .bool true] w fun e w' => e = .returned (.bool b) ∧ w' = w := by
  have HI := Lib.hid (bidx_any A c n z w hn hA hz)
  rw [hb] at HI
  clear hA hz hb hn
  go_enter Tryd.func42, Tryd.ntmps42
  go_wp2_with fail
  refine HI.out.mono ?_
  rintro e w2 ⟨he, rfl⟩
  obtain ⟨r, rfl, hr⟩ := he.out
  have HR := Lib.hid hr
  clear he HI hr
  go_wp2
  go_ret
  exact ⟨by rw [← HR.out]; rfl, rfl⟩
end Go.Proofs.YtfiknbdpjnpkdaaDoor.Me
