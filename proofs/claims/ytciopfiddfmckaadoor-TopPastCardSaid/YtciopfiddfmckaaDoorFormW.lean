/- The walks of package form: Check. The walk of form.Check. -/
import Derived.Test.YtciopfiddfmckaaDoorNodes
import Derived.Test.YtciopfiddfmckaaDoorWordW
import Derived.Handy

namespace Go.Proofs.YtciopfiddfmckaaDoor.Fm
open Go.RowKit Go.IntWalk Go.Proofs.YtciopfiddfmckaaDoor.Wd Go.Proofs.YtciopfiddfmckaaDoor.Wo

theorem ops_out {k : Int} (h : k < 3 ∨ 9 < k) : ops k = 0 := by unfold ops; rw [if_neg (by omega), if_neg (by omega)]
theorem operands_any (k : Int) (w : World) : Calls Tryd.prog 77 #[.int .i64 k] w fun e w' => e = .returned (.int .i64 (ops k)) ∧ w' = w := by
  by_cases h : k < 3 ∨ 9 < k
  · rw [ops_out h]
    rcases h with h | h
    all_goals
      go_enter Tryd.func77, Tryd.ntmps77
      go_wp2
      go_ret
      exact ⟨rfl, rfl⟩
  · have : k = 3 ∨ k = 4 ∨ k = 5 ∨ k = 6 ∨ k = 7 ∨ k = 8 ∨ k = 9 := by omega
    clear h
    rcases this with rfl | rfl | rfl | rfl | rfl | rfl | rfl
    all_goals
      go_enter Tryd.func77, Tryd.ntmps77
      go_wp2
      go_ret
      exact ⟨rfl, rfl⟩
theorem fits_any (i : Nat) (x : Int) (has : Bool) (p : Addr) (w : World) (hp : w.cell? p = some (.int .i64 i)) :
    Calls Tryd.prog 76 #[.int .i64 x, .bool has, .pointer (some p)] w fun e w' => e = .returned (.bool (fits i x has)) ∧ w' = w := by
  have HR := Lib.hid (rfl : fits i x has = fits i x has)
  rcases has with _ | _
  · have e : fits i x false = (x == 0) := by unfold fits; rw [if_neg (by decide)]; rfl
    rw [e]
    clear HR e
    go_enter Tryd.func76, Tryd.ntmps76
    go_wp2
    go_ret
    exact ⟨rfl, rfl⟩
  · have e : fits i x true = (decide (0 ≤ x) && decide (x < (i : Int))) := by unfold fits; rw [if_pos rfl]
    by_cases h : 0 ≤ x
    · by_cases h2 : x < (i : Int)
      · have HE : fits i x true = true := by rw [e]; simp [h, h2]
        rw [HE]
        clear HR e HE
        go_enter Tryd.func76, Tryd.ntmps76
        go_wp2
        go_ret
        exact ⟨rfl, rfl⟩
      · have HE : fits i x true = false := by rw [e]; simp [h, h2]
        rw [HE]
        clear HR e HE
        go_enter Tryd.func76, Tryd.ntmps76
        go_wp2
        go_ret
        exact ⟨rfl, rfl⟩
    · have HE : fits i x true = false := by rw [e]; simp [h]
      rw [HE]
      clear HR e HE
      go_enter Tryd.func76, Tryd.ntmps76
      go_wp2
      go_ret
      exact ⟨rfl, rfl⟩
set_option maxRecDepth 100000 in
theorem inR_any (L : Int) (n : Nd) (h1 : 1 ≤ L) (h6 : L ≤ 6) (w : World) :
    Calls Tryd.prog 60 #[.int .i64 L, .agg #[.int .i64 n.1, .int .i64 n.2.1, .int .i64 n.2.2]] w fun e w' => e = .returned (.bool (inR L n)) ∧ Below w.heap.size w w' := by
  obtain ⟨k, a, b⟩ := n
  obtain ⟨P, hP1, hP2, hP3, hP4⟩ := shl_lim h1 h6
  show Calls _ _ #[.int .i64 L, .agg #[.int .i64 k, .int .i64 a, .int .i64 b]] _ _
  by_cases hk : k = 2
  · subst hk
    have e : inR L (2, a, b) = (decide (0 ≤ a) && decide (a < P)) := by show (if (2 : Int) = 2 then _ else _) = _; rw [if_pos rfl, hP2]
    rw [e]
    clear e hP2
    have hL0 : 0 ≤ L := by omega
    have hL64 : L ≤ 64 := by omega
    by_cases ha : 0 ≤ a
    · rw [decide_eq_true ha, Bool.true_and]
      by_cases hb : a < P
      · rw [decide_eq_true hb]
        go_enter Tryd.func60, Tryd.ntmps60
        go_wp2_with fail
        go_region
        go_wp2
        go_ret
        exact ⟨rfl, (below_drewN (bel_alloc _ _) 1)⟩
      · rw [decide_eq_false hb]
        have hb' : decide (a < P) = false := decide_eq_false hb
        go_enter Tryd.func60, Tryd.ntmps60
        go_wp2_with fail
        go_region
        go_wp2
        go_ret
        exact ⟨rfl, (below_drewN (bel_alloc _ _) 1)⟩
    · rw [decide_eq_false ha, Bool.false_and]
      have ha' : decide (0 ≤ a) = false := decide_eq_false ha
      go_enter Tryd.func60, Tryd.ntmps60
      go_wp2_with fail
      go_region
      go_wp2
      go_ret
      exact ⟨rfl, (below_drewN (bel_alloc _ _) 1)⟩
  · have e : inR L (k, a, b) = (decide (0 ≤ k) && decide (k ≤ 9)) := by show (if k = 2 then _ else _) = _; rw [if_neg hk]
    rw [e]
    have hk2 : (k == 2) = false := beq_eq_false_iff_ne.2 hk
    clear e hP1 hP2 hP3 hP4 hk
    by_cases ha : 0 ≤ k
    · rw [decide_eq_true ha, Bool.true_and]
      by_cases hb : k ≤ 9
      · rw [decide_eq_true hb]
        go_enter Tryd.func60, Tryd.ntmps60
        go_wp2
        go_ret
        exact ⟨rfl, bel_alloc _ _⟩
      · rw [decide_eq_false hb]
        go_enter Tryd.func60, Tryd.ntmps60
        go_wp2
        go_ret
        exact ⟨rfl, bel_alloc _ _⟩
    · rw [decide_eq_false ha, Bool.false_and]
      go_enter Tryd.func60, Tryd.ntmps60
      go_wp2
      go_ret
      exact ⟨rfl, bel_alloc _ _⟩
set_option maxRecDepth 100000 in
set_option maxHeartbeats 1000000 in
theorem shape_any (n : Nd) (i : Nat) (w : World) :
    Calls Tryd.prog 61 #[.agg #[.int .i64 n.1, .int .i64 n.2.1, .int .i64 n.2.2], .int .i64 i] w fun e w' => e = .returned (.bool (shp i n)) ∧ Below w.heap.size w w' := by
  obtain ⟨k, a, b⟩ := n
  show Calls _ _ #[.agg #[.int .i64 k, .int .i64 a, .int .i64 b], _] _ _
  have e : shp i (k, a, b) = ((decide (k = 2) || fits i a (decide (1 ≤ ops k))) && fits i b (decide (ops k = 2))) := rfl
  rw [e]
  clear e
  obtain ⟨w1, hw1⟩ : ∃ w1, w1 = w.alloc (.cells #[.int .i64 k, .int .i64 a, .int .i64 b] 51) := ⟨_, rfl⟩
  obtain ⟨w2, hw2⟩ : ∃ w2, w2 = w1.alloc (.cells #[.int .i64 i] 3) := ⟨_, rfl⟩
  have HW1 := Lib.hid hw1
  have HW2 := Lib.hid hw2
  have hb1 : Below w.heap.size w w1 := by rw [hw1]; exact bel_alloc _ _
  have hb2 : Below w1.heap.size w1 w2 := by rw [hw2]; exact bel_alloc _ _
  have HB := Lib.hid (hb1.trans (hb2.mono hb1.size))
  have HO := fun W => Lib.hid (operands_any k W)
  have hsz : w1.heap.size = w.heap.size + 1 := by rw [hw1]; simp
  have hc0 : w2.cell? ⟨w.heap.size, 0, none⟩ = some (.int .i64 k) := by rw [hb2.cell (by simp; omega), hw1]; exact box_at w _ _ 0
  have hc1 : w2.cell? ⟨w.heap.size, 1, none⟩ = some (.int .i64 a) := by rw [hb2.cell (by simp; omega), hw1]; exact box_at w _ _ 1
  have hc2 : w2.cell? ⟨w.heap.size, 2, none⟩ = some (.int .i64 b) := by rw [hb2.cell (by simp; omega), hw1]; exact box_at w _ _ 2
  have hc3 : w2.cell? ⟨w1.heap.size, 0, none⟩ = some (.int .i64 i) := by rw [hw2]; exact box_at w1 _ _ 0
  rw [hsz] at hc3
  have HF := fun x has => Lib.hid (fits_any i x has ⟨w.heap.size + 1, 0, none⟩ w2 hc3)
  clear hc3 hb1 hb2 hsz hw1 hw2
  have hmf : ∀ (fn : Fn) (first cap : Array Value) (w : World), (Instr.makeFunc fn first cap).run Tryd.prog w = .ok (.func fn first cap) w := fun _ _ _ _ => rfl
  by_cases hk : k = 2
  · subst hk
    have e2 : decide (ops 2 = 2) = false := by decide
    rw [decide_eq_true rfl, Bool.true_or, Bool.true_and, e2]
    have hf := HF b false
    generalize fits i b false = r at *
    clear HF e2
    rw [ops_two] at HO
    go_enter Tryd.func61, Tryd.ntmps61
    go_wp2_with fail
    refine (HO _).out.mono ?_
    rintro e w3 ⟨rfl, rfl⟩
    rw [← HW1.out, ← HW2.out]
    clear HO
    go_wp2_with fail
    refine hf.out.mono ?_
    rintro e w4 ⟨rfl, rfl⟩
    clear hf
    go_wp2
    go_ret
    exact ⟨rfl, HB.out⟩
  have hk2 : (k == 2) = false := beq_eq_false_iff_ne.2 hk
  rw [decide_eq_false hk, Bool.false_or]
  clear hk
  rcases ops_range k with ho | ho | ho
  · have e1 : decide (1 ≤ ops k) = false := by rw [ho]; rfl
    have e2 : decide (ops k = 2) = false := by rw [ho]; rfl
    rw [e1, e2]
    rw [ho] at HO
    have ha := HF a false
    have hf := HF b false
    generalize fits i a false = ra at *
    generalize fits i b false = r at *
    clear HF e1 e2 ho
    rcases ra with _ | _
    · go_enter Tryd.func61, Tryd.ntmps61
      go_wp2_with fail
      refine (HO _).out.mono ?_
      rintro e w3 ⟨rfl, rfl⟩
      rw [← HW1.out, ← HW2.out]
      clear HO hf
      go_wp2_with fail
      refine ha.out.mono ?_
      rintro e w4 ⟨rfl, rfl⟩
      clear ha
      go_wp2
      go_ret
      exact ⟨rfl, HB.out⟩
    · go_enter Tryd.func61, Tryd.ntmps61
      go_wp2_with fail
      refine (HO _).out.mono ?_
      rintro e w3 ⟨rfl, rfl⟩
      rw [← HW1.out, ← HW2.out]
      clear HO
      go_wp2_with fail
      refine ha.out.mono ?_
      rintro e w4 ⟨rfl, rfl⟩
      clear ha
      go_wp2_with fail
      refine hf.out.mono ?_
      rintro e w5 ⟨rfl, rfl⟩
      clear hf
      go_wp2
      go_ret
      exact ⟨rfl, HB.out⟩
  · have e1 : decide (1 ≤ ops k) = true := by rw [ho]; rfl
    have e2 : decide (ops k = 2) = false := by rw [ho]; rfl
    rw [e1, e2]
    rw [ho] at HO
    have ha := HF a true
    have hf := HF b false
    generalize fits i a true = ra at *
    generalize fits i b false = r at *
    clear HF e1 e2 ho
    rcases ra with _ | _
    · go_enter Tryd.func61, Tryd.ntmps61
      go_wp2_with fail
      refine (HO _).out.mono ?_
      rintro e w3 ⟨rfl, rfl⟩
      rw [← HW1.out, ← HW2.out]
      clear HO hf
      go_wp2_with fail
      refine ha.out.mono ?_
      rintro e w4 ⟨rfl, rfl⟩
      clear ha
      go_wp2
      go_ret
      exact ⟨rfl, HB.out⟩
    · go_enter Tryd.func61, Tryd.ntmps61
      go_wp2_with fail
      refine (HO _).out.mono ?_
      rintro e w3 ⟨rfl, rfl⟩
      rw [← HW1.out, ← HW2.out]
      clear HO
      go_wp2_with fail
      refine ha.out.mono ?_
      rintro e w4 ⟨rfl, rfl⟩
      clear ha
      go_wp2_with fail
      refine hf.out.mono ?_
      rintro e w5 ⟨rfl, rfl⟩
      clear hf
      go_wp2
      go_ret
      exact ⟨rfl, HB.out⟩
  · have e1 : decide (1 ≤ ops k) = true := by rw [ho]; rfl
    have e2 : decide (ops k = 2) = true := by rw [ho]; rfl
    rw [e1, e2]
    rw [ho] at HO
    have ha := HF a true
    have hf := HF b true
    generalize fits i a true = ra at *
    generalize fits i b true = r at *
    clear HF e1 e2 ho
    rcases ra with _ | _
    · go_enter Tryd.func61, Tryd.ntmps61
      go_wp2_with fail
      refine (HO _).out.mono ?_
      rintro e w3 ⟨rfl, rfl⟩
      rw [← HW1.out, ← HW2.out]
      clear HO hf
      go_wp2_with fail
      refine ha.out.mono ?_
      rintro e w4 ⟨rfl, rfl⟩
      clear ha
      go_wp2
      go_ret
      exact ⟨rfl, HB.out⟩
    · go_enter Tryd.func61, Tryd.ntmps61
      go_wp2_with fail
      refine (HO _).out.mono ?_
      rintro e w3 ⟨rfl, rfl⟩
      rw [← HW1.out, ← HW2.out]
      clear HO
      go_wp2_with fail
      refine ha.out.mono ?_
      rintro e w4 ⟨rfl, rfl⟩
      clear ha
      go_wp2_with fail
      refine hf.out.mono ?_
      rintro e w5 ⟨rfl, rfl⟩
      clear hf
      go_wp2
      go_ret
      exact ⟨rfl, HB.out⟩
end Go.Proofs.YtciopfiddfmckaaDoor.Fm

namespace Go.Proofs.YtciopfiddfmckaaDoor.Fm
open Go.RowKit Go.IntWalk Go.Proofs.YtciopfiddfmckaaDoor.Wd Go.Proofs.YtciopfiddfmckaaDoor.Wo

theorem letters_any (L : Int) (w : World) (hL : Small L) (ev : Value) (he : errV (if L < 1 ∨ 6 < L then 1 else 0) = ev) :
    Calls Tryd.prog 59 #[.int .i64 L] w fun e w' => e = .returned ev ∧ w' = w := by
  have h0 := (check_any L none 0 [] w hL (IntsAt.nil _ _ _) (by simp)).mono (R' := fun e w' => e = .returned ev ∧ w' = w) fun e w' ⟨h1, h2⟩ => by
    refine ⟨?_, h2.symm⟩
    rw [h1.out, ← he]
    rfl
  have H := Lib.hid h0
  clear h0 he hL
  go_enter Tryd.func59, Tryd.ntmps59
  go_wp2_with fail
  refine H.out.mono ?_
  rintro e w2 ⟨rfl, rfl⟩
  clear H
  go_wp2
  go_ret
  exact ⟨rfl, rfl⟩
theorem fchk_letters {L : Int} {f : List Nd} (h : L < 1 ∨ 6 < L) : fchk L f = 1 := by unfold fchk; rw [if_pos h]
theorem fchk_none {L : Int} {f : List Nd} (h : ¬ (L < 1 ∨ 6 < L)) (h2 : f.length = 0) : fchk L f = 3 := by unfold fchk; rw [if_neg h, if_pos h2]
theorem fchk_many {L : Int} {f : List Nd} (h : ¬ (L < 1 ∨ 6 < L)) (h2 : 40 < f.length) : fchk L f = 4 := by unfold fchk; rw [if_neg h, if_neg (by omega), if_pos h2]
theorem fchk_scan {L : Int} {f : List Nd} (h : ¬ (L < 1 ∨ 6 < L)) (h2 : f.length ≠ 0) (h3 : ¬ 40 < f.length) : fchk L f = fscan L 0 (f.drop 0) := by unfold fchk; rw [if_neg h, if_neg h2, if_neg h3]; rfl
theorem nerr_range {L : Int} {i : Nat} {n : Nd} (h : inR L n = false) : nerr L i n = 1 := by unfold nerr; rw [h]; rfl
theorem nerr_shape {L : Int} {i : Nat} {n : Nd} (h : inR L n = true) (h2 : shp i n = false) : nerr L i n = 3 := by unfold nerr; rw [h, h2]; rfl
theorem nerr_none {L : Int} {i : Nat} {n : Nd} (h : inR L n = true) (h2 : shp i n = true) : nerr L i n = 0 := by unfold nerr; rw [h, h2]; rfl
set_option maxRecDepth 100000 in
set_option maxHeartbeats 4000000 in
theorem fcheck_any (L : Int) (A : Option Addr) (c : Nat) (f : List Nd) (w : World) (hL : Small L) (hA : NodesAt w w.heap.size A f) (hlen : f.length ≤ 9223372036854775807) :
    Calls Tryd.prog 44 #[.int .i64 L, .slice A f.length c] w fun e w' => Hid (e = .returned (errV (fchk L f))) ∧ Below w.heap.size w w' := by
  by_cases g : L < 1 ∨ 6 < L
  · have HL := Lib.hid (letters_any L w hL (.iface 67 (.int .i64 1)) (by rw [if_pos g]; rfl))
    have HR := Lib.hid (fchk_letters (f := f) g)
    clear g hA hlen
    generalize f.length = k at *
    go_enter Tryd.func44, Tryd.ntmps44
    go_wp2_with fail
    refine HL.out.mono ?_
    rintro e w2 ⟨rfl, rfl⟩
    clear HL
    go_wp2
    go_ret
    exact ⟨by rw [HR.out]; rfl, Below.refl _ _⟩
  have HL := Lib.hid (letters_any L w hL .nilIface (by rw [if_neg g]; rfl))
  by_cases g2 : f.length = 0
  · have HR := Lib.hid (fchk_none g g2)
    rw [g2]
    clear g hA hlen g2
    go_enter Tryd.func44, Tryd.ntmps44
    go_wp2_with fail
    refine HL.out.mono ?_
    rintro e w2 ⟨rfl, rfl⟩
    clear HL
    go_wp2
    go_ret
    exact ⟨by rw [HR.out]; rfl, Below.refl _ _⟩
  by_cases g3 : 40 < f.length
  · have HR := Lib.hid (fchk_many g g3)
    clear g hA g2
    generalize f.length = k at *
    go_enter Tryd.func44, Tryd.ntmps44
    go_wp2_with fail
    refine HL.out.mono ?_
    rintro e w2 ⟨rfl, rfl⟩
    clear HL
    go_wp2
    go_ret
    exact ⟨by rw [HR.out]; rfl, Below.refl _ _⟩
  have HS := Lib.hid (fchk_scan g g2 g3)
  have l1 : 1 ≤ L := by omega
  have l6 : L ≤ 6 := by omega
  have h0 : 0 < f.length := by omega
  have q1 : ((f.length : Int) == 0) = false := beq_eq_false_iff_ne.2 (by omega)
  have q2 : decide ((40 : Int) < (f.length : Int)) = false := decide_eq_false (by omega)
  have HA := Lib.hid hA
  have HB0 : Hid (Below w.heap.size w w) := Below.refl _ _
  clear g g2 hA hL
  go_enter Tryd.func44, Tryd.ntmps44
  go_wp2_with fail
  refine HL.out.mono ?_
  rintro e w2 ⟨rfl, rfl⟩
  clear HL
  go_wp2
  go_loopw [23] (fun i wr => ∃ (k : Nat), k ≤ f.length ∧ i = .int .i64 k ∧ Hid (Below w2.heap.size w2 wr) ∧ Hid (fscan L 0 (f.drop 0) = fscan L k (f.drop k))) (fun i _ => f.length - (intOf i).toNat)
  case atStart => exact ⟨0, by omega, rfl, HB0, (rfl : fscan L 0 (f.drop 0) = fscan L 0 (f.drop 0))⟩
  case round =>
    clear HB0
    obtain ⟨k, hk, rfl, HB, HE⟩ := hrel
    by_cases hlt : k < f.length
    · obtain ⟨n, hn⟩ : ∃ n, f[k]? = some n := ⟨_, List.getElem?_eq_getElem hlt⟩
      obtain ⟨ad, e, hadb, c0, c1, c2⟩ := (HA.out.on HB.out).at_ hn
      subst e
      have HN := Lib.hid (fscan_at (L := L) hn)
      obtain ⟨x, y, z⟩ := n
      obtain ⟨W1, hW1⟩ : ∃ W1, W1 = wr.alloc (.cells #[.int .i64 x, .int .i64 y, .int .i64 z] 51) := ⟨_, rfl⟩
      have HW1 := Lib.hid hW1
      have hb1 : Below wr.heap.size wr W1 := by rw [hW1]; exact bel_alloc _ _
      have HB1 := Lib.hid (HB.out.trans (hb1.mono HB.out.size))
      have hlt1 : wr.heap.size < W1.heap.size := by rw [hW1]; simp
      have d0 : W1.cell? ⟨wr.heap.size, 0, none⟩ = some (.int .i64 x) := by rw [hW1]; exact box_at wr _ _ 0
      have d1 : W1.cell? ⟨wr.heap.size, 1, none⟩ = some (.int .i64 y) := by rw [hW1]; exact box_at wr _ _ 1
      have d2 : W1.cell? ⟨wr.heap.size, 2, none⟩ = some (.int .i64 z) := by rw [hW1]; exact box_at wr _ _ 2
      have hR := inR_any L (x, y, z) l1 l6 W1
      have hS := fun W => shape_any (x, y, z) k W
      simp only at c0 c1 c2 hR hS
      clear hW1 hb1
      rcases hr : inR L (x, y, z) with _ | _
      · rw [hr] at hR
        have HR := Lib.hid hR
        have HX : Hid (fchk L f = 1) := by rw [Hid, HS.out, HE.out, HN.out, nerr_range hr]; rfl
        clear hr hR hS hn HN d0 d1 d2 hlt1
        go_wp2_with fail
        rw [← HW1.out]
        refine HR.out.mono ?_
        rintro e w3 ⟨rfl, hb⟩
        have HB3 := Lib.hid (HB1.out.trans (hb.mono HB1.out.size))
        clear hb HR
        go_wp2
        go_ret
        exact ⟨by rw [HX.out]; rfl, HB3.out⟩
      · rw [hr] at hR
        have HR := Lib.hid hR
        rcases hs : shp k (x, y, z) with _ | _
        · have HX : Hid (fchk L f = 3) := by rw [Hid, HS.out, HE.out, HN.out, nerr_shape hr hs]; rfl
          rw [hs] at hS
          clear hr hR hn HN hs
          go_wp2_with fail
          rw [← HW1.out]
          refine HR.out.mono ?_
          rintro e w3 ⟨rfl, hb⟩
          have HB3 := Lib.hid (HB1.out.trans (hb.mono HB1.out.size))
          have e0 := (hb.cell (p := ⟨wr.heap.size, 0, none⟩) hlt1).trans d0
          have e1 := (hb.cell (p := ⟨wr.heap.size, 1, none⟩) hlt1).trans d1
          have e2 := (hb.cell (p := ⟨wr.heap.size, 2, none⟩) hlt1).trans d2
          have HSS := Lib.hid (hS w3)
          clear hb HR d0 d1 d2 hS
          go_wp2_with fail
          refine HSS.out.mono ?_
          rintro e w4 ⟨rfl, hb⟩
          have HB4 := Lib.hid (HB3.out.trans (hb.mono HB3.out.size))
          clear hb HSS e0 e1 e2
          go_wp2
          go_ret
          exact ⟨by rw [HX.out]; rfl, HB4.out⟩
        · have HX : Hid (fscan L 0 (f.drop 0) = fscan L (k + 1) (f.drop (k + 1))) := by rw [Hid, HE.out, HN.out, nerr_none hr hs]; rfl
          rw [hs] at hS
          clear hr hR hn HN hs
          go_wp2_with fail
          rw [← HW1.out]
          refine HR.out.mono ?_
          rintro e w3 ⟨rfl, hb⟩
          have HB3 := Lib.hid (HB1.out.trans (hb.mono HB1.out.size))
          have e0 := (hb.cell (p := ⟨wr.heap.size, 0, none⟩) hlt1).trans d0
          have e1 := (hb.cell (p := ⟨wr.heap.size, 1, none⟩) hlt1).trans d1
          have e2 := (hb.cell (p := ⟨wr.heap.size, 2, none⟩) hlt1).trans d2
          have HSS := Lib.hid (hS w3)
          clear hb HR d0 d1 d2 hS
          go_wp2_with fail
          refine HSS.out.mono ?_
          rintro e w4 ⟨rfl, hb⟩
          have HB4 := Lib.hid (HB3.out.trans (hb.mono HB3.out.size))
          clear hb HSS e0 e1 e2 c0 c1 c2
          go_wp2
          go_roundw
          case rel => exact ⟨k + 1, by omega, by go_num, HB4, HX⟩
          case measure => simp [intOf]; omega
    · obtain rfl : k = f.length := by omega
      have HX : Hid (fchk L f = 0) := by rw [Hid, HS.out, HE.out, fscan_end]
      go_wp2
      go_ret
      exact ⟨by rw [HX.out]; rfl, HB.out⟩
end Go.Proofs.YtciopfiddfmckaaDoor.Fm
