/- The walks of package form: Check. -/
import Derived.Test.YtaelgnmklepebaaDoorNodes
import Derived.Test.YtaelgnmklepebaaDoorWordW
import Derived.Handy
namespace Go.Proofs.YtaelgnmklepebaaDoor.Fm
open Go.RowKit Go.IntWalk Go.Proofs.YtaelgnmklepebaaDoor.Wd Go.Proofs.YtaelgnmklepebaaDoor.Wo

theorem ops_out {k : Int} (h : k < 3 ∨ 9 < k) : ops k = 0 := by unfold ops; rw [if_neg (by omega), if_neg (by omega)]
theorem operands_any (k : Int) (w : World) : Calls Tryd.prog 44 #[.int .i64 k] w fun e w' => e = .returned (.int .i64 (ops k)) ∧ w' = w := by
  by_cases h : k < 3 ∨ 9 < k
  · rw [ops_out h]
    rcases h with h | h
    all_goals
      go_enter Tryd.func44, Tryd.ntmps44
      go_wp2
      go_ret
      exact ⟨rfl, rfl⟩
  · have : k = 3 ∨ k = 4 ∨ k = 5 ∨ k = 6 ∨ k = 7 ∨ k = 8 ∨ k = 9 := by omega
    clear h
    rcases this with rfl | rfl | rfl | rfl | rfl | rfl | rfl
    all_goals
      go_enter Tryd.func44, Tryd.ntmps44
      go_wp2
      go_ret
      exact ⟨rfl, rfl⟩
theorem fits_any (i : Nat) (x : Int) (has : Bool) (p : Addr) (w : World) (hp : w.cell? p = some (.int .i64 i)) :
    Calls Tryd.prog 55 #[.int .i64 x, .bool has, .pointer (some p)] w fun e w' => e = .returned (.bool (fits i x has)) ∧ w' = w := by
  have HR := Lib.hid (rfl : fits i x has = fits i x has)
  rcases has with _ | _
  · have e : fits i x false = (x == 0) := by unfold fits; rw [if_neg (by decide)]; rfl
    rw [e]
    clear HR e
    go_enter Tryd.func55, Tryd.ntmps55
    go_wp2
    go_ret
    exact ⟨rfl, rfl⟩
  · have e : fits i x true = (decide (0 ≤ x) && decide (x < (i : Int))) := by unfold fits; rw [if_pos rfl]
    by_cases h : 0 ≤ x
    · by_cases h2 : x < (i : Int)
      · have HE : fits i x true = true := by rw [e]; simp [h, h2]
        rw [HE]
        clear HR e HE
        go_enter Tryd.func55, Tryd.ntmps55
        go_wp2
        go_ret
        exact ⟨rfl, rfl⟩
      · have HE : fits i x true = false := by rw [e]; simp [h, h2]
        rw [HE]
        clear HR e HE
        go_enter Tryd.func55, Tryd.ntmps55
        go_wp2
        go_ret
        exact ⟨rfl, rfl⟩
    · have HE : fits i x true = false := by rw [e]; simp [h]
      rw [HE]
      clear HR e HE
      go_enter Tryd.func55, Tryd.ntmps55
      go_wp2
      go_ret
      exact ⟨rfl, rfl⟩
set_option maxRecDepth 100000 in
theorem inR_any (L : Int) (n : Nd) (h1 : 1 ≤ L) (h6 : L ≤ 6) (w : World) :
    Calls Tryd.prog 41 #[.int .i64 L, .agg #[.int .i64 n.1, .int .i64 n.2.1, .int .i64 n.2.2]] w fun e w' => e = .returned (.bool (inR L n)) ∧ Below w.heap.size w w' := by
  obtain ⟨k, a, b⟩ := n
  obtain ⟨P, hP1, hP2, hP3, hP4⟩ := shl_lim h1 h6
  show Calls _ _ #[.int .i64 L, .agg #[.int .i64 k, .int .i64 a, .int .i64 b]] _ _
  by_cases hk : k = 2
  · subst hk
    have e : inR L (2, a, b) = (decide (0 ≤ a) && decide (a < P)) := by show (if (2 : Int) = 2 then _ else _) = _; rw [if_pos rfl, hP2]
    rw [e]
    clear e hP2
    have hL0 : 0 ≤ L := by omega
    have hL64 : L ≤ 64 := by omega
    by_cases ha : 0 ≤ a
    · rw [decide_eq_true ha, Bool.true_and]
      by_cases hb : a < P
      · rw [decide_eq_true hb]
        go_enter Tryd.func41, Tryd.ntmps41
        go_wp2_with fail
        go_region
        go_wp2
        go_ret
        exact ⟨rfl, (below_drewN (bel_alloc _ _) 1)⟩
      · rw [decide_eq_false hb]
        have hb' : decide (a < P) = false := decide_eq_false hb
        go_enter Tryd.func41, Tryd.ntmps41
        go_wp2_with fail
        go_region
        go_wp2
        go_ret
        exact ⟨rfl, (below_drewN (bel_alloc _ _) 1)⟩
    · rw [decide_eq_false ha, Bool.false_and]
      have ha' : decide (0 ≤ a) = false := decide_eq_false ha
      go_enter Tryd.func41, Tryd.ntmps41
      go_wp2_with fail
      go_region
      go_wp2
      go_ret
      exact ⟨rfl, (below_drewN (bel_alloc _ _) 1)⟩
  · have e : inR L (k, a, b) = (decide (0 ≤ k) && decide (k ≤ 9)) := by show (if k = 2 then _ else _) = _; rw [if_neg hk]
    rw [e]
    have hk2 : (k == 2) = false := beq_eq_false_iff_ne.2 hk
    clear e hP1 hP2 hP3 hP4 hk
    by_cases ha : 0 ≤ k
    · rw [decide_eq_true ha, Bool.true_and]
      by_cases hb : k ≤ 9
      · rw [decide_eq_true hb]
        go_enter Tryd.func41, Tryd.ntmps41
        go_wp2
        go_ret
        exact ⟨rfl, bel_alloc _ _⟩
      · rw [decide_eq_false hb]
        go_enter Tryd.func41, Tryd.ntmps41
        go_wp2
        go_ret
        exact ⟨rfl, bel_alloc _ _⟩
    · rw [decide_eq_false ha, Bool.false_and]
      go_enter Tryd.func41, Tryd.ntmps41
      go_wp2
      go_ret
      exact ⟨rfl, bel_alloc _ _⟩
set_option maxRecDepth 100000 in
set_option maxHeartbeats 1000000 in
theorem shape_any (n : Nd) (i : Nat) (w : World) :
    Calls Tryd.prog 42 #[.agg #[.int .i64 n.1, .int .i64 n.2.1, .int .i64 n.2.2], .int .i64 i] w fun e w' => e = .returned (.bool (shp i n)) ∧ Below w.heap.size w w' := by
  obtain ⟨k, a, b⟩ := n
  show Calls _ _ #[.agg #[.int .i64 k, .int .i64 a, .int .i64 b], _] _ _
  have e : shp i (k, a, b) = ((decide (k = 2) || fits i a (decide (1 ≤ ops k))) && fits i b (decide (ops k = 2))) := rfl
  rw [e]
  clear e
  obtain ⟨w1, hw1⟩ : ∃ w1, w1 = w.alloc (.cells #[.int .i64 k, .int .i64 a, .int .i64 b] 29) := ⟨_, rfl⟩
  obtain ⟨w2, hw2⟩ : ∃ w2, w2 = w1.alloc (.cells #[.int .i64 i] 3) := ⟨_, rfl⟩
  have HW1 := Lib.hid hw1
  have HW2 := Lib.hid hw2
  have hb1 : Below w.heap.size w w1 := by rw [hw1]; exact bel_alloc _ _
  have hb2 : Below w1.heap.size w1 w2 := by rw [hw2]; exact bel_alloc _ _
  have HB := Lib.hid (hb1.trans (hb2.mono hb1.size))
  have HO := fun W => Lib.hid (operands_any k W)
  have hsz : w1.heap.size = w.heap.size + 1 := by rw [hw1]; simp
  have hc0 : w2.cell? ⟨w.heap.size, 0, none⟩ = some (.int .i64 k) := by rw [hb2.cell (by simp; omega), hw1]; exact box_at w _ _ 0
  have hc1 : w2.cell? ⟨w.heap.size, 1, none⟩ = some (.int .i64 a) := by rw [hb2.cell (by simp; omega), hw1]; exact box_at w _ _ 1
  have hc2 : w2.cell? ⟨w.heap.size, 2, none⟩ = some (.int .i64 b) := by rw [hb2.cell (by simp; omega), hw1]; exact box_at w _ _ 2
  have hc3 : w2.cell? ⟨w1.heap.size, 0, none⟩ = some (.int .i64 i) := by rw [hw2]; exact box_at w1 _ _ 0
  rw [hsz] at hc3
  have HF := fun x has => Lib.hid (fits_any i x has ⟨w.heap.size + 1, 0, none⟩ w2 hc3)
  clear hc3 hb1 hb2 hsz hw1 hw2
  have hmf : ∀ (fn : Fn) (first cap : Array Value) (w : World), (Instr.makeFunc fn first cap).run Tryd.prog w = .ok (.func fn first cap) w := fun _ _ _ _ => rfl
  by_cases hk : k = 2
  · subst hk
    have e2 : decide (ops 2 = 2) = false := by decide
    rw [decide_eq_true rfl, Bool.true_or, Bool.true_and, e2]
    have hf := HF b false
    generalize fits i b false = r at *
    clear HF e2
    rw [ops_two] at HO
    go_enter Tryd.func42, Tryd.ntmps42
    go_wp2_with fail
    refine (HO _).out.mono ?_
    rintro e w3 ⟨rfl, rfl⟩
    rw [← HW1.out, ← HW2.out]
    clear HO
    go_wp2_with fail
    refine hf.out.mono ?_
    rintro e w4 ⟨rfl, rfl⟩
    clear hf
    go_wp2
    go_ret
    exact ⟨rfl, HB.out⟩
  have hk2 : (k == 2) = false := beq_eq_false_iff_ne.2 hk
  rw [decide_eq_false hk, Bool.false_or]
  clear hk
  rcases ops_range k with ho | ho | ho
  · have e1 : decide (1 ≤ ops k) = false := by rw [ho]; rfl
    have e2 : decide (ops k = 2) = false := by rw [ho]; rfl
    rw [e1, e2]
    rw [ho] at HO
    have ha := HF a false
    have hf := HF b false
    generalize fits i a false = ra at *
    generalize fits i b false = r at *
    clear HF e1 e2 ho
    rcases ra with _ | _
    · go_enter Tryd.func42, Tryd.ntmps42
      go_wp2_with fail
      refine (HO _).out.mono ?_
      rintro e w3 ⟨rfl, rfl⟩
      rw [← HW1.out, ← HW2.out]
      clear HO hf
      go_wp2_with fail
      refine ha.out.mono ?_
      rintro e w4 ⟨rfl, rfl⟩
      clear ha
      go_wp2
      go_ret
      exact ⟨rfl, HB.out⟩
    · go_enter Tryd.func42, Tryd.ntmps42
      go_wp2_with fail
      refine (HO _).out.mono ?_
      rintro e w3 ⟨rfl, rfl⟩
      rw [← HW1.out, ← HW2.out]
      clear HO
      go_wp2_with fail
      refine ha.out.mono ?_
      rintro e w4 ⟨rfl, rfl⟩
      clear ha
      go_wp2_with fail
      refine hf.out.mono ?_
      rintro e w5 ⟨rfl, rfl⟩
      clear hf
      go_wp2
      go_ret
      exact ⟨rfl, HB.out⟩
  · have e1 : decide (1 ≤ ops k) = true := by rw [ho]; rfl
    have e2 : decide (ops k = 2) = false := by rw [ho]; rfl
    rw [e1, e2]
    rw [ho] at HO
    have ha := HF a true
    have hf := HF b false
    generalize fits i a true = ra at *
    generalize fits i b false = r at *
    clear HF e1 e2 ho
    rcases ra with _ | _
    · go_enter Tryd.func42, Tryd.ntmps42
      go_wp2_with fail
      refine (HO _).out.mono ?_
      rintro e w3 ⟨rfl, rfl⟩
      rw [← HW1.out, ← HW2.out]
      clear HO hf
      go_wp2_with fail
      refine ha.out.mono ?_
      rintro e w4 ⟨rfl, rfl⟩
      clear ha
      go_wp2
      go_ret
      exact ⟨rfl, HB.out⟩
    · go_enter Tryd.func42, Tryd.ntmps42
      go_wp2_with fail
      refine (HO _).out.mono ?_
      rintro e w3 ⟨rfl, rfl⟩
      rw [← HW1.out, ← HW2.out]
      clear HO
      go_wp2_with fail
      refine ha.out.mono ?_
      rintro e w4 ⟨rfl, rfl⟩
      clear ha
      go_wp2_with fail
      refine hf.out.mono ?_
      rintro e w5 ⟨rfl, rfl⟩
      clear hf
      go_wp2
      go_ret
      exact ⟨rfl, HB.out⟩
  · have e1 : decide (1 ≤ ops k) = true := by rw [ho]; rfl
    have e2 : decide (ops k = 2) = true := by rw [ho]; rfl
    rw [e1, e2]
    rw [ho] at HO
    have ha := HF a true
    have hf := HF b true
    generalize fits i a true = ra at *
    generalize fits i b true = r at *
    clear HF e1 e2 ho
    rcases ra with _ | _
    · go_enter Tryd.func42, Tryd.ntmps42
      go_wp2_with fail
      refine (HO _).out.mono ?_
      rintro e w3 ⟨rfl, rfl⟩
      rw [← HW1.out, ← HW2.out]
      clear HO hf
      go_wp2_with fail
      refine ha.out.mono ?_
      rintro e w4 ⟨rfl, rfl⟩
      clear ha
      go_wp2
      go_ret
      exact ⟨rfl, HB.out⟩
    · go_enter Tryd.func42, Tryd.ntmps42
      go_wp2_with fail
      refine (HO _).out.mono ?_
      rintro e w3 ⟨rfl, rfl⟩
      rw [← HW1.out, ← HW2.out]
      clear HO
      go_wp2_with fail
      refine ha.out.mono ?_
      rintro e w4 ⟨rfl, rfl⟩
      clear ha
      go_wp2_with fail
      refine hf.out.mono ?_
      rintro e w5 ⟨rfl, rfl⟩
      clear hf
      go_wp2
      go_ret
      exact ⟨rfl, HB.out⟩
end Go.Proofs.YtaelgnmklepebaaDoor.Fm
