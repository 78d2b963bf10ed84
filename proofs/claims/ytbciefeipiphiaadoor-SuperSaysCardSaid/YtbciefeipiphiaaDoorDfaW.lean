/- The walks of package dfa's checks and runs. -/
import Derived.Test.YtbciefeipiphiaaDoorDfaA
import Derived.Test.YtbciefeipiphiaaDoorWordL
import Derived.Deep.QuietTactic
import Derived.BigQuiet
namespace Go.Proofs.YtbciefeipiphiaaDoor.Df
open Go.RowKit Go.IntWalk Go.Proofs.YtbciefeipiphiaaDoor.Wd Go.Proofs.YtbciefeipiphiaaDoor.Wo

/-- A struct laid into a block of its own. -/
theorem box_cell (w : World) (cs : Array Value) (t : TypeId) (j : Nat) : (w.alloc (.cells cs t)).cell? ⟨w.heap.size, j, none⟩ = cs[j]? := cell_of_row _ _ j cs t _ (heap_alloc_new w _)
theorem below_alloc (w : World) (o : Obj) : Below w.heap.size w (w.alloc o) := (Below.refl _ _).alloc (Nat.le_refl _) o
/-- The block in which an automaton that came in lies. -/
structure Boxed (w1 : World) (g : Nat) (L s : Int) (A : Option Addr) (n c : Nat) (F : Option Addr) (nf cf : Nat) : Prop where
  lt : g < w1.heap.size
  c0 : w1.cell? ⟨g, 0, none⟩ = some (.int .i64 L)
  c1 : w1.cell? ⟨g, 1, none⟩ = some (.int .i64 s)
  c2 : w1.cell? ⟨g, 2, none⟩ = some (.slice A n c)
  c3 : w1.cell? ⟨g, 3, none⟩ = some (.slice F nf cf)
theorem boxed_new (w : World) (L s : Int) (A : Option Addr) (n c : Nat) (F : Option Addr) (nf cf : Nat) (t : TypeId) :
    Boxed (w.alloc (.cells #[.int .i64 L, .int .i64 s, .slice A n c, .slice F nf cf] t)) w.heap.size L s A n c F nf cf :=
  ⟨by simp, box_cell w _ t 0, box_cell w _ t 1, box_cell w _ t 2, box_cell w _ t 3⟩
theorem Boxed.on {w1 w2 : World} {g : Nat} {L s : Int} {A : Option Addr} {n c : Nat} {F : Option Addr} {nf cf : Nat} (h : Boxed w1 g L s A n c F nf cf) (hb : Below w1.heap.size w1 w2) : Boxed w2 g L s A n c F nf cf :=
  ⟨Nat.lt_of_lt_of_le h.lt hb.size, (hb.cell h.lt).trans h.c0, (hb.cell h.lt).trans h.c1, (hb.cell h.lt).trans h.c2, (hb.cell h.lt).trans h.c3⟩
theorem int_eq {a b : Int} (h : a = b) : (a == b) = true := by rw [h]; exact beq_self_eq_true _
theorem int_ne {a b : Int} (h : a ≠ b) : (a == b) = false := beq_eq_false_iff_ne.2 h

set_option maxRecDepth 100000 in
theorem isState_any (L s : Int) (A F : Option Addr) (n c nf cf : Nat) (x : Int) (w : World) (r : Bool) (hr : r = decide (0 ≤ x ∧ x < n)) :
    Calls Tryd.prog 64 #[.agg #[.int .i64 L, .int .i64 s, .slice A n c, .slice F nf cf], .int .i64 x] w fun e w' => e = .returned (.bool r) ∧ Below w.heap.size w w' := by
  have HR := Lib.hid hr
  by_cases h1 : 0 ≤ x
  · by_cases h2 : x < n
    · obtain rfl : r = true := by rw [HR.out]; exact decide_eq_true ⟨h1, h2⟩
      clear hr HR
      go_enter Tryd.func64, Tryd.ntmps64
      go_wp2
      go_ret
      exact ⟨rfl, below_alloc _ _⟩
    · obtain rfl : r = false := by rw [HR.out]; exact decide_eq_false (fun h => h2 h.2)
      clear hr HR
      go_enter Tryd.func64, Tryd.ntmps64
      go_wp2
      go_ret
      exact ⟨rfl, below_alloc _ _⟩
  · obtain rfl : r = false := by rw [HR.out]; exact decide_eq_false (fun h => h1 h.1)
    clear hr HR
    go_enter Tryd.func64, Tryd.ntmps64
    go_wp2
    go_ret
    exact ⟨rfl, below_alloc _ _⟩

theorem all_take_succ {α : Type} {l : List α} {P : α → Prop} {k : Nat} (h : ∀ r ∈ l.take k, P r) (hk : k < l.length) (hp : P l[k]) : ∀ r ∈ l.take (k + 1), P r := by
  rw [← List.take_append_getElem hk]
  intro r hr
  rcases List.mem_append.1 hr with hr | hr
  · exact h r hr
  · simp at hr; subst hr; exact hp
theorem all_take_end {α : Type} {l : List α} {P : α → Prop} {k : Nat} (h : ∀ r ∈ l.take k, P r) (hk : l.length ≤ k) : ∀ r ∈ l, P r := by
  rwa [List.take_of_length_le hk] at h
set_option maxRecDepth 100000 in
set_option maxHeartbeats 1000000 in
theorem hasShape_any (L s : Int) (A F : Option Addr) (c cf : Nat) (d : Aut) (w : World) (h : DfaIs w w.heap.size L s A c F cf d) (r : Bool) (hr : r = decide (shaped d)) :
    Calls Tryd.prog 63 #[.agg #[.int .i64 L, .int .i64 s, .slice A d.next.length c, .slice F d.fin.length cf]] w fun e w' => e = .returned (.bool r) ∧ Below w.heap.size w w' := by
  have HR := Lib.hid hr
  by_cases h1 : d.next.length = 0
  · obtain rfl : r = false := by rw [HR.out]; exact decide_eq_false (fun k => k.1 h1)
    have h1' := int_eq (show (d.next.length : Int) = 0 by omega)
    clear h1 h hr HR
    generalize d.next.length = n at *
    generalize d.fin.length = m at *
    go_enter Tryd.func63, Tryd.ntmps63
    go_wp2
    go_ret
    exact ⟨rfl, below_alloc _ _⟩
  · have h1' := int_ne (show (d.next.length : Int) ≠ 0 by omega)
    by_cases h2 : d.fin.length = d.next.length
    · have h2' := int_eq' (show (d.fin.length : Int) = (d.next.length : Int) by omega)
      have HY : Hid (∀ r ∈ d.next.take 0, (r.length : Int) = L) := by simp [Hid]
      have HT : Hid ((∀ r ∈ d.next, (r.length : Int) = L) → r = true) := fun k => by rw [HR.out]; exact decide_eq_true ⟨h1, h2, by rw [h.eL]; exact k⟩
      have HF : Hid (∀ x ∈ d.next, ¬ ((x.length : Nat) : Int) = L → r = false) := fun x hx hne => by
        rw [HR.out]; exact decide_eq_false (fun q => hne (by rw [q.2.2 _ hx, h.eL]))
      have HN := Lib.hid h.rows
      have hb : d.next.length ≤ 9223372036854775807 := Nat.le_trans h.hc h.hc2
      clear h h1 h2 hr HR
      generalize hm : d.fin.length = m at *
      clear hm
      generalize hn : d.next.length = n at *
      have HL := Lib.hid hn
      clear hn
      go_enter Tryd.func63, Tryd.ntmps63
      go_wp2
      obtain ⟨w1, hw1⟩ : ∃ w1, w1 = w.alloc (.cells #[.int .i64 L, .int .i64 s, .slice A n c, .slice F m cf] 25) := ⟨_, rfl⟩
      have hB1 : Below w.heap.size w w1 := by rw [hw1]; exact below_alloc _ _
      have hX : Boxed w1 w.heap.size L s A n c F m cf := by rw [hw1]; exact boxed_new _ _ _ _ _ _ _ _ _ _
      have hc0 := hX.c0
      have HN := Lib.hid (HN.out.on hB1)
      have HB := Lib.hid hB1
      rw [← hw1]
      clear hw1 hB1 hX
      go_loop [21] (fun i => ∃ (k : Nat), k ≤ n ∧ i = .int .i64 k ∧ Hid (∀ r ∈ d.next.take k, (r.length : Int) = L)) (fun i => n - (intOf i).toNat)
      case atStart => exact ⟨0, by omega, rfl, HY⟩
      case round =>
        clear HY
        obtain ⟨k, hk, rfl, HU⟩ := hrel
        by_cases hlt : k < n
        · have hlt' : k < d.next.length := by rw [HL.out]; exact hlt
          obtain ⟨ad, A', c', rfl, hadb, hcell, _, _, _⟩ := HN.out k _ (List.getElem?_eq_getElem hlt')
          by_cases he : ((d.next[k].length : Nat) : Int) = L
          · have HU1 := Lib.hid (all_take_succ HU.out hlt' he)
            have he1 := int_eq' he
            clear he
            generalize d.next[k] = r0 at *
            go_wp2
            go_round
            case rel => exact ⟨k + 1, by omega, by go_num, HU1⟩
            case measure => simp [intOf]; omega
          · have he1 := int_ne' he
            obtain rfl := HF.out _ (List.getElem_mem hlt') he
            clear he HF
            generalize d.next[k] = r0 at *
            go_wp2
            go_ret
            exact ⟨rfl, HB.out⟩
        · obtain rfl := HT.out (all_take_end HU.out (by rw [HL.out]; omega))
          go_wp2
          go_ret
          exact ⟨rfl, HB.out⟩
    · obtain rfl : r = false := by rw [HR.out]; exact decide_eq_false (fun k => h2 k.2.1)
      have h2' := int_ne' (show (d.fin.length : Int) ≠ (d.next.length : Int) by omega)
      clear h2 h h1 hr HR
      generalize d.next.length = n at *
      generalize d.fin.length = m at *
      go_enter Tryd.func63, Tryd.ntmps63
      go_wp2
      go_ret
      exact ⟨rfl, below_alloc _ _⟩

set_option maxRecDepth 100000 in
theorem alpha_any (L : Int) (w : World) (r : Bool) (hr : r = decide (1 ≤ L ∧ L ≤ 6)) :
    Calls Tryd.prog 62 #[.int .i64 L] w fun e w' => e = .returned (.bool r) ∧ w' = w := by
  have HR := Lib.hid hr
  by_cases h1 : 1 ≤ L
  · by_cases h2 : L ≤ 6
    · obtain rfl : r = true := by rw [HR.out]; exact decide_eq_true ⟨h1, h2⟩
      clear hr HR
      go_enter Tryd.func62, Tryd.ntmps62
      go_wp2
      go_ret
      exact ⟨rfl, rfl⟩
    · obtain rfl : r = false := by rw [HR.out]; exact decide_eq_false (fun h => h2 h.2)
      clear hr HR
      go_enter Tryd.func62, Tryd.ntmps62
      go_wp2
      go_ret
      exact ⟨rfl, rfl⟩
  · obtain rfl : r = false := by rw [HR.out]; exact decide_eq_false (fun h => h1 h.1)
    clear hr HR
    go_enter Tryd.func62, Tryd.ntmps62
    go_wp2
    go_ret
    exact ⟨rfl, rfl⟩

/-! ### Check -/
/-- The boxed world, its facts laid. -/
theorem box_dfa (w : World) {L s : Int} {A F : Option Addr} {c cf : Nat} {d : Aut} (h : DfaIs w w.heap.size L s A c F cf d) :
    ∃ w1, w1 = w.alloc (.cells #[.int .i64 L, .int .i64 s, .slice A d.next.length c, .slice F d.fin.length cf] 25) ∧ Below w.heap.size w w1 ∧ Boxed w1 w.heap.size L s A d.next.length c F d.fin.length cf ∧ DfaIs w1 w1.heap.size L s A c F cf d :=
  ⟨_, rfl, below_alloc _ _, boxed_new _ _ _ _ _ _ _ _ _ _, h.on (below_alloc _ _)⟩
set_option maxRecDepth 100000 in
set_option maxHeartbeats 2000000 in
theorem dcheck_any (v : Value) (d : Aut) (w : World) (h : DfaAt w w.heap.size v d) :
    Calls Tryd.prog 39 #[v] w fun e w' => Hid (e = .returned (errV (dchk d))) ∧ Below w.heap.size w w' := by
  obtain ⟨L, s, A, c, F, cf, rfl, h⟩ := h
  obtain ⟨w1, hw1, hB1, hX, hd1⟩ := box_dfa w h
  have HB := Lib.hid hB1
  have hn : d.next.length ≤ 9223372036854775807 := Nat.le_trans h.hc h.hc2
  have hc0 := hX.c0
  have hc1 := hX.c1
  have hc2 := hX.c2
  by_cases g : L < 1 ∨ 6 < L
  · have HR : Hid (dchk d = 1) := dchk_bad_L (by rw [h.eL]; exact g)
    have HW := Lib.hid hw1
    have HAl := Lib.hid (alpha_any L w1 false (decide_eq_false (by omega)).symm)
    clear h hd1 hw1 hc0 hc1 hc2 hX hB1 g
    go_enter Tryd.func39, Tryd.ntmps39
    go_wp2_with fail
    rw [← HW.out]
    clear HW
    refine HAl.out.mono ?_
    rintro e wa ⟨rfl, hwa⟩
    rw [hwa]
    clear hwa HAl
    go_wp2
    go_ret
    exact ⟨by rw [HR.out]; rfl, HB.out⟩
  · obtain ⟨g1, g2⟩ : 1 ≤ L ∧ L ≤ 6 := by omega
    have HAl := Lib.hid (alpha_any L w1 true (decide_eq_true ⟨g1, g2⟩).symm)
    by_cases g3 : 40 < d.next.length
    · have HR : Hid (dchk d = 4) := dchk_bad_n (by rw [h.eL]; exact g) g3
      have HW := Lib.hid hw1
      have HX := Lib.hid hX
      clear h hd1 hw1 hc0 hc1 hc2 hX hB1 g
      generalize d.next.length = n at *
      go_enter Tryd.func39, Tryd.ntmps39
      go_wp2_with fail
      rw [← HW.out]
      clear HW
      refine HAl.out.mono ?_
      rintro e wa ⟨rfl, hwa⟩
      rw [hwa]
      clear hwa HAl
      have hc2 := HX.out.c2
      go_wp2
      go_ret
      exact ⟨by rw [HR.out]; rfl, HB.out⟩
    · by_cases g4 : shaped d
      · have HS := Lib.hid (hasShape_any L s A F c cf d w1 hd1 true (decide_eq_true g4).symm)
        have g3' : d.next.length ≤ 40 := by omega
        by_cases g5 : isSt d s
        · have HI := Lib.hid (fun W => isState_any L s A F d.next.length c d.fin.length cf s W true (decide_eq_true g5).symm)
          have HI2 := Lib.hid (fun x W (hx : isSt d x) => isState_any L s A F d.next.length c d.fin.length cf x W true (decide_eq_true hx).symm)
          have HI3 := Lib.hid (fun x W (hx : ¬ isSt d x) => isState_any L s A F d.next.length c d.fin.length cf x W false (decide_eq_false hx).symm)
          have HY : Hid (∀ r ∈ d.next.take 0, ∀ x ∈ r, isSt d x) := by simp [Hid]
          have HT : Hid ((∀ r ∈ d.next, ∀ x ∈ r, isSt d x) → dchk d = 0) := fun k => dchk_ok (by rw [h.eL]; exact g) g3 g4 (by rw [h.es]; exact g5) k
          have HF : Hid (∀ r ∈ d.next, ∀ x ∈ r, ¬ isSt d x → dchk d = 1) := fun r hr x hx k => dchk_bad_go (by rw [h.eL]; exact g) g3 g4 (by rw [h.es]; exact g5) hr hx k
          have HX := Lib.hid hX
          have HN := Lib.hid hd1.rows
          have HL := Lib.hid h.eL
          have HRow : Hid (∀ r ∈ d.next, (r.length : Int) = d.L) := g4.2.2
          have HW := Lib.hid hw1
          clear h hd1 hw1 hc0 hc1 hc2 hX hB1 g g4 g5 g3
          generalize hm : d.fin.length = m at *
          clear hm
          generalize hn' : d.next.length = n at *
          have HLen := Lib.hid hn'
          clear hn'
          have hc0 := HX.out.c0
          have hc1 := HX.out.c1
          have hc2 := HX.out.c2
          go_enter Tryd.func39, Tryd.ntmps39
          go_wp2_with fail
          rw [← HW.out]
          clear HW
          refine HAl.out.mono ?_
          rintro e wa ⟨rfl, hwa⟩
          rw [hwa]
          clear hwa HAl
          have hc0 := HX.out.c0
          have hc1 := HX.out.c1
          have hc2 := HX.out.c2
          have hc3 := HX.out.c3
          go_wp2_with fail
          refine HS.out.mono ?_
          rintro e w2 ⟨rfl, hb⟩
          have HX := Lib.hid (HX.out.on hb)
          have HN := Lib.hid (HN.out.on hb)
          have HB := Lib.hid (HB.out.trans (hb.mono HB.out.size))
          have hc0 := HX.out.c0
          have hc1 := HX.out.c1
          have hc2 := HX.out.c2
          have hc3 := HX.out.c3
          clear hb HS
          go_wp2_with fail
          refine (HI.out _).mono ?_
          rintro e w3 ⟨rfl, hb⟩
          have HX := Lib.hid (HX.out.on hb)
          have HN := Lib.hid (HN.out.on hb)
          have HB := Lib.hid (HB.out.trans (hb.mono HB.out.size))
          have hc2 := HX.out.c2
          clear hb HI hc0 hc1 hc3
          go_wp2
          clear hc2
          go_loopw [30] (fun i wr => ∃ (k : Nat), k ≤ n ∧ i = .int .i64 k ∧ Hid (∀ r ∈ d.next.take k, ∀ x ∈ r, isSt d x) ∧ Hid (Below w3.heap.size w3 wr)) (fun i _ => n - (intOf i).toNat)
          case atStart => exact ⟨0, by omega, rfl, HY, Below.refl _ _⟩
          case round =>
            clear HY
            obtain ⟨k, hk, rfl, HU, HB3⟩ := hrel
            by_cases hlt : k < n
            · have hlt' : k < d.next.length := by rw [HLen.out]; exact hlt
              have HNw := Lib.hid (HN.out.on HB3.out)
              obtain ⟨ad, A', c', rfl, hadb, hcell, _, _, hz⟩ := HNw.out k _ (List.getElem?_eq_getElem hlt')
              have HZ := Lib.hid hz
              have hm : d.next[k] ∈ d.next := List.getElem_mem hlt'
              have HM := Lib.hid hm
              have hlen := HRow.out _ hm
              rw [HL.out] at hlen
              have h6 : (d.next[k]).length ≤ 6 := by omega
              have HU1 : Hid ((∀ x ∈ d.next[k], isSt d x) → ∀ r ∈ d.next.take (k + 1), ∀ x ∈ r, isSt d x) := fun q => all_take_succ HU.out hlt' q
              have HY : Hid (∀ x ∈ (d.next[k]).take 0, isSt d x) := by simp [Hid]
              clear hz hm hlen HNw
              generalize d.next[k] = r0 at *
              go_wp2
              obtain ⟨wo, rfl⟩ : ∃ wo : World, wo = wr := ⟨_, rfl⟩
              clear hcell
              go_loopw [36] (fun i wi => ∃ (j : Nat), j ≤ r0.length ∧ i = .int .i64 j ∧ Hid (∀ x ∈ r0.take j, isSt d x) ∧ Hid (Below wo.heap.size wo wi)) (fun i _ => r0.length - (intOf i).toNat)
              case atStart => exact ⟨0, by omega, rfl, HY, Below.refl _ _⟩
              case round =>
                clear HY
                obtain ⟨j, hj, rfl, HV, HB4⟩ := hrel
                by_cases hlj : j < r0.length
                · obtain ⟨ad2, rfl, hadb2, hcell2, hs1, hs2⟩ := (HZ.out.on HB4.out).at_ j hlj
                  have HXw := Lib.hid ((HX.out.on HB3.out).on HB4.out)
                  have hc0 := HXw.out.c0
                  have hc1 := HXw.out.c1
                  have hc2 := HXw.out.c2
                  have hc3 := HXw.out.c3
                  have HBw := Lib.hid ((HB.out.trans (HB3.out.mono HB.out.size)).trans (HB4.out.mono (Nat.le_trans HB.out.size HB3.out.size)))
                  by_cases he : isSt d r0[j]
                  · have HC := Lib.hid (HI2.out r0[j] wr he)
                    have HV1 := Lib.hid (all_take_succ HV.out hlj he)
                    clear he HF
                    generalize r0[j] = x at *
                    go_wp2_with fail
                    refine HC.out.mono ?_
                    rintro e w5 ⟨rfl, hb⟩
                    have HB5 := Lib.hid (HB4.out.trans (hb.mono HB4.out.size))
                    clear hb HC
                    go_wp2
                    go_roundw
                    case rel => exact ⟨j + 1, by omega, by go_num, HV1, HB5⟩
                    case measure => simp [intOf]; omega
                  · have HC := Lib.hid (HI3.out r0[j] wr he)
                    have HR := Lib.hid (HF.out _ HM.out _ (List.getElem_mem hlj) he)
                    clear he HF
                    generalize r0[j] = x at *
                    go_wp2_with fail
                    refine HC.out.mono ?_
                    rintro e w5 ⟨rfl, hb⟩
                    have HB5 := Lib.hid (HBw.out.trans (hb.mono HBw.out.size))
                    clear hb HC
                    go_wp2
                    go_ret
                    exact ⟨by rw [HR.out]; rfl, HB5.out⟩
                · have HV1 := Lib.hid (HU1.out (all_take_end HV.out (by omega)))
                  have HB5 := Lib.hid (HB3.out.trans (HB4.out.mono HB3.out.size))
                  go_wp2
                  go_roundw
                  case rel => exact ⟨k + 1, by omega, by go_num, HV1, HB5⟩
                  case measure => simp [intOf]; omega
            · have HR := Lib.hid (HT.out (all_take_end HU.out (by rw [HLen.out]; omega)))
              have HB5 := Lib.hid (HB.out.trans (HB3.out.mono HB.out.size))
              go_wp2
              go_ret
              exact ⟨by rw [HR.out]; rfl, HB5.out⟩
        · have HR : Hid (dchk d = 1) := dchk_bad_s (by rw [h.eL]; exact g) g3 g4 (by rw [h.es]; exact g5)
          have HI := Lib.hid (fun W => isState_any L s A F d.next.length c d.fin.length cf s W false (decide_eq_false g5).symm)
          have HX := Lib.hid hX
          have HW := Lib.hid hw1
          clear h hd1 hw1 hc0 hc1 hc2 hX hB1 g g4 g5 g3
          generalize d.fin.length = m at *
          generalize d.next.length = n at *
          have hc0 := HX.out.c0
          have hc1 := HX.out.c1
          have hc2 := HX.out.c2
          go_enter Tryd.func39, Tryd.ntmps39
          go_wp2_with fail
          rw [← HW.out]
          clear HW
          refine HAl.out.mono ?_
          rintro e wa ⟨rfl, hwa⟩
          rw [hwa]
          clear hwa HAl
          have hc0 := HX.out.c0
          have hc1 := HX.out.c1
          have hc2 := HX.out.c2
          have hc3 := HX.out.c3
          go_wp2_with fail
          refine HS.out.mono ?_
          rintro e w2 ⟨rfl, hb⟩
          have HX := Lib.hid (HX.out.on hb)
          have HB := Lib.hid (HB.out.trans (hb.mono HB.out.size))
          have hc0 := HX.out.c0
          have hc1 := HX.out.c1
          have hc2 := HX.out.c2
          have hc3 := HX.out.c3
          clear hb HS
          go_wp2_with fail
          refine (HI.out _).mono ?_
          rintro e w3 ⟨rfl, hb⟩
          have HB := Lib.hid (HB.out.trans (hb.mono HB.out.size))
          clear hb HI hc0 hc1 hc3
          go_wp2
          go_ret
          exact ⟨by rw [HR.out]; rfl, HB.out⟩
      · have HR : Hid (dchk d = 3) := dchk_bad_shape (by rw [h.eL]; exact g) g3 g4
        have HS := Lib.hid (hasShape_any L s A F c cf d w1 hd1 false (decide_eq_false g4).symm)
        have HW := Lib.hid hw1
        have HX := Lib.hid hX
        have g3 : d.next.length ≤ 40 := by omega
        clear h hd1 hw1 hc0 hc1 hc2 hX hB1 g g4
        generalize d.next.length = n at *
        generalize d.fin.length = m at *
        go_enter Tryd.func39, Tryd.ntmps39
        go_wp2_with fail
        rw [← HW.out]
        clear HW
        refine HAl.out.mono ?_
        rintro e wa ⟨rfl, hwa⟩
        rw [hwa]
        clear hwa HAl
        have hc0 := HX.out.c0
        have hc1 := HX.out.c1
        have hc2 := HX.out.c2
        have hc3 := HX.out.c3
        go_wp2_with fail
        refine HS.out.mono ?_
        rintro e w2 ⟨rfl, hb⟩
        have HB2 := Lib.hid (HB.out.trans (hb.mono HB.out.size))
        clear hb
        go_wp2
        go_ret
        exact ⟨by rw [HR.out]; rfl, HB2.out⟩
/-- Check, by its two ways. -/
theorem dcheck_ok {v : Value} {d : Aut} {w : World} (h : DfaAt w w.heap.size v d) (g : dchk d = 0) :
    Calls Tryd.prog 39 #[v] w fun e w' => e = .returned .nilIface ∧ Below w.heap.size w w' :=
  (dcheck_any v d w h).mono fun e w' ⟨he, hw⟩ => ⟨by rw [he.out, g]; rfl, hw⟩
theorem dcheck_bad {v : Value} {d : Aut} {w : World} (h : DfaAt w w.heap.size v d) {e0 : Nat} (g : dchk d = e0 + 1) {x : Int} (hx : x = ((e0 + 1 : Nat) : Int)) :
    Calls Tryd.prog 39 #[v] w fun e w' => e = .returned (.iface 58 (.int .i64 x)) ∧ Below w.heap.size w w' :=
  (dcheck_any v d w h).mono fun e w' ⟨he, hw⟩ => ⟨by rw [he.out, g, hx]; rfl, hw⟩

/-! ### Run and Accepts -/
/-- An error's number as an interface value. -/
abbrev errI (x : Int) : Value := .iface 58 (.int .i64 x)
theorem errV_succ (n : Nat) : errV (n + 1) = errI ((n + 1 : Nat) : Int) := rfl
end Go.Proofs.YtbciefeipiphiaaDoor.Df
