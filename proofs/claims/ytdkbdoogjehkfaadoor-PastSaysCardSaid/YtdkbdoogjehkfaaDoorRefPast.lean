/- The walks of the document's answers for formulas that look back: Ahead, Feed, PastTable. -/
import Derived.Test.YtdkbdoogjehkfaaDoorRefTab
import Derived.Test.YtdkbdoogjehkfaaDoorPastW
namespace Go.Proofs.YtdkbdoogjehkfaaDoor.Fm
open Go.RowKit Go.IntWalk Go.Proofs.YtdkbdoogjehkfaaDoor.Wd Go.Proofs.YtdkbdoogjehkfaaDoor.Wo

set_option maxRecDepth 100000 in
set_option maxHeartbeats 4000000 in
theorem rahead_any {L : Int} (A : Option Addr) (c : Nat) (f : List Nd) (w : World) (hA : NodesAt w w.heap.size A f) (hg : FGood L (mrF f)) :
    Calls Tryd.prog 16 #[.slice A f.length c] w fun e w' => Hid (∃ v, e = .returned v ∧ Own w w' [eNodes v (mrF f)] []) := by
  have HO0 : Hid (Own w w [eNodes (.slice none 0 0) ((mrF f).take 0)] []) := (own_start w).nil 57 3
  have HA := Lib.hid (fun wr (h : Below w.heap.size w wr) => hA.on h)
  have HG := Lib.hid hg
  have hn40 := hg.le
  rw [mrF_length] at hn40
  obtain ⟨N, hN⟩ : ∃ N, f.length = N := ⟨_, rfl⟩
  have HN := Lib.hid hN
  rw [hN] at hn40 ⊢
  clear hN hA hg
  go_enter Tryd.func16, Tryd.ntmps16
  go_wp2
  go_loopw [3, 4] (fun v s wr => ∃ (k : Nat), k ≤ N ∧ s = .int .i64 k ∧ Hid (Own w wr [eNodes v ((mrF f).take k)] [])) (fun _ s _ => N - (intOf s).toNat)
  case atStart => exact ⟨0, by omega, rfl, HO0⟩
  case round =>
    clear HO0
    obtain ⟨k, hk, rfl, HO⟩ := hrel
    by_cases hlt : k < N
    · obtain ⟨nd, hnd⟩ : ∃ n, f[k]? = some n := ⟨_, List.getElem?_eq_getElem (by rw [HN.out]; exact hlt)⟩
      obtain ⟨ad, e, hadb, c0, c1, c2⟩ := (HA.out _ HO.out.below).at_ hnd
      subst e
      have HS := Lib.hid (mrF_snoc hnd)
      have hkd := past_kinds (HG.out.nd k _ (mrF_at hnd))
      obtain ⟨x, y, z⟩ := nd
      simp only at c0 c1 c2 hkd
      have e1 : (k : Int) < (N : Int) := by omega
      have hln : ((mrF f).take k).length < 1099511627776 := by rw [List.length_take]; omega
      obtain ⟨P, hP⟩ : ∃ P, P = (mrF f).take k := ⟨_, rfl⟩
      rw [← hP] at HS HO hln
      clear hP hnd
      have HSz := Lib.hid (fun o : Obj => show (wr.alloc o).heap.size = wr.heap.size + 1 by simp)
      have HS2 : Hid (P ++ [(mrk x, y, z)] = (mrF f).take (k + 1)) := HS.out.symm
      clear HS
      have hx : (decide (x ≥ 10) = false ∧ decide (10 ≤ x) = false ∧ mrk x = x ∧ x < 10) ∨ x = 10 ∨ x = 11 := by
        rcases hkd with rfl | rfl | rfl | rfl | rfl | rfl | rfl | rfl <;> first | exact .inl ⟨rfl, rfl, rfl, by decide⟩ | exact .inr (.inl rfl) | exact .inr (.inr rfl)
      clear hkd
      rcases hx with ⟨hx1, hx2, hx3, hx4⟩ | rfl | rfl
      · rw [hx3] at HS2
        clear hx3
        go_wp2_with (at_builtin; refine own_node (m := (x, y, z)) (by rfl) _ _ (by rfl) (by rfl) ((HO.out).alloc (.cells #[.int .i64 x, .int .i64 y, .int .i64 z] 57)) (by rw [HSz.out]; rfl) hln ?_)
        intro g6 cap6 w6 ho6
        have HE : Hid (Own w w6 [eNodes (.slice (some ⟨g6, 0, none⟩) (P.length + 1) cap6) ((mrF f).take (k + 1))] []) := by
          rw [← HS2.out]; exact ho6
        clear ho6 HO HS2 HSz hln
        go_wp2
        go_roundw
        case rel => exact ⟨k + 1, by omega, by go_num, HE⟩
        case measure => simp [intOf]; omega
      · go_wp2_with (at_builtin; refine own_node (m := (6, y, z)) (by rfl) _ _ (by rfl) (by rfl) ((HO.out).alloc (.cells #[.int .i64 6, .int .i64 y, .int .i64 z] 57)) (by rw [HSz.out]; rfl) hln ?_)
        intro g6 cap6 w6 ho6
        have HE : Hid (Own w w6 [eNodes (.slice (some ⟨g6, 0, none⟩) (P.length + 1) cap6) ((mrF f).take (k + 1))] []) := by
          rw [← HS2.out]; exact ho6
        clear ho6 HO HS2 HSz hln
        go_wp2
        go_roundw
        case rel => exact ⟨k + 1, by omega, by go_num, HE⟩
        case measure => simp [intOf]; omega
      · go_wp2_with (at_builtin; refine own_node (m := (8, y, z)) (by rfl) _ _ (by rfl) (by rfl) ((HO.out).alloc (.cells #[.int .i64 8, .int .i64 y, .int .i64 z] 57)) (by rw [HSz.out]; rfl) hln ?_)
        intro g6 cap6 w6 ho6
        have HE : Hid (Own w w6 [eNodes (.slice (some ⟨g6, 0, none⟩) (P.length + 1) cap6) ((mrF f).take (k + 1))] []) := by
          rw [← HS2.out]; exact ho6
        clear ho6 HO HS2 HSz hln
        go_wp2
        go_roundw
        case rel => exact ⟨k + 1, by omega, by go_num, HE⟩
        case measure => simp [intOf]; omega
    · obtain rfl : k = N := by omega
      have ho := HO.out
      rw [List.take_of_length_le (by rw [mrF_length, HN.out]; exact Nat.le_refl _)] at ho
      have HE := Lib.hid ho
      clear ho HO
      go_wp2
      go_ret
      exact ⟨_, rfl, HE.out⟩
set_option maxRecDepth 100000 in
set_option maxHeartbeats 8000000 in
theorem rfeed_any {L : Int} (A0 : Option Addr) (c : Nat) (f : List Nd) (B : Option Addr) (cb : Nat) (T : List Bool) (a : Int) (w : World) (hA : NodesAt w w.heap.size A0 f) (hg : FGood L (mrF f)) (hT : T.length = f.length) (hB : Df.BoolsAt w w.heap.size B T) (ha0 : 0 ≤ a) (ha6 : a ≤ 6) :
    Calls Tryd.prog 14 #[.slice A0 f.length c, .slice B f.length cb, .int .i64 a] w fun e w' => Hid (∃ v, e = .returned v ∧ Own w w' [eBools v (nxt (mrF f) T a)] []) := by
  have hn40 := hg.le
  rw [mrF_length] at hn40
  have HG := Lib.hid hg
  have HA := Lib.hid (fun wr (h : Below w.heap.size w wr) => hA.on h)
  have HT := Lib.hid (fun wr (h : Below w.heap.size w wr) => hB.on h)
  have HK := Lib.hid (fun (k : Nat) (n : Nd) (hn : f[k]? = some n) => nxt_at hg.nd T a (mrF_at hn) (l := (nxt (mrF f) T a).take k) fun i hi => by
    rw [List.getD_eq_getElem?_getD, List.getD_eq_getElem?_getD, List.getElem?_take, if_pos hi])
  have HVl : Hid ((nxt (mrF f) T a).length = f.length) := by rw [Hid, nxt_length, mrF_length]
  have HTl := Lib.hid hT
  have hp6 : (2 : Int) ^ L.toNat ≤ 64 := by
    obtain ⟨P, _, h2, _, h4⟩ := shl_lim hg.l1 hg.l6
    rw [h2]; exact h4
  have HPow := Lib.hid hp6
  generalize nxt (mrF f) T a = V at *
  have HO0 : Hid (Own w w [eBools (.slice none 0 0) (V.take 0)] []) := (own_start w).nil 4 1
  obtain ⟨N, hN⟩ : ∃ N, f.length = N := ⟨_, rfl⟩
  have HN := Lib.hid hN
  rw [hN] at hn40 HVl HTl ⊢
  clear hN hA hg hT hB hp6
  go_enter Tryd.func14, Tryd.ntmps14
  go_wp2
  go_loopw [7, 8] (fun v s wr => ∃ (k : Nat), k ≤ N ∧ s = .int .i64 k ∧ Hid (Own w wr [eBools v (V.take k)] [])) (fun _ s _ => N - (intOf s).toNat)
  case atStart => exact ⟨0, by omega, rfl, HO0⟩
  case round =>
    clear HO0
    obtain ⟨k, hk, rfl, HO⟩ := hrel
    by_cases hlt : k < N
    · obtain ⟨nd, hnd⟩ : ∃ n, f[k]? = some n := ⟨_, List.getElem?_eq_getElem (by rw [HN.out]; exact hlt)⟩
      obtain ⟨ad, e, hadb, c0, c1, c2⟩ := (HA.out _ HO.out.below).at_ hnd
      subst e
      have HVk0 := HK.out k nd hnd
      have gd := HG.out.nd k _ (mrF_at hnd)
      have hkd := past_kinds gd
      obtain ⟨x, y, z⟩ := nd
      simp only at c0 c1 c2 hkd
      have hst : mrk x = 2 → 0 ≤ y ∧ y < 2 ^ L.toNat := gd.set
      have ha1 : 1 ≤ ops (mrk x) → 0 ≤ y ∧ y < (k : Int) := gd.a1
      have hb2 : ops (mrk x) = 2 → 0 ≤ z ∧ z < (k : Int) := gd.b2
      have e1 : (k : Int) < (N : Int) := by omega
      have hPl : (V.take k).length = k := by rw [List.length_take]; have := HVl.out; omega
      have HPk : Hid (∀ b, V[k]? = some b → V.take k ++ [b] = V.take (k + 1)) := fun b hb => by
        obtain ⟨h1, h2⟩ := List.getElem?_eq_some_iff.1 hb
        rw [← List.take_append_getElem h1, h2]
      obtain ⟨A9, c9, e9, h91, h92, HB9⟩ := Df.own_bools HO.out List.mem_cons_self
      rw [hPl] at e9 h91
      subst e9
      have HTw := Lib.hid (HT.out _ HO.out.below)
      have HP9 := Lib.hid HB9
      have HSz := Lib.hid (fun o : Obj => show (wr.alloc o).heap.size = wr.heap.size + 1 by simp)
      obtain ⟨P, hP⟩ : ∃ P, P = V.take k := ⟨_, rfl⟩
      rw [← hP] at HVk0 HO hPl HPk HP9
      have HVk := Lib.hid HVk0
      have HPl := Lib.hid hPl
      have hln : P.length < 17592186044416 := by omega
      have HB1 := Lib.hid (bel_alloc wr (.cells #[.int .i64 x, .int .i64 y, .int .i64 z] 57))
      clear hP hnd gd HVk0 hPl HB9
      rcases hkd with rfl | rfl | rfl | rfl | rfl | rfl | rfl | rfl
      · have HVb : Hid (V[k]? = some true) := HVk.out
        clear HVk HP9 HTw ha1 hb2 hst HB1
        go_wp2_with (at_builtin; refine own_bool (y := true) (by rfl) _ _ (by rfl) (by rfl) ((HO.out).alloc (.cells #[.int .i64 0, .int .i64 y, .int .i64 z] 57)) (by rw [HSz.out]; rfl) hln ?_)
        intro g6 cap6 w6 ho6
        have HE : Hid (Own w w6 [eBools (.slice (some ⟨g6, 0, none⟩) (P.length + 1) cap6) (V.take (k + 1))] []) := by
          rw [← HPk.out _ HVb.out]; exact ho6
        clear ho6 HO HPk HSz hln HVb
        go_wp2
        go_roundw
        case rel => exact ⟨k + 1, by omega, by go_num, HE⟩
        case measure => simp [intOf]; omega
      · have HVb : Hid (V[k]? = some false) := HVk.out
        clear HVk HP9 HTw ha1 hb2 hst HB1
        go_wp2_with (at_builtin; refine own_bool (y := false) (by rfl) _ _ (by rfl) (by rfl) ((HO.out).alloc (.cells #[.int .i64 1, .int .i64 y, .int .i64 z] 57)) (by rw [HSz.out]; rfl) hln ?_)
        intro g6 cap6 w6 ho6
        have HE : Hid (Own w w6 [eBools (.slice (some ⟨g6, 0, none⟩) (P.length + 1) cap6) (V.take (k + 1))] []) := by
          rw [← HPk.out _ HVb.out]; exact ho6
        clear ho6 HO HPk HSz hln HVb
        go_wp2
        go_roundw
        case rel => exact ⟨k + 1, by omega, by go_num, HE⟩
        case measure => simp [intOf]; omega
      · have hy := hst rfl
        have HVb : Hid (V[k]? = some (y.toNat.testBit a.toNat)) := HVk.out
        rw [← has_test] at HVb
        have HBt := Lib.hid (fun W => (bit_any y a W hy.1 (by have := hy.2; have := HPow.out; omega) ha0 (by omega)).mono (R' := fun e w' => e = .returned (.bool (has y a)) ∧ w' = W) fun e w' ⟨h1, h2⟩ => ⟨h1.out, h2.symm⟩)
        generalize has y a = b at *
        clear hy
        clear HVk HP9 HTw ha1 hb2 hst HB1
        go_wp2_with fail
        refine (HBt.out _).mono ?_
        rintro e w5 ⟨rfl, rfl⟩
        clear HBt
        go_wp2_with (at_builtin; refine own_bool (y := b) (by rfl) _ _ (by rfl) (by rfl) ((HO.out).alloc (.cells #[.int .i64 2, .int .i64 y, .int .i64 z] 57)) (by rw [HSz.out]; rfl) hln ?_)
        intro g6 cap6 w6 ho6
        have HE : Hid (Own w w6 [eBools (.slice (some ⟨g6, 0, none⟩) (P.length + 1) cap6) (V.take (k + 1))] []) := by
          rw [← HPk.out _ HVb.out]; exact ho6
        clear ho6 HO HPk HSz hln HVb
        go_wp2
        go_roundw
        case rel => exact ⟨k + 1, by omega, by go_num, HE⟩
        case measure => simp [intOf]; omega
      · have HVb : Hid (V[k]? = some (!P.getD y.toNat false)) := HVk.out
        obtain ⟨i, rfl, hi⟩ := nat_of (ha1 (by decide))
        obtain ⟨b, hb1⟩ := some_at (l := P) (i := i) (by have := HPl.out; omega)
        obtain ⟨ad1, eq1, bd1, cell1, _⟩ := (HP9.out.on HB1.out).at_ hb1
        rw [Int.toNat_natCast, getD_at hb1] at HVb
        subst eq1
        have e2 : (i : Int) < (k : Int) := by omega
        clear hb1
        clear HVk HP9 HTw ha1 hb2 hst HB1
        go_wp2_with (at_builtin; refine own_bool (y := !b) (by rfl) _ _ (by rfl) (by rfl) ((HO.out).alloc (.cells #[.int .i64 3, .int .i64 (i : Int), .int .i64 z] 57)) (by rw [HSz.out]; rfl) hln ?_)
        intro g6 cap6 w6 ho6
        have HE : Hid (Own w w6 [eBools (.slice (some ⟨g6, 0, none⟩) (P.length + 1) cap6) (V.take (k + 1))] []) := by
          rw [← HPk.out _ HVb.out]; exact ho6
        clear ho6 HO HPk HSz hln HVb
        go_wp2
        go_roundw
        case rel => exact ⟨k + 1, by omega, by go_num, HE⟩
        case measure => simp [intOf]; omega
      · have HVb : Hid (V[k]? = some (P.getD y.toNat false && P.getD z.toNat false)) := HVk.out
        obtain ⟨i, rfl, hi⟩ := nat_of (ha1 (by decide))
        obtain ⟨j, rfl, hj⟩ := nat_of (hb2 (by decide))
        obtain ⟨b, hb1⟩ := some_at (l := P) (i := i) (by have := HPl.out; omega)
        obtain ⟨ad1, eq1, bd1, cell1, _⟩ := (HP9.out.on HB1.out).at_ hb1
        obtain ⟨d, hb2⟩ := some_at (l := P) (i := j) (by have := HPl.out; omega)
        obtain ⟨ad2, eq2, bd2, cell2, _⟩ := (HP9.out.on HB1.out).at_ hb2
        rw [Int.toNat_natCast, Int.toNat_natCast, getD_at hb1, getD_at hb2] at HVb
        have e3 : (i : Int) < (k : Int) := by omega
        have e4 : (j : Int) < (k : Int) := by omega
        subst eq1
        obtain rfl := Option.some.inj eq2
        clear hb1 hb2 eq2
        clear HVk HP9 HTw ha1 hb2 hst HB1
        rcases b with _ | _
        · rw [Bool.false_and] at HVb
          go_wp2_with (at_builtin; refine own_bool (y := false) (by rfl) _ _ (by rfl) (by rfl) ((HO.out).alloc (.cells #[.int .i64 4, .int .i64 (i : Int), .int .i64 (j : Int)] 57)) (by rw [HSz.out]; rfl) hln ?_)
          intro g6 cap6 w6 ho6
          have HE : Hid (Own w w6 [eBools (.slice (some ⟨g6, 0, none⟩) (P.length + 1) cap6) (V.take (k + 1))] []) := by
            rw [← HPk.out _ HVb.out]; exact ho6
          clear ho6 HO HPk HSz hln HVb
          go_wp2
          go_roundw
          case rel => exact ⟨k + 1, by omega, by go_num, HE⟩
          case measure => simp [intOf]; omega
        · rw [Bool.true_and] at HVb
          go_wp2_with (at_builtin; refine own_bool (y := d) (by rfl) _ _ (by rfl) (by rfl) ((HO.out).alloc (.cells #[.int .i64 4, .int .i64 (i : Int), .int .i64 (j : Int)] 57)) (by rw [HSz.out]; rfl) hln ?_)
          intro g6 cap6 w6 ho6
          have HE : Hid (Own w w6 [eBools (.slice (some ⟨g6, 0, none⟩) (P.length + 1) cap6) (V.take (k + 1))] []) := by
            rw [← HPk.out _ HVb.out]; exact ho6
          clear ho6 HO HPk HSz hln HVb
          go_wp2
          go_roundw
          case rel => exact ⟨k + 1, by omega, by go_num, HE⟩
          case measure => simp [intOf]; omega
      · have HVb : Hid (V[k]? = some (P.getD y.toNat false || P.getD z.toNat false)) := HVk.out
        obtain ⟨i, rfl, hi⟩ := nat_of (ha1 (by decide))
        obtain ⟨j, rfl, hj⟩ := nat_of (hb2 (by decide))
        obtain ⟨b, hb1⟩ := some_at (l := P) (i := i) (by have := HPl.out; omega)
        obtain ⟨ad1, eq1, bd1, cell1, _⟩ := (HP9.out.on HB1.out).at_ hb1
        obtain ⟨d, hb2⟩ := some_at (l := P) (i := j) (by have := HPl.out; omega)
        obtain ⟨ad2, eq2, bd2, cell2, _⟩ := (HP9.out.on HB1.out).at_ hb2
        rw [Int.toNat_natCast, Int.toNat_natCast, getD_at hb1, getD_at hb2] at HVb
        have e3 : (i : Int) < (k : Int) := by omega
        have e4 : (j : Int) < (k : Int) := by omega
        subst eq1
        obtain rfl := Option.some.inj eq2
        clear hb1 hb2 eq2
        clear HVk HP9 HTw ha1 hb2 hst HB1
        rcases b with _ | _
        · rw [Bool.false_or] at HVb
          go_wp2_with (at_builtin; refine own_bool (y := d) (by rfl) _ _ (by rfl) (by rfl) ((HO.out).alloc (.cells #[.int .i64 5, .int .i64 (i : Int), .int .i64 (j : Int)] 57)) (by rw [HSz.out]; rfl) hln ?_)
          intro g6 cap6 w6 ho6
          have HE : Hid (Own w w6 [eBools (.slice (some ⟨g6, 0, none⟩) (P.length + 1) cap6) (V.take (k + 1))] []) := by
            rw [← HPk.out _ HVb.out]; exact ho6
          clear ho6 HO HPk HSz hln HVb
          go_wp2
          go_roundw
          case rel => exact ⟨k + 1, by omega, by go_num, HE⟩
          case measure => simp [intOf]; omega
        · rw [Bool.true_or] at HVb
          go_wp2_with (at_builtin; refine own_bool (y := true) (by rfl) _ _ (by rfl) (by rfl) ((HO.out).alloc (.cells #[.int .i64 5, .int .i64 (i : Int), .int .i64 (j : Int)] 57)) (by rw [HSz.out]; rfl) hln ?_)
          intro g6 cap6 w6 ho6
          have HE : Hid (Own w w6 [eBools (.slice (some ⟨g6, 0, none⟩) (P.length + 1) cap6) (V.take (k + 1))] []) := by
            rw [← HPk.out _ HVb.out]; exact ho6
          clear ho6 HO HPk HSz hln HVb
          go_wp2
          go_roundw
          case rel => exact ⟨k + 1, by omega, by go_num, HE⟩
          case measure => simp [intOf]; omega
      · have HVb : Hid (V[k]? = some (T.getD y.toNat false)) := HVk.out
        obtain ⟨i, rfl, hi⟩ := nat_of (ha1 (by decide))
        obtain ⟨b, hb1⟩ := some_at (l := T) (i := i) (by have := HTl.out; omega)
        obtain ⟨ad1, eq1, bd1, cell1, _⟩ := (HTw.out.on HB1.out).at_ hb1
        rw [Int.toNat_natCast, getD_at hb1] at HVb
        subst eq1
        have e2 : (i : Int) < (N : Int) := by omega
        clear hb1
        clear HVk HP9 HTw ha1 hb2 hst HB1
        go_wp2_with (at_builtin; refine own_bool (y := b) (by rfl) _ _ (by rfl) (by rfl) ((HO.out).alloc (.cells #[.int .i64 10, .int .i64 (i : Int), .int .i64 z] 57)) (by rw [HSz.out]; rfl) hln ?_)
        intro g6 cap6 w6 ho6
        have HE : Hid (Own w w6 [eBools (.slice (some ⟨g6, 0, none⟩) (P.length + 1) cap6) (V.take (k + 1))] []) := by
          rw [← HPk.out _ HVb.out]; exact ho6
        clear ho6 HO HPk HSz hln HVb
        go_wp2
        go_roundw
        case rel => exact ⟨k + 1, by omega, by go_num, HE⟩
        case measure => simp [intOf]; omega
      · have HVb : Hid (V[k]? = some (P.getD z.toNat false || (P.getD y.toNat false && T.getD k false))) := HVk.out
        obtain ⟨i, rfl, hi⟩ := nat_of (ha1 (by decide))
        obtain ⟨j, rfl, hj⟩ := nat_of (hb2 (by decide))
        obtain ⟨b, hb1⟩ := some_at (l := P) (i := j) (by have := HPl.out; omega)
        obtain ⟨ad1, eq1, bd1, cell1, _⟩ := (HP9.out.on HB1.out).at_ hb1
        obtain ⟨d, hb2⟩ := some_at (l := P) (i := i) (by have := HPl.out; omega)
        obtain ⟨ad2, eq2, bd2, cell2, _⟩ := (HP9.out.on HB1.out).at_ hb2
        obtain ⟨t, hb3⟩ := some_at (l := T) (i := k) (by have := HTl.out; omega)
        obtain ⟨ad3, eq3, bd3, cell3, _⟩ := (HTw.out.on HB1.out).at_ hb3
        rw [Int.toNat_natCast, Int.toNat_natCast, getD_at hb1, getD_at hb2, getD_at hb3] at HVb
        have e3 : (i : Int) < (k : Int) := by omega
        have e4 : (j : Int) < (k : Int) := by omega
        subst eq1 eq3
        obtain rfl := Option.some.inj eq2
        clear hb1 hb2 hb3 eq2
        clear HVk HP9 HTw ha1 hb2 hst HB1
        rcases b with _ | _
        · rw [Bool.false_or] at HVb
          rcases d with _ | _
          · rw [Bool.false_and] at HVb
            go_wp2_with (at_builtin; refine own_bool (y := false) (by rfl) _ _ (by rfl) (by rfl) ((HO.out).alloc (.cells #[.int .i64 11, .int .i64 (i : Int), .int .i64 (j : Int)] 57)) (by rw [HSz.out]; rfl) hln ?_)
            intro g6 cap6 w6 ho6
            have HE : Hid (Own w w6 [eBools (.slice (some ⟨g6, 0, none⟩) (P.length + 1) cap6) (V.take (k + 1))] []) := by
              rw [← HPk.out _ HVb.out]; exact ho6
            clear ho6 HO HPk HSz hln HVb
            go_wp2
            go_roundw
            case rel => exact ⟨k + 1, by omega, by go_num, HE⟩
            case measure => simp [intOf]; omega
          · rw [Bool.true_and] at HVb
            go_wp2_with (at_builtin; refine own_bool (y := t) (by rfl) _ _ (by rfl) (by rfl) ((HO.out).alloc (.cells #[.int .i64 11, .int .i64 (i : Int), .int .i64 (j : Int)] 57)) (by rw [HSz.out]; rfl) hln ?_)
            intro g6 cap6 w6 ho6
            have HE : Hid (Own w w6 [eBools (.slice (some ⟨g6, 0, none⟩) (P.length + 1) cap6) (V.take (k + 1))] []) := by
              rw [← HPk.out _ HVb.out]; exact ho6
            clear ho6 HO HPk HSz hln HVb
            go_wp2
            go_roundw
            case rel => exact ⟨k + 1, by omega, by go_num, HE⟩
            case measure => simp [intOf]; omega
        · rw [Bool.true_or] at HVb
          go_wp2_with (at_builtin; refine own_bool (y := true) (by rfl) _ _ (by rfl) (by rfl) ((HO.out).alloc (.cells #[.int .i64 11, .int .i64 (i : Int), .int .i64 (j : Int)] 57)) (by rw [HSz.out]; rfl) hln ?_)
          intro g6 cap6 w6 ho6
          have HE : Hid (Own w w6 [eBools (.slice (some ⟨g6, 0, none⟩) (P.length + 1) cap6) (V.take (k + 1))] []) := by
            rw [← HPk.out _ HVb.out]; exact ho6
          clear ho6 HO HPk HSz hln HVb
          go_wp2
          go_roundw
          case rel => exact ⟨k + 1, by omega, by go_num, HE⟩
          case measure => simp [intOf]; omega
    · obtain rfl : k = N := by omega
      have ho := HO.out
      rw [List.take_of_length_le (by rw [HVl.out]; exact Nat.le_refl _)] at ho
      have HE := Lib.hid ho
      clear ho HO
      go_wp2
      go_ret
      exact ⟨_, rfl, HE.out⟩
end Go.Proofs.YtdkbdoogjehkfaaDoor.Fm
