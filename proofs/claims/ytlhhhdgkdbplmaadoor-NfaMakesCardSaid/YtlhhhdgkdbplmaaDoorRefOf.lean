/- The walk of the reference's NfaOf. -/
import Derived.Test.YtlhhhdgkdbplmaaDoorRefMs
namespace Go.Proofs.YtlhhhdgkdbplmaaDoor.Nf
open Go.RowKit Go.IntWalk Go.Proofs.YtlhhhdgkdbplmaaDoor.Wd Go.Proofs.YtlhhhdgkdbplmaaDoor.Wo Go.Proofs.YtlhhhdgkdbplmaaDoor.Df

set_option linter.unusedSimpArgs false in
set_option maxRecDepth 100000 in
set_option maxHeartbeats 16000000 in
theorem rof_any (v : Value) (d : Aut) (w : World) (h : DfaAt w w.heap.size v d) (hg : Df.Good d) :
    Calls Tryd.prog 17 #[v] w fun e w' => Hid (∃ x, e = .returned x ∧ NfaOwn w w' x (ofA d)) ∧ Below w.heap.size w w' := by
  obtain ⟨L, s0, A, c, F, cf, rfl, h⟩ := h
  obtain ⟨w1, hw1, hB1, hX1, hd1⟩ := box_dfa w h
  have hs1 : w1.heap.size = w.heap.size + 1 := by rw [hw1]; simp
  have HB := Lib.hid hB1
  have HW := Lib.hid hw1
  have HX := Lib.hid hX1
  have HD := Lib.hid hd1
  have HG : Hid (Df.Good d) := hg
  have HE2 : Hid (d.L = L ∧ d.s = s0) := ⟨h.eL, h.es⟩
  obtain ⟨n, hn⟩ := Int.eq_ofNat_of_zero_le (show 0 ≤ L by have := hg.l1; have := HE2.out.1; omega)
  have HL : Hid (d.L = (n : Int) ∧ d.L.toNat = n) := ⟨by rw [HE2.out.1, hn], by rw [HE2.out.1, hn]; rfl⟩
  have hn6 : n ≤ 6 := by have := hg.l6; have := HL.out.1; omega
  have h40 := hg.n40
  have hfn := hg.fin
  subst hn
  have HO := own_nfa_new (own_nfa_new (own_start w1) (.int .i64 0) (.int .i64 0) (.slice none 0 0) (.slice none 0 0) (.slice none 0 0)) (.int .i64 (n : Int)) (.int .i64 (d.next.length : Int)) (.slice none 0 0) (.slice none 0 0) (.slice none 0 0)
  rw [show (w1.alloc (.cells #[.int .i64 0, .int .i64 0, .slice none 0 0, .slice none 0 0, .slice none 0 0] 25)).heap.size = w1.heap.size + 1 by simp] at HO
  have HO3 := ((HO.nil 3 1).nil 64 3).nil 3 1
  obtain ⟨gr, hgr⟩ : ∃ gr, gr = w.heap.size + 1 := ⟨_, rfl⟩
  obtain ⟨gm, hgm⟩ : ∃ gm, gm = gr + 1 := ⟨_, rfl⟩
  rw [hs1, ← hgr, ← hgm] at HO3
  obtain ⟨w3, hw3⟩ : ∃ w3, w3 = (w1.alloc (.cells #[.int .i64 0, .int .i64 0, .slice none 0 0, .slice none 0 0, .slice none 0 0] 25)).alloc (.cells #[.int .i64 (n : Int), .int .i64 (d.next.length : Int), .slice none 0 0, .slice none 0 0, .slice none 0 0] 25) := ⟨_, rfl⟩
  rw [← hw3] at HO3
  have HI1 : Hid (MrI w1 w3 gm gr (n : Int) (d.next.length : Int) (.slice none 0 0) (.slice none 0 0) (.slice none 0 0) [] [] []) := HO3
  have HS3 : Hid (w3.heap.size = gm + 1) := by rw [Hid, hw3, hgm, hgr]; simp [hs1]
  have HW3 := Lib.hid hw3
  have hc0 := hX1.c0
  have hc1 := hX1.c1
  have hc2 := hX1.c2
  have hbl3 := Lib.hid HO3.below
  have hk1 := (HX.out.on HO3.below).c1
  obtain ⟨hg2, hf2⟩ := mrI_gm HI1.out (j := 2) rfl
  clear h hw1 hB1 hs1 hX1 hd1 HO HO3 hw3 hg
  generalize hN : d.next.length = N at *
  have HN := Lib.hid hN
  generalize hm : d.fin.length = m at *
  have HM0 := Lib.hid hm
  clear hN hm
  have HFN := Lib.hid hfn
  clear hfn
  obtain ⟨gb, hgb⟩ : ∃ gb, gb = w.heap.size := ⟨_, rfl⟩
  rw [← hgb] at HX hgr
  have HGb := Lib.hid hgb
  have HGr := Lib.hid hgr
  have HGm := Lib.hid hgm
  clear hgb hgr hgm hk1 hg2 hf2
  go_enter Tryd.func17, Tryd.ntmps17
  have hk1 := (HX.out.on hbl3.out).c1
  rw [HGb.out] at hk1
  obtain ⟨hg2, hf2⟩ := mrI_gm HI1.out (j := 2) rfl
  rw [HGm.out, HGr.out, HGb.out] at hg2 hf2
  go_wp2_with (at_builtin; rw [← HW.out, ← HGb.out, ← HGr.out, ← HGm.out, ← HW3.out]; refine own_int (y := s0) (by rfl) _ _ (by rfl) (by rfl) HI1.out (by rw [HS3.out]; rfl) (by decide) ?_)
  intro g4 cap4 w4 ho4
  clear hc0 hc1 hc2 hk1 hg2 hf2
  obtain ⟨hg2, hf2⟩ := ncell ho4 (g := gm) (l := [.int .i64 (n : Int), .int .i64 (N : Int), .slice none 0 0, .slice none 0 0, .slice none 0 0]) (j := 2) (by simp) rfl
  have HI2 : Hid (∃ v, MrI w1 (w4.setCell ⟨gm, 2, none⟩ (.slice (some ⟨g4, 0, none⟩) (0 + 1) cap4)) gm gr (n : Int) (N : Int) (.slice (some ⟨g4, 0, none⟩) (0 + 1) cap4) v (.slice none 0 0) [s0] (mvTo d 0) (finTo d 0)) :=
    ⟨_, (nset (ho4.re [3, 0, 1, 2, 4] 5 rfl (by decide)) 2 (.slice (some ⟨g4, 0, none⟩) (0 + 1) cap4)).re [1, 2, 3, 0, 4] 5 rfl (by decide)⟩
  clear ho4 HI1 hbl3
  go_wp2
  clear hg2 hf2 HW HW3
  generalize w4.setCell ⟨gm, 2, none⟩ (.slice (some ⟨g4, 0, none⟩) (0 + 1) cap4) = w5 at *
  generalize (Value.slice (some ⟨g4, 0, none⟩) (0 + 1) cap4) = sv at *
  go_loopw [4] (fun i wr => ∃ (k : Nat), k ≤ N ∧ i = .int .i64 k ∧ Hid (∃ v, MrI w1 wr gm gr (n : Int) (N : Int) sv v (.slice none 0 0) [s0] (mvTo d k) (finTo d 0))) (fun i _ => N - (intOf i).toNat)
  case atStart => exact ⟨0, by omega, rfl, HI2⟩
  case round =>
    clear HI2
    obtain ⟨k, hk, rfl, HI⟩ := hrel
    obtain ⟨v0, hmo⟩ := HI.out
    have hcb := (HX.out.on hmo.below).c2
    by_cases hlt : k < N
    · obtain ⟨r0, hr0, _, hrl, _, _⟩ := HG.out.at_ (q := k) (a := 0) (by rw [HN.out]; exact hlt) (by have := HL.out.1; have := HG.out.l1; omega)
      have hrln : r0.length = n := by have := HL.out.1; omega
      obtain ⟨ad, A', c9, e, hadb, hcell, hrc, hcc, hri⟩ := HD.out.rows k r0 hr0
      subst e
      rw [hrln] at hcell
      have HCell := Lib.hid hcell
      have HRow := Lib.hid hri
      have HR0 := Lib.hid hr0
      have HMy : Hid (∃ v, MrI w1 wr gm gr (n : Int) (N : Int) sv v (.slice none 0 0) [s0] (mvTo d k ++ mvRow d k 0) (finTo d 0)) := ⟨v0, by rw [mvRow_zero, List.append_nil]; exact hmo⟩
      have e2 : (k : Int) < (N : Int) := by omega
      clear hri hr0 hrl hrln hcell hmo HI
      go_wp2
      clear hcb
      go_loopw [5] (fun i wi => ∃ (q : Nat), q ≤ n ∧ i = .int .i64 q ∧ Hid (∃ v, MrI w1 wi gm gr (n : Int) (N : Int) sv v (.slice none 0 0) [s0] (mvTo d k ++ mvRow d k q) (finTo d 0))) (fun i _ => n - (intOf i).toNat)
      case atStart => exact ⟨0, by omega, rfl, HMy⟩
      case round =>
        clear HMy
        obtain ⟨q, hq, rfl, HI⟩ := hrel
        obtain ⟨v0, hmo⟩ := HI.out
        have hcb := (HX.out.on hmo.below).c0
        by_cases hqn : q < n
        · obtain ⟨r1, hr1, _, _, hra, _⟩ := HG.out.at_ (q := k) (a := q) (by rw [HN.out]; exact hlt) (by have := HL.out.1; omega)
          obtain rfl := Option.some.inj (HR0.out.symm.trans hr1)
          obtain ⟨ad3, e3, hadb3, hcell3, _⟩ := HRow.out.get hra
          subst e3
          have HNx : Hid (mvTo d k ++ mvRow d k (q + 1) = (mvTo d k ++ mvRow d k q) ++ [((k : Int), (q : Int), ((Df.step d k q : Nat) : Int))]) := by rw [Hid, mvRow_succ, List.append_assoc]
          have hlen : (mvTo d k ++ mvRow d k q).length < 1099511627776 := by
            rw [List.length_append, mvTo_len, mvRow_len, HL.out.2]
            have : k * n ≤ 40 * 6 := Nat.mul_le_mul (by omega) hn6
            omega
          have HMa := Lib.hid hmo
          have HMb := Lib.hid (hmo.re [1, 0, 2, 3, 4] 5 rfl (by decide))
          clear hr1 hra hmo HI
          generalize Df.step d k q = sk at *
          have HK : Hid (∀ W es fs, Own w1 W es fs → eNfa gm [.int .i64 (n : Int), .int .i64 (N : Int), sv, v0, .slice none 0 0] ∈ es ++ fs → W.cell? ⟨gm, 3, none⟩ = some v0 ∧ W.cell? ⟨gb, 2, none⟩ = some (.slice (some ad) N c) ∧ W.cell? (ad.add k) = some (.slice (some ad3) n c9) ∧ W.cell? (ad3.add q) = some (.int .i64 (sk : Int))) := fun W es fs hW hm => ⟨(ncell hW hm (j := 3) rfl).1, (HX.out.on hW.below).c2, (hW.below.cell (p := ad.add k) (by rw [Wd.block_add]; exact hadb)).trans HCell.out, (hW.below.cell (p := ad3.add q) (by rw [Wd.block_add]; exact hadb3)).trans hcell3⟩
          have e4 : (q : Int) < (n : Int) := by omega
          clear hcell3
          generalize mvTo d k ++ mvRow d k q = ms at *
          go_wp2
          clear hcb
          refine wp_region_Z ((fun W => W.cell? ⟨gm, 3, none⟩ = some v0 ∧ W.cell? ⟨gb, 2, none⟩ = some (.slice (some ad) N c) ∧ W.cell? (ad.add k) = some (.slice (some ad3) n c9) ∧ W.cell? (ad3.add q) = some (.int .i64 (sk : Int)))) 16 (by kernel_rfl) (HK.out _ _ _ (HMb.out.on (Below.refl _ _).drew) (by simp)) (fun hHeld => ?_)
          refine wpZ_take (i := 0) (v := ?_) rfl (by kernel_rfl) (by kernel_rfl) (by kernel_rfl) (by kernel_rfl) (fun _ _ _ h => h) (Or.inl ⟨by rfl, ?_⟩) hHeld ?_
          rotate_left
          · (go_light; intro w9 hSw; (try dsimp only at hSw); go_simp; try with_reducible rfl)
          try simp only [Act.put, List.setIfInBounds_toArray, List.set_cons_zero, List.set_cons_succ]
          refine wpZ_take (i := 1) (v := ?_) rfl (by kernel_rfl) (by kernel_rfl) (by kernel_rfl) (by kernel_rfl) (fun _ _ _ h => h) (Or.inl ⟨by rfl, ?_⟩) hHeld ?_
          rotate_left
          · (go_light; intro w9 hSw; (try dsimp only at hSw); go_simp; try with_reducible rfl)
          try simp only [Act.put, List.setIfInBounds_toArray, List.set_cons_zero, List.set_cons_succ]
          refine wpZ_take (i := 2) (v := ?_) rfl (by kernel_rfl) (by kernel_rfl) (by kernel_rfl) (by kernel_rfl) (fun _ _ _ h => h) (Or.inl ⟨by rfl, ?_⟩) hHeld ?_
          rotate_left
          · (go_light; intro w9 hSw; (try dsimp only at hSw); go_simp; try with_reducible rfl)
          try simp only [Act.put, List.setIfInBounds_toArray, List.set_cons_zero, List.set_cons_succ]
          refine wpZ_take (i := 3) (v := ?_) rfl (by kernel_rfl) (by kernel_rfl) (by kernel_rfl) (by kernel_rfl) (fun _ _ _ h => h) (Or.inl ⟨by rfl, ?_⟩) hHeld ?_
          rotate_left
          · (go_light; intro w9 hSw; (try dsimp only at hSw); go_simp; try with_reducible rfl)
          try simp only [Act.put, List.setIfInBounds_toArray, List.set_cons_zero, List.set_cons_succ]
          refine wpZ_take (i := 4) (v := ?_) rfl (by kernel_rfl) (by kernel_rfl) (by kernel_rfl) (by kernel_rfl) (fun _ _ _ h => h) (Or.inl ⟨by rfl, ?_⟩) hHeld ?_
          rotate_left
          · (go_light; intro w9 hSw; (try dsimp only at hSw); go_simp; try with_reducible rfl)
          try simp only [Act.put, List.setIfInBounds_toArray, List.set_cons_zero, List.set_cons_succ]
          refine wpZ_take (i := 5) (v := ?_) rfl (by kernel_rfl) (by kernel_rfl) (by kernel_rfl) (by kernel_rfl) (fun _ _ _ h => h) (Or.inl ⟨by rfl, ?_⟩) hHeld ?_
          rotate_left
          · (go_light; intro w9 hSw; (try dsimp only at hSw); go_simp; try with_reducible rfl)
          try simp only [Act.put, List.setIfInBounds_toArray, List.set_cons_zero, List.set_cons_succ]
          refine wpZ_take (i := 6) (v := ?_) rfl (by kernel_rfl) (by kernel_rfl) (by kernel_rfl) (by kernel_rfl) (fun _ _ _ h => h) (Or.inl ⟨by rfl, ?_⟩) hHeld ?_
          rotate_left
          · (go_light; intro w9 hSw; (try dsimp only at hSw); go_simp; try with_reducible rfl)
          try simp only [Act.put, List.setIfInBounds_toArray, List.set_cons_zero, List.set_cons_succ]
          refine wpZ_take (i := 7) (v := ?_) rfl (by kernel_rfl) (by kernel_rfl) (by kernel_rfl) (by kernel_rfl) (fun _ _ _ h => h) (Or.inl ⟨by rfl, ?_⟩) hHeld ?_
          rotate_left
          · (go_light; intro w9 hSw; (try dsimp only at hSw); go_simp; try with_reducible rfl)
          try simp only [Act.put, List.setIfInBounds_toArray, List.set_cons_zero, List.set_cons_succ]
          refine wpZ_take (i := 8) (v := ?_) rfl (by kernel_rfl) (by kernel_rfl) (by kernel_rfl) (by kernel_rfl) (fun _ _ _ h => h) (Or.inl ⟨by rfl, ?_⟩) hHeld ?_
          rotate_left
          · (go_light; intro w9 hSw; (try dsimp only at hSw); go_simp; try with_reducible rfl)
          try simp only [Act.put, List.setIfInBounds_toArray, List.set_cons_zero, List.set_cons_succ]
          refine wpZ_take (i := 9) (v := ?_) rfl (by kernel_rfl) (by kernel_rfl) (by kernel_rfl) (by kernel_rfl) (fun _ _ _ h => h) (Or.inl ⟨by rfl, ?_⟩) hHeld ?_
          rotate_left
          · (go_light; intro w9 hSw; (try dsimp only at hSw); go_simp; try with_reducible rfl)
          try simp only [Act.put, List.setIfInBounds_toArray, List.set_cons_zero, List.set_cons_succ]
          refine wpZ_take (i := 10) (v := ?_) rfl (by kernel_rfl) (by kernel_rfl) (by kernel_rfl) (by kernel_rfl) (fun _ _ _ h => h) (Or.inl ⟨by rfl, ?_⟩) hHeld ?_
          rotate_left
          · (go_light; intro w9 hSw; (try dsimp only at hSw); go_simp; try with_reducible rfl)
          try simp only [Act.put, List.setIfInBounds_toArray, List.set_cons_zero, List.set_cons_succ]
          refine wpZ_take (i := 11) (v := ?_) rfl (by kernel_rfl) (by kernel_rfl) (by kernel_rfl) (by kernel_rfl) (fun _ _ _ h => h) (Or.inl ⟨by rfl, ?_⟩) hHeld ?_
          rotate_left
          · (go_light; intro w9 hSw; (try dsimp only at hSw); go_simp; try with_reducible rfl)
          try simp only [Act.put, List.setIfInBounds_toArray, List.set_cons_zero, List.set_cons_succ]
          refine wpZ_take (i := 12) (v := ?_) rfl (by kernel_rfl) (by kernel_rfl) (by kernel_rfl) (by kernel_rfl) (fun _ _ _ h => h) (Or.inl ⟨by rfl, ?_⟩) hHeld ?_
          rotate_left
          · (go_light; intro w9 hSw; (try dsimp only at hSw); go_simp; try with_reducible rfl)
          try simp only [Act.put, List.setIfInBounds_toArray, List.set_cons_zero, List.set_cons_succ]
          refine wpZ_one (i := 13) rfl (by kernel_rfl) (fun K hK => ?_)
          go_simp
          refine hK.out _ _ (fun _ => HK.out _ _ _ (HMb.out.on (by go_grown)) (by simp)) (fun hHeld9 => ?_)
          replace hHeld := hHeld9 (by decide)
          clear hHeld9
          clear hK K
          try simp only [Act.put, List.setIfInBounds_toArray, List.set_cons_zero, List.set_cons_succ]
          refine wpZ_one (i := 14) rfl (by kernel_rfl) (fun K hK => ?_)
          refine step_own_move (m := ((k : Int), (q : Int), (sk : Int))) (by rfl) _ _ (by rfl) (by rfl) (HMb.out.on (Below.refl _ _).drew) (by rfl) hlen ?_
          intro g6 cap6 w6 ho6
          refine hK.out _ _ (fun _ => HK.out _ _ _ ho6 (by simp)) (fun hHeld9 => ?_)
          replace hHeld := hHeld9 (by decide)
          clear hHeld9
          clear hK K
          try simp only [Act.put, List.setIfInBounds_toArray, List.set_cons_zero, List.set_cons_succ]
          refine wpZ_take (i := 15) (v := ?_) rfl (by kernel_rfl) (by kernel_rfl) (by kernel_rfl) (by kernel_rfl) (fun _ _ _ h => h) (Or.inl ⟨by rfl, ?_⟩) hHeld ?_
          rotate_left
          · (go_light; intro w9 hSw; (try dsimp only at hSw); go_simp; try with_reducible rfl)
          try simp only [Act.put, List.setIfInBounds_toArray, List.set_cons_zero, List.set_cons_succ]
          refine wpZ_one (i := 16) rfl (by kernel_rfl) (fun K hK => ?_)
          obtain ⟨hk3, hk4⟩ := ncell ho6 (g := gm) (l := [.int .i64 (n : Int), .int .i64 (N : Int), sv, v0, .slice none 0 0]) (j := 3) (by simp) rfl
          go_simp
          refine hK.out _ _ (fun k => absurd rfl k) (fun _ => ?_)
          clear hK K
          try simp only [Act.put, List.setIfInBounds_toArray, List.set_cons_zero, List.set_cons_succ]
          refine wpZ_done (by kernel_rfl) ?_ _
          have HN1 : Hid (∃ v, MrI w1 (w6.setCell ⟨gm, 3, none⟩ (.slice (some ⟨g6, 0, none⟩) (ms.length + 1) cap6)) gm gr (n : Int) (N : Int) sv v (.slice none 0 0) [s0] (mvTo d k ++ mvRow d k (q + 1)) (finTo d 0)) := by
            refine ⟨.slice (some ⟨g6, 0, none⟩) (ms.length + 1) cap6, ?_⟩
            rw [HNx.out]
            exact (nset (ho6.re [3, 0, 1, 2, 4] 5 rfl (by decide)) 3 (.slice (some ⟨g6, 0, none⟩) (ms.length + 1) cap6)).re [2, 1, 3, 0, 4] 5 rfl (by decide)
          clear ho6 HK HMb HMa hk3 hk4 hHeld
          go_wp2
          go_roundw
          case rel => exact ⟨q + 1, by omega, by go_num, HN1⟩
          case measure => simp [intOf]; omega
        · have hqe : q = n := by omega
          have HN1 : Hid (∃ v, MrI w1 wr gm gr (n : Int) (N : Int) sv v (.slice none 0 0) [s0] (mvTo d (k + 1)) (finTo d 0)) := by
            refine ⟨v0, ?_⟩
            rw [mvTo_succ, HL.out.2]
            have q2 := hmo
            rw [hqe] at q2
            exact q2
          subst hqe
          clear hmo HI
          go_wp2
          go_roundw
          case rel => exact ⟨k + 1, by omega, by go_num, HN1⟩
          case measure => simp [intOf]; omega
    · obtain rfl : k = N := by omega
      have HI3 : Hid (∃ f, MrI w1 wr gm gr (n : Int) (k : Int) sv v0 f [s0] (mvTo d k) (finTo d 0)) := ⟨_, hmo⟩
      clear hmo HI
      go_wp2
      clear hcb
      go_loopw [6] (fun i wr => ∃ (j : Nat), j ≤ k ∧ i = .int .i64 j ∧ Hid (∃ f, MrI w1 wr gm gr (n : Int) (k : Int) sv v0 f [s0] (mvTo d k) (finTo d j))) (fun i _ => k - (intOf i).toNat)
      case atStart => exact ⟨0, by omega, rfl, HI3⟩
      case round =>
        clear HI3
        obtain ⟨j, hj, rfl, HI⟩ := hrel
        obtain ⟨f0, hmo⟩ := HI.out
        have hcb := (HX.out.on hmo.below).c2
        have hcf := (HX.out.on hmo.below).c3
        by_cases hlt : j < k
        · have hfin := HG.out.fin_at (q := j) (by rw [HN.out]; exact hlt)
          obtain ⟨adf, eF, hadf, hcfi, hfm⟩ := HD.out.fins.at_ hfin
          subst eF
          rw [HM0.out] at hfm
          have hcw := (hmo.below.cell (p := adf.add j) (by rw [Wd.block_add]; exact hadf)).trans hcfi
          have e1 : (j : Int) < (m : Int) := by have := HFN.out; omega
          have e2 : (j : Int) < (k : Int) := by omega
          have hlf : (finTo d j).length < 17592186044416 := by have := finTo_len d j; omega
          have HMa := Lib.hid hmo
          obtain ⟨hg4, hg4f⟩ := mrI_gm hmo (j := 4) rfl
          clear hcfi hfin hadf hmo HI
          generalize hb : finA d j = b at *
          rcases b with _ | _
          · have HFt := Lib.hid (finTo_miss hb)
            have HN1 : Hid (∃ f, MrI w1 wr gm gr (n : Int) (k : Int) sv v0 f [s0] (mvTo d k) (finTo d (j + 1))) := ⟨f0, by rw [HFt.out]; exact HMa.out⟩
            clear HMa hb hg4 hg4f
            go_wp2
            go_roundw
            case rel => exact ⟨j + 1, by omega, by go_num, HN1⟩
            case measure => simp [intOf]; omega
          · have HFt := Lib.hid (finTo_hit hb)
            have HMb := Lib.hid (HMa.out.re [2, 0, 1, 3, 4] 5 rfl (by decide))
            clear hb HMa
            generalize finTo d j = fs at *
            go_wp2_with (at_builtin; refine own_int (y := (j : Int)) (by rfl) _ _ (by rfl) (by rfl) HMb.out (by rfl) hlf ?_)
            intro g8 cap8 w8 ho8
            obtain ⟨hk8, hf8⟩ := ncell ho8 (g := gm) (l := [.int .i64 (n : Int), .int .i64 (k : Int), sv, v0, f0]) (j := 4) (by simp) rfl
            have HN1 : Hid (∃ f, MrI w1 (w8.setCell ⟨gm, 4, none⟩ (.slice (some ⟨g8, 0, none⟩) (fs.length + 1) cap8)) gm gr (n : Int) (k : Int) sv v0 f [s0] (mvTo d k) (finTo d (j + 1))) := by
              refine ⟨.slice (some ⟨g8, 0, none⟩) (fs.length + 1) cap8, ?_⟩
              rw [HFt.out]
              exact (nset (ho8.re [3, 0, 1, 2, 4] 5 rfl (by decide)) 4 (.slice (some ⟨g8, 0, none⟩) (fs.length + 1) cap8)).re [2, 3, 1, 0, 4] 5 rfl (by decide)
            clear ho8 HMb hg4 hg4f hcw hcf hcb
            go_wp2
            go_roundw
            case rel => exact ⟨j + 1, by omega, by go_num, HN1⟩
            case measure => simp [intOf]; omega
        · obtain rfl : j = k := by omega
          have hOf : ofA d = ⟨(n : Int), (j : Int), [s0], mvTo d j, finTo d j⟩ := by rw [ofA_to, HL.out.1, HE2.out.2, HN.out]
          obtain ⟨A1, k1, n1, A2, k2, n2, A3, k3, n3, e1, e2, e3⟩ := mrI_form hmo
          subst e1 e2 e3
          obtain ⟨hg0, _⟩ := mrI_gm hmo (j := 0) rfl
          obtain ⟨hr0, hf0⟩ := mrI_gr hmo (j := 0) rfl
          obtain ⟨hg1, _⟩ := mrI_gm hmo (j := 1) rfl
          obtain ⟨hr1, hf1⟩ := mrI_gr hmo (j := 1) rfl
          obtain ⟨hg2, _⟩ := mrI_gm hmo (j := 2) rfl
          obtain ⟨hr2, hf2⟩ := mrI_gr hmo (j := 2) rfl
          obtain ⟨hg3, _⟩ := mrI_gm hmo (j := 3) rfl
          obtain ⟨hr3, hf3⟩ := mrI_gr hmo (j := 3) rfl
          obtain ⟨hg4, _⟩ := mrI_gm hmo (j := 4) rfl
          obtain ⟨hr4, hf4⟩ := mrI_gr hmo (j := 4) rfl
          have HEnd := Lib.hid (mrI_end (a := ofA d) (by rw [hOf]; exact hmo) (of_good HG.out) rfl)
          rw [show (ofA d).L = (n : Int) from by rw [hOf], show (ofA d).n = (j : Int) from by rw [hOf]] at HEnd
          clear hmo HI hcf hOf
          go_wp2
          obtain ⟨hat, hbl, k0, k1, k2, k3, k4⟩ := HEnd.out
          exact bodyPost_ret (results_nfa1 rfl _ rfl k0 k1 k2 k3 k4) rfl ⟨⟨_, rfl, hat.base HB.out⟩, HB.out.trans (hbl.mono HB.out.size)⟩
end Go.Proofs.YtlhhhdgkdbplmaaDoor.Nf
