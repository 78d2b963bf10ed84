/- The walk of the reference's NfaMirror. -/
import Derived.Test.YtlhhhdgkdbplmaaDoorRefMs
namespace Go.Proofs.YtlhhhdgkdbplmaaDoor.Nf
open Go.RowKit Go.IntWalk Go.Proofs.YtlhhhdgkdbplmaaDoor.Wd Go.Proofs.YtlhhhdgkdbplmaaDoor.Wo Go.Proofs.YtlhhhdgkdbplmaaDoor.Df

set_option linter.unusedSimpArgs false in
set_option maxRecDepth 100000 in
set_option maxHeartbeats 16000000 in
theorem rmir_any (v : Value) (a : Nfa) (w : World) (h : NfaAt w w.heap.size v a) (hg : Good a) :
    Calls Tryd.prog 9 #[v] w fun e w' => Hid (∃ x, e = .returned x ∧ NfaOwn w w' x (mir a)) ∧ Below w.heap.size w w' := by
  obtain ⟨L, n, A, ca, M, cm, F, cf, rfl, h⟩ := h
  obtain ⟨w1, hw1, hB1, hs1, hX1, hd1⟩ := box_nfa w h
  have HB := Lib.hid hB1
  have HW := Lib.hid hw1
  have HX := Lib.hid hX1
  have HD := Lib.hid hd1
  have HG : Hid (Good a) := hg
  have HE2 : Hid (a.L = L ∧ a.n = n) := ⟨h.eL, h.en⟩
  have hm240 := hg.m240
  have hs40 := hg.s40
  have hf40 := hg.f40
  have HO := own_nfa_new (own_nfa_new (own_start w1) (.int .i64 0) (.int .i64 0) (.slice none 0 0) (.slice none 0 0) (.slice none 0 0)) (.int .i64 L) (.int .i64 n) (.slice none 0 0) (.slice none 0 0) (.slice none 0 0)
  rw [show (w1.alloc (.cells #[.int .i64 0, .int .i64 0, .slice none 0 0, .slice none 0 0, .slice none 0 0] 25)).heap.size = w1.heap.size + 1 by simp] at HO
  have HO3 := ((HO.nil 3 1).nil 64 3).nil 3 1
  obtain ⟨gr, hgr⟩ : ∃ gr, gr = w.heap.size + 1 := ⟨_, rfl⟩
  obtain ⟨gm, hgm⟩ : ∃ gm, gm = gr + 1 := ⟨_, rfl⟩
  rw [hs1, ← hgr, ← hgm] at HO3
  obtain ⟨w3, hw3⟩ : ∃ w3, w3 = (w1.alloc (.cells #[.int .i64 0, .int .i64 0, .slice none 0 0, .slice none 0 0, .slice none 0 0] 25)).alloc (.cells #[.int .i64 L, .int .i64 n, .slice none 0 0, .slice none 0 0, .slice none 0 0] 25) := ⟨_, rfl⟩
  rw [← hw3] at HO3
  have HI1 : Hid (∃ v, MrI w1 w3 gm gr L n v (.slice none 0 0) (.slice none 0 0) (a.fin.take 0) [] []) := ⟨_, HO3⟩
  have HW3 := Lib.hid hw3
  have hc0 := hX1.c0
  have hc1 := hX1.c1
  clear h hw1 hB1 hs1 hX1 hd1 HO HO3 hw3 hg
  generalize hks : a.st.length = ks at *
  have HS2 := Lib.hid hks
  generalize hkm : a.mv.length = km at *
  have HS3 := Lib.hid hkm
  generalize hkf : a.fin.length = kf at *
  have HS1 := Lib.hid hkf
  clear hks hkm hkf
  obtain ⟨gb, hgb⟩ : ∃ gb, gb = w.heap.size := ⟨_, rfl⟩
  rw [← hgb] at HX hgr hc0 hc1
  go_enter Tryd.func9, Tryd.ntmps9
  rw [hgb] at hc0 hc1
  have HGb := Lib.hid hgb
  have HGr := Lib.hid hgr
  have HGm := Lib.hid hgm
  clear hgb hgr hgm
  go_wp2
  rw [← HW.out, ← HGb.out, ← HGr.out, ← HGm.out, ← HW3.out]
  clear HW HW3 hc0 hc1 HGb HGr HGm
  go_loopw [4] (fun i wr => ∃ (k : Nat), k ≤ kf ∧ i = .int .i64 k ∧ Hid (∃ v, MrI w1 wr gm gr L n v (.slice none 0 0) (.slice none 0 0) (a.fin.take k) [] [])) (fun i _ => kf - (intOf i).toNat)
  case atStart => exact ⟨0, by omega, rfl, HI1⟩
  case round =>
    clear HI1
    obtain ⟨k, hk, rfl, HI⟩ := hrel
    obtain ⟨v0, hmo⟩ := HI.out
    have HM := Lib.hid hmo
    have hcb := (HX.out.on hmo.below).c4
    by_cases hlt : k < kf
    · as_aux_lemma =>
      have hlt' : k < a.fin.length := by rw [HS1.out]; exact hlt
      obtain ⟨ad, e, hadb, hcell, _⟩ := HD.out.fin.get (List.getElem?_eq_getElem hlt')
      subst e
      have HSn := Lib.hid (take_snoc hlt')
      have HLn : Hid ((a.fin.take k).length < 17592186044416) := by rw [Hid, List.length_take]; omega
      generalize a.fin[k] = x at *
      clear hmo HI
      have HK : Hid (∀ W es fs, Own w1 W es fs → eNfa gm [.int .i64 L, .int .i64 n, v0, .slice none 0 0, .slice none 0 0] ∈ es ++ fs → W.cell? ⟨gm, 2, none⟩ = some v0 ∧ W.cell? ⟨gb, 4, none⟩ = some (.slice (some ad) kf cf) ∧ W.cell? (ad.add k) = some (.int .i64 x)) := fun W es fs hW hm => ⟨(ncell hW hm (j := 2) rfl).1, (HX.out.on hW.below).c4, (hW.below.cell (p := ad.add k) (by rw [Wd.block_add]; exact hadb)).trans hcell⟩
      have e3 : (k : Int) < (kf : Int) := by omega
      have HMb := Lib.hid (HM.out)
      clear hcell
      generalize a.fin.take k = ls at *
      go_wp2
      clear hcb
      refine wp_region_Z ((fun W => W.cell? ⟨gm, 2, none⟩ = some v0 ∧ W.cell? ⟨gb, 4, none⟩ = some (.slice (some ad) kf cf) ∧ W.cell? (ad.add k) = some (.int .i64 x))) 10 (by kernel_rfl) (HK.out _ _ _ (HMb.out.on (Below.refl _ _).drew) (by simp)) (fun hHeld => ?_)
      refine wpZ_take (i := 0) (v := ?_) rfl (by kernel_rfl) (by kernel_rfl) (by kernel_rfl) (by kernel_rfl) (fun _ _ _ h => h) (Or.inl ⟨by rfl, ?_⟩) hHeld ?_
      rotate_left
      · (go_light; intro w9 hSw; (try dsimp only at hSw); go_simp; try with_reducible rfl)
      try simp only [Act.put, List.setIfInBounds_toArray, List.set_cons_zero, List.set_cons_succ]
      refine wpZ_take (i := 1) (v := ?_) rfl (by kernel_rfl) (by kernel_rfl) (by kernel_rfl) (by kernel_rfl) (fun _ _ _ h => h) (Or.inl ⟨by rfl, ?_⟩) hHeld ?_
      rotate_left
      · (go_light; intro w9 hSw; (try dsimp only at hSw); go_simp; try with_reducible rfl)
      try simp only [Act.put, List.setIfInBounds_toArray, List.set_cons_zero, List.set_cons_succ]
      refine wpZ_take (i := 2) (v := ?_) rfl (by kernel_rfl) (by kernel_rfl) (by kernel_rfl) (by kernel_rfl) (fun _ _ _ h => h) (Or.inl ⟨by rfl, ?_⟩) hHeld ?_
      rotate_left
      · (go_light; intro w9 hSw; (try dsimp only at hSw); go_simp; try with_reducible rfl)
      try simp only [Act.put, List.setIfInBounds_toArray, List.set_cons_zero, List.set_cons_succ]
      refine wpZ_take (i := 3) (v := ?_) rfl (by kernel_rfl) (by kernel_rfl) (by kernel_rfl) (by kernel_rfl) (fun _ _ _ h => h) (Or.inl ⟨by rfl, ?_⟩) hHeld ?_
      rotate_left
      · (go_light; intro w9 hSw; (try dsimp only at hSw); go_simp; try with_reducible rfl)
      try simp only [Act.put, List.setIfInBounds_toArray, List.set_cons_zero, List.set_cons_succ]
      refine wpZ_take (i := 4) (v := ?_) rfl (by kernel_rfl) (by kernel_rfl) (by kernel_rfl) (by kernel_rfl) (fun _ _ _ h => h) (Or.inl ⟨by rfl, ?_⟩) hHeld ?_
      rotate_left
      · (go_light; intro w9 hSw; (try dsimp only at hSw); go_simp; try with_reducible rfl)
      try simp only [Act.put, List.setIfInBounds_toArray, List.set_cons_zero, List.set_cons_succ]
      refine wpZ_take (i := 5) (v := ?_) rfl (by kernel_rfl) (by kernel_rfl) (by kernel_rfl) (by kernel_rfl) (fun _ _ _ h => h) (Or.inl ⟨by rfl, ?_⟩) hHeld ?_
      rotate_left
      · (go_light; intro w9 hSw; (try dsimp only at hSw); go_simp; try with_reducible rfl)
      try simp only [Act.put, List.setIfInBounds_toArray, List.set_cons_zero, List.set_cons_succ]
      refine wpZ_take (i := 6) (v := ?_) rfl (by kernel_rfl) (by kernel_rfl) (by kernel_rfl) (by kernel_rfl) (fun _ _ _ h => h) (Or.inl ⟨by rfl, ?_⟩) hHeld ?_
      rotate_left
      · (go_light; intro w9 hSw; (try dsimp only at hSw); go_simp; try with_reducible rfl)
      try simp only [Act.put, List.setIfInBounds_toArray, List.set_cons_zero, List.set_cons_succ]
      refine wpZ_one (i := 7) rfl (by kernel_rfl) (fun K hK => ?_)
      go_simp
      refine hK.out _ _ (fun _ => HK.out _ _ _ (HMb.out.on (by go_grown)) (by simp)) (fun hHeld9 => ?_)
      replace hHeld := hHeld9 (by decide)
      clear hHeld9
      clear hK K
      try simp only [Act.put, List.setIfInBounds_toArray, List.set_cons_zero, List.set_cons_succ]
      refine wpZ_one (i := 8) rfl (by kernel_rfl) (fun K hK => ?_)
      refine step_own_int (y := x) (by rfl) _ _ (by rfl) (by rfl) (HMb.out.on (Below.refl _ _).drew) (by rfl) HLn.out ?_
      intro g6 cap6 w6 ho6
      refine hK.out _ _ (fun _ => HK.out _ _ _ ho6 (by simp)) (fun hHeld9 => ?_)
      replace hHeld := hHeld9 (by decide)
      clear hHeld9
      clear hK K
      try simp only [Act.put, List.setIfInBounds_toArray, List.set_cons_zero, List.set_cons_succ]
      refine wpZ_take (i := 9) (v := ?_) rfl (by kernel_rfl) (by kernel_rfl) (by kernel_rfl) (by kernel_rfl) (fun _ _ _ h => h) (Or.inl ⟨by rfl, ?_⟩) hHeld ?_
      rotate_left
      · (go_light; intro w9 hSw; (try dsimp only at hSw); go_simp; try with_reducible rfl)
      try simp only [Act.put, List.setIfInBounds_toArray, List.set_cons_zero, List.set_cons_succ]
      refine wpZ_one (i := 10) rfl (by kernel_rfl) (fun K hK => ?_)
      obtain ⟨hk3, hk4⟩ := ncell ho6 (g := gm) (l := [.int .i64 L, .int .i64 n, v0, .slice none 0 0, .slice none 0 0]) (j := 2) (by simp) rfl
      go_simp
      refine hK.out _ _ (fun k => absurd rfl k) (fun _ => ?_)
      clear hK K
      try simp only [Act.put, List.setIfInBounds_toArray, List.set_cons_zero, List.set_cons_succ]
      refine wpZ_done (by kernel_rfl) ?_ _
      have HN1 : Hid (∃ v, MrI w1 (w6.setCell ⟨gm, 2, none⟩ (.slice (some ⟨g6, 0, none⟩) (ls.length + 1) cap6)) gm gr L n v (.slice none 0 0) (.slice none 0 0) (a.fin.take (k + 1)) [] []) := by
        refine ⟨(.slice (some ⟨g6, 0, none⟩) (ls.length + 1) cap6), ?_⟩
        rw [HSn.out]
        exact (nset (ho6.re [3, 0, 1, 2, 4] 5 rfl (by decide)) 2 (.slice (some ⟨g6, 0, none⟩) (ls.length + 1) cap6)).re [1, 2, 3, 0, 4] 5 rfl (by decide)
      clear ho6 HK HMb HM hk3 hk4 hHeld
      go_wp2
      go_roundw
      case rel => exact ⟨k + 1, by omega, by go_num, HN1⟩
      case measure => simp [intOf]; omega
    · obtain rfl : k = kf := by omega
      have HT : Hid (a.fin.take k = a.fin) := List.take_of_length_le (by rw [HS1.out]; exact Nat.le_refl _)
      rw [HT.out] at hmo
      obtain ⟨sv, hsv⟩ : ∃ x, x = v0 := ⟨_, rfl⟩
      rw [← hsv] at hmo
      have HI2 : Hid (∃ v, MrI w1 wr gm gr L n sv (.slice none 0 0) v a.fin [] (a.st.take 0)) := ⟨_, hmo⟩
      clear hmo HI HM HT hsv
      skip
      go_wp2
      clear hcb
      go_loopw [5] (fun i wr => ∃ (k : Nat), k ≤ ks ∧ i = .int .i64 k ∧ Hid (∃ v, MrI w1 wr gm gr L n sv (.slice none 0 0) v a.fin [] (a.st.take k))) (fun i _ => ks - (intOf i).toNat)
      case atStart => exact ⟨0, by omega, rfl, HI2⟩
      case round =>
        clear HI2
        obtain ⟨k, hk, rfl, HI⟩ := hrel
        obtain ⟨v0, hmo⟩ := HI.out
        have HM := Lib.hid hmo
        have hcb := (HX.out.on hmo.below).c2
        by_cases hlt : k < ks
        · as_aux_lemma =>
          have hlt' : k < a.st.length := by rw [HS2.out]; exact hlt
          obtain ⟨ad, e, hadb, hcell, _⟩ := HD.out.st.get (List.getElem?_eq_getElem hlt')
          subst e
          have HSn := Lib.hid (take_snoc hlt')
          have HLn : Hid ((a.st.take k).length < 17592186044416) := by rw [Hid, List.length_take]; omega
          generalize a.st[k] = x at *
          clear hmo HI
          have HK : Hid (∀ W es fs, Own w1 W es fs → eNfa gm [.int .i64 L, .int .i64 n, sv, .slice none 0 0, v0] ∈ es ++ fs → W.cell? ⟨gm, 4, none⟩ = some v0 ∧ W.cell? ⟨gb, 2, none⟩ = some (.slice (some ad) ks ca) ∧ W.cell? (ad.add k) = some (.int .i64 x)) := fun W es fs hW hm => ⟨(ncell hW hm (j := 4) rfl).1, (HX.out.on hW.below).c2, (hW.below.cell (p := ad.add k) (by rw [Wd.block_add]; exact hadb)).trans hcell⟩
          have e3 : (k : Int) < (ks : Int) := by omega
          have HMb := Lib.hid (HM.out.re [2, 0, 1, 3, 4] 5 rfl (by decide))
          clear hcell
          generalize a.st.take k = ls at *
          go_wp2
          clear hcb
          refine wp_region_Z ((fun W => W.cell? ⟨gm, 4, none⟩ = some v0 ∧ W.cell? ⟨gb, 2, none⟩ = some (.slice (some ad) ks ca) ∧ W.cell? (ad.add k) = some (.int .i64 x))) 10 (by kernel_rfl) (HK.out _ _ _ (HMb.out.on (Below.refl _ _).drew) (by simp)) (fun hHeld => ?_)
          refine wpZ_take (i := 0) (v := ?_) rfl (by kernel_rfl) (by kernel_rfl) (by kernel_rfl) (by kernel_rfl) (fun _ _ _ h => h) (Or.inl ⟨by rfl, ?_⟩) hHeld ?_
          rotate_left
          · (go_light; intro w9 hSw; (try dsimp only at hSw); go_simp; try with_reducible rfl)
          try simp only [Act.put, List.setIfInBounds_toArray, List.set_cons_zero, List.set_cons_succ]
          refine wpZ_take (i := 1) (v := ?_) rfl (by kernel_rfl) (by kernel_rfl) (by kernel_rfl) (by kernel_rfl) (fun _ _ _ h => h) (Or.inl ⟨by rfl, ?_⟩) hHeld ?_
          rotate_left
          · (go_light; intro w9 hSw; (try dsimp only at hSw); go_simp; try with_reducible rfl)
          try simp only [Act.put, List.setIfInBounds_toArray, List.set_cons_zero, List.set_cons_succ]
          refine wpZ_take (i := 2) (v := ?_) rfl (by kernel_rfl) (by kernel_rfl) (by kernel_rfl) (by kernel_rfl) (fun _ _ _ h => h) (Or.inl ⟨by rfl, ?_⟩) hHeld ?_
          rotate_left
          · (go_light; intro w9 hSw; (try dsimp only at hSw); go_simp; try with_reducible rfl)
          try simp only [Act.put, List.setIfInBounds_toArray, List.set_cons_zero, List.set_cons_succ]
          refine wpZ_take (i := 3) (v := ?_) rfl (by kernel_rfl) (by kernel_rfl) (by kernel_rfl) (by kernel_rfl) (fun _ _ _ h => h) (Or.inl ⟨by rfl, ?_⟩) hHeld ?_
          rotate_left
          · (go_light; intro w9 hSw; (try dsimp only at hSw); go_simp; try with_reducible rfl)
          try simp only [Act.put, List.setIfInBounds_toArray, List.set_cons_zero, List.set_cons_succ]
          refine wpZ_take (i := 4) (v := ?_) rfl (by kernel_rfl) (by kernel_rfl) (by kernel_rfl) (by kernel_rfl) (fun _ _ _ h => h) (Or.inl ⟨by rfl, ?_⟩) hHeld ?_
          rotate_left
          · (go_light; intro w9 hSw; (try dsimp only at hSw); go_simp; try with_reducible rfl)
          try simp only [Act.put, List.setIfInBounds_toArray, List.set_cons_zero, List.set_cons_succ]
          refine wpZ_take (i := 5) (v := ?_) rfl (by kernel_rfl) (by kernel_rfl) (by kernel_rfl) (by kernel_rfl) (fun _ _ _ h => h) (Or.inl ⟨by rfl, ?_⟩) hHeld ?_
          rotate_left
          · (go_light; intro w9 hSw; (try dsimp only at hSw); go_simp; try with_reducible rfl)
          try simp only [Act.put, List.setIfInBounds_toArray, List.set_cons_zero, List.set_cons_succ]
          refine wpZ_take (i := 6) (v := ?_) rfl (by kernel_rfl) (by kernel_rfl) (by kernel_rfl) (by kernel_rfl) (fun _ _ _ h => h) (Or.inl ⟨by rfl, ?_⟩) hHeld ?_
          rotate_left
          · (go_light; intro w9 hSw; (try dsimp only at hSw); go_simp; try with_reducible rfl)
          try simp only [Act.put, List.setIfInBounds_toArray, List.set_cons_zero, List.set_cons_succ]
          refine wpZ_one (i := 7) rfl (by kernel_rfl) (fun K hK => ?_)
          go_simp
          refine hK.out _ _ (fun _ => HK.out _ _ _ (HMb.out.on (by go_grown)) (by simp)) (fun hHeld9 => ?_)
          replace hHeld := hHeld9 (by decide)
          clear hHeld9
          clear hK K
          try simp only [Act.put, List.setIfInBounds_toArray, List.set_cons_zero, List.set_cons_succ]
          refine wpZ_one (i := 8) rfl (by kernel_rfl) (fun K hK => ?_)
          refine step_own_int (y := x) (by rfl) _ _ (by rfl) (by rfl) (HMb.out.on (Below.refl _ _).drew) (by rfl) HLn.out ?_
          intro g6 cap6 w6 ho6
          refine hK.out _ _ (fun _ => HK.out _ _ _ ho6 (by simp)) (fun hHeld9 => ?_)
          replace hHeld := hHeld9 (by decide)
          clear hHeld9
          clear hK K
          try simp only [Act.put, List.setIfInBounds_toArray, List.set_cons_zero, List.set_cons_succ]
          refine wpZ_take (i := 9) (v := ?_) rfl (by kernel_rfl) (by kernel_rfl) (by kernel_rfl) (by kernel_rfl) (fun _ _ _ h => h) (Or.inl ⟨by rfl, ?_⟩) hHeld ?_
          rotate_left
          · (go_light; intro w9 hSw; (try dsimp only at hSw); go_simp; try with_reducible rfl)
          try simp only [Act.put, List.setIfInBounds_toArray, List.set_cons_zero, List.set_cons_succ]
          refine wpZ_one (i := 10) rfl (by kernel_rfl) (fun K hK => ?_)
          obtain ⟨hk3, hk4⟩ := ncell ho6 (g := gm) (l := [.int .i64 L, .int .i64 n, sv, .slice none 0 0, v0]) (j := 4) (by simp) rfl
          go_simp
          refine hK.out _ _ (fun k => absurd rfl k) (fun _ => ?_)
          clear hK K
          try simp only [Act.put, List.setIfInBounds_toArray, List.set_cons_zero, List.set_cons_succ]
          refine wpZ_done (by kernel_rfl) ?_ _
          have HN1 : Hid (∃ v, MrI w1 (w6.setCell ⟨gm, 4, none⟩ (.slice (some ⟨g6, 0, none⟩) (ls.length + 1) cap6)) gm gr L n sv (.slice none 0 0) v a.fin [] (a.st.take (k + 1))) := by
            refine ⟨(.slice (some ⟨g6, 0, none⟩) (ls.length + 1) cap6), ?_⟩
            rw [HSn.out]
            exact (nset (ho6.re [3, 0, 1, 2, 4] 5 rfl (by decide)) 4 (.slice (some ⟨g6, 0, none⟩) (ls.length + 1) cap6)).re [2, 3, 1, 0, 4] 5 rfl (by decide)
          clear ho6 HK HMb HM hk3 hk4 hHeld
          go_wp2
          go_roundw
          case rel => exact ⟨k + 1, by omega, by go_num, HN1⟩
          case measure => simp [intOf]; omega
        · obtain rfl : k = ks := by omega
          have HT : Hid (a.st.take k = a.st) := List.take_of_length_le (by rw [HS2.out]; exact Nat.le_refl _)
          rw [HT.out] at hmo
          obtain ⟨fv, hfv⟩ : ∃ x, x = v0 := ⟨_, rfl⟩
          rw [← hfv] at hmo
          have HI3 : Hid (∃ v, MrI w1 wr gm gr L n sv v fv a.fin ((a.mv.take 0).map turn) a.st) := ⟨_, hmo⟩
          clear hmo HI HM HT hfv
          skip
          go_wp2
          clear hcb
          go_loopw [6] (fun i wr => ∃ (k : Nat), k ≤ km ∧ i = .int .i64 k ∧ Hid (∃ v, MrI w1 wr gm gr L n sv v fv a.fin ((a.mv.take k).map turn) a.st)) (fun i _ => km - (intOf i).toNat)
          case atStart => exact ⟨0, by omega, rfl, HI3⟩
          case round =>
            clear HI3
            obtain ⟨k, hk, rfl, HI⟩ := hrel
            obtain ⟨v0, hmo⟩ := HI.out
            have HM := Lib.hid hmo
            have hcb := (HX.out.on hmo.below).c3
            by_cases hlt : k < km
            · as_aux_lemma =>
              have hlt' : k < a.mv.length := by rw [HS3.out]; exact hlt
              obtain ⟨ad, e, hadb, m0, m1, m2⟩ := HD.out.mv.at_ (List.getElem?_eq_getElem hlt')
              subst e
              have HSn := Lib.hid (take_map_snoc hlt')
              have HLn : Hid (((a.mv.take k).map turn).length < 1099511627776) := by rw [Hid, List.length_map, List.length_take]; omega
              obtain ⟨⟨x, y, z⟩, hq⟩ : ∃ q, q = a.mv[k] := ⟨_, rfl⟩
              rw [← hq] at m0 m1 m2 HSn
              try simp only at m0 m1 m2
              obtain ⟨P, hP⟩ : ∃ P, P = ad.add (k * 3) := ⟨_, rfl⟩
              have hPb : P.block < w1.heap.size := by rw [hP, Wd.block_add]; exact hadb
              rw [← hP] at m0 m1 m2
              have HP := Lib.hid hP
              clear hmo HI hlt' hq hP
              have HK : Hid (∀ W es fs, Own w1 W es fs → eNfa gm [.int .i64 L, .int .i64 n, sv, v0, fv] ∈ es ++ fs → W.cell? ⟨gm, 3, none⟩ = some v0 ∧ W.cell? ⟨gb, 3, none⟩ = some (.slice (some ad) km cm) ∧ W.cell? P = some (.int .i64 x) ∧ W.cell? ⟨P.block, P.off + 1, none⟩ = some (.int .i64 y) ∧ W.cell? ⟨P.block, P.off + 2, none⟩ = some (.int .i64 z)) := fun W es fs hW hm => ⟨(ncell hW hm (j := 3) rfl).1, (HX.out.on hW.below).c3, (hW.below.cell (p := P) hPb).trans m0, (hW.below.cell (p := ⟨P.block, P.off + 1, none⟩) hPb).trans m1, (hW.below.cell (p := ⟨P.block, P.off + 2, none⟩) hPb).trans m2⟩
              have e3 : (k : Int) < (km : Int) := by omega
              have HMb := Lib.hid (HM.out.re [1, 0, 2, 3, 4] 5 rfl (by decide))
              clear m0 m1 m2
              generalize (a.mv.take k).map turn = ms at *
              go_wp2
              clear hcb
              refine wp_region_Z ((fun W => W.cell? ⟨gm, 3, none⟩ = some v0 ∧ W.cell? ⟨gb, 3, none⟩ = some (.slice (some ad) km cm) ∧ W.cell? P = some (.int .i64 x) ∧ W.cell? ⟨P.block, P.off + 1, none⟩ = some (.int .i64 y) ∧ W.cell? ⟨P.block, P.off + 2, none⟩ = some (.int .i64 z))) 24 (by kernel_rfl) (HK.out _ _ _ (HMb.out.on (Below.refl _ _).drew) (by simp)) (fun hHeld => ?_)
              refine wpZ_takeD (some 53) (i := 0) (v := ?_) rfl rfl (by kernel_rfl) (by kernel_rfl) (by kernel_rfl) (by kernel_rfl) (fun _ _ _ h => h) (Or.inl ⟨by rfl, ?_⟩) hHeld ?_
              rotate_left
              · (go_light; intro w9 hSw; (try dsimp only at hSw); go_simp; try with_reducible rfl)
              try simp only [Act.put, List.setIfInBounds_toArray, List.set_cons_zero, List.set_cons_succ]
              refine wpZ_takeD (some 54) (i := 1) (v := ?_) rfl rfl (by kernel_rfl) (by kernel_rfl) (by kernel_rfl) (by kernel_rfl) (fun _ _ _ h => h) (Or.inl ⟨by rfl, ?_⟩) hHeld ?_
              rotate_left
              · (go_light; intro w9 hSw; (try dsimp only at hSw); go_simp; try with_reducible rfl)
              try simp only [Act.put, List.setIfInBounds_toArray, List.set_cons_zero, List.set_cons_succ]
              refine wpZ_takeD (some 55) (i := 2) (v := ?_) rfl rfl (by kernel_rfl) (by kernel_rfl) (by kernel_rfl) (by kernel_rfl) (fun _ _ _ h => h) (Or.inl ⟨by rfl, ?_⟩) hHeld ?_
              rotate_left
              · (go_light; intro w9 hSw; (try dsimp only at hSw); go_simp; try with_reducible rfl)
              try simp only [Act.put, List.setIfInBounds_toArray, List.set_cons_zero, List.set_cons_succ]
              refine wpZ_takeD (some 56) (i := 3) (v := ?_) rfl rfl (by kernel_rfl) (by kernel_rfl) (by kernel_rfl) (by kernel_rfl) (fun _ _ _ h => h) (Or.inl ⟨by rfl, ?_⟩) hHeld ?_
              rotate_left
              · (go_light; intro w9 hSw; (try dsimp only at hSw); go_simp; try with_reducible rfl)
              try simp only [Act.put, List.setIfInBounds_toArray, List.set_cons_zero, List.set_cons_succ]
              refine wpZ_takeD (some 57) (i := 4) (v := ?_) rfl rfl (by kernel_rfl) (by kernel_rfl) (by kernel_rfl) (by kernel_rfl) (fun _ _ _ h => h) (Or.inl ⟨by rfl, ?_⟩) hHeld ?_
              rotate_left
              · (go_light; intro w9 hSw; (try dsimp only at hSw); go_simp; try with_reducible rfl)
              try simp only [Act.put, List.setIfInBounds_toArray, List.set_cons_zero, List.set_cons_succ]
              refine wpZ_takeD (some 58) (i := 5) (v := .pointer (some P)) rfl rfl (by kernel_rfl) (by kernel_rfl) (by kernel_rfl) (by kernel_rfl) (fun _ _ _ h => h) (Or.inl ⟨by rfl, ?_⟩) hHeld ?_
              · (go_light; intro w9 hSw; (try dsimp only at hSw); rw [HP.out]; clear hSw; go_simp; try with_reducible rfl)
              try simp only [Act.put, List.setIfInBounds_toArray, List.set_cons_zero, List.set_cons_succ]
              refine wpZ_takeD (some 59) (i := 6) (v := ?_) rfl rfl (by kernel_rfl) (by kernel_rfl) (by kernel_rfl) (by kernel_rfl) (fun _ _ _ h => h) (Or.inl ⟨by rfl, ?_⟩) hHeld ?_
              rotate_left
              · (go_light; intro w9 hSw; (try dsimp only at hSw); go_simp; try with_reducible rfl)
              try simp only [Act.put, List.setIfInBounds_toArray, List.set_cons_zero, List.set_cons_succ]
              refine wpZ_takeD (some 60) (i := 7) (v := ?_) rfl rfl (by kernel_rfl) (by kernel_rfl) (by kernel_rfl) (by kernel_rfl) (fun _ _ _ h => h) (Or.inl ⟨by rfl, ?_⟩) hHeld ?_
              rotate_left
              · (go_light; intro w9 hSw; (try dsimp only at hSw); go_simp; try with_reducible rfl)
              try simp only [Act.put, List.setIfInBounds_toArray, List.set_cons_zero, List.set_cons_succ]
              refine wpZ_takeD (some 61) (i := 8) (v := ?_) rfl rfl (by kernel_rfl) (by kernel_rfl) (by kernel_rfl) (by kernel_rfl) (fun _ _ _ h => h) (Or.inl ⟨by rfl, ?_⟩) hHeld ?_
              rotate_left
              · (go_light; intro w9 hSw; (try dsimp only at hSw); go_simp; try with_reducible rfl)
              try simp only [Act.put, List.setIfInBounds_toArray, List.set_cons_zero, List.set_cons_succ]
              refine wpZ_takeD (some 62) (i := 9) (v := ?_) rfl rfl (by kernel_rfl) (by kernel_rfl) (by kernel_rfl) (by kernel_rfl) (fun _ _ _ h => h) (Or.inl ⟨by rfl, ?_⟩) hHeld ?_
              rotate_left
              · (go_light; intro w9 hSw; (try dsimp only at hSw); go_simp; try with_reducible rfl)
              try simp only [Act.put, List.setIfInBounds_toArray, List.set_cons_zero, List.set_cons_succ]
              refine wpZ_takeD (some 63) (i := 10) (v := ?_) rfl rfl (by kernel_rfl) (by kernel_rfl) (by kernel_rfl) (by kernel_rfl) (fun _ _ _ h => h) (Or.inl ⟨by rfl, ?_⟩) hHeld ?_
              rotate_left
              · (go_light; intro w9 hSw; (try dsimp only at hSw); go_simp; try with_reducible rfl)
              try simp only [Act.put, List.setIfInBounds_toArray, List.set_cons_zero, List.set_cons_succ]
              refine wpZ_takeD (some 64) (i := 11) (v := .pointer (some P)) rfl rfl (by kernel_rfl) (by kernel_rfl) (by kernel_rfl) (by kernel_rfl) (fun _ _ _ h => h) (Or.inl ⟨by rfl, ?_⟩) hHeld ?_
              · (go_light; intro w9 hSw; (try dsimp only at hSw); rw [HP.out]; clear hSw; go_simp; try with_reducible rfl)
              try simp only [Act.put, List.setIfInBounds_toArray, List.set_cons_zero, List.set_cons_succ]
              refine wpZ_takeD (some 65) (i := 12) (v := ?_) rfl rfl (by kernel_rfl) (by kernel_rfl) (by kernel_rfl) (by kernel_rfl) (fun _ _ _ h => h) (Or.inl ⟨by rfl, ?_⟩) hHeld ?_
              rotate_left
              · (go_light; intro w9 hSw; (try dsimp only at hSw); go_simp; try with_reducible rfl)
              try simp only [Act.put, List.setIfInBounds_toArray, List.set_cons_zero, List.set_cons_succ]
              refine wpZ_takeD (some 66) (i := 13) (v := ?_) rfl rfl (by kernel_rfl) (by kernel_rfl) (by kernel_rfl) (by kernel_rfl) (fun _ _ _ h => h) (Or.inl ⟨by rfl, ?_⟩) hHeld ?_
              rotate_left
              · (go_light; intro w9 hSw; (try dsimp only at hSw); go_simp; try with_reducible rfl)
              try simp only [Act.put, List.setIfInBounds_toArray, List.set_cons_zero, List.set_cons_succ]
              refine wpZ_takeD (some 67) (i := 14) (v := ?_) rfl rfl (by kernel_rfl) (by kernel_rfl) (by kernel_rfl) (by kernel_rfl) (fun _ _ _ h => h) (Or.inl ⟨by rfl, ?_⟩) hHeld ?_
              rotate_left
              · (go_light; intro w9 hSw; (try dsimp only at hSw); go_simp; try with_reducible rfl)
              try simp only [Act.put, List.setIfInBounds_toArray, List.set_cons_zero, List.set_cons_succ]
              refine wpZ_takeD (some 68) (i := 15) (v := ?_) rfl rfl (by kernel_rfl) (by kernel_rfl) (by kernel_rfl) (by kernel_rfl) (fun _ _ _ h => h) (Or.inl ⟨by rfl, ?_⟩) hHeld ?_
              rotate_left
              · (go_light; intro w9 hSw; (try dsimp only at hSw); go_simp; try with_reducible rfl)
              try simp only [Act.put, List.setIfInBounds_toArray, List.set_cons_zero, List.set_cons_succ]
              refine wpZ_takeD (some 69) (i := 16) (v := ?_) rfl rfl (by kernel_rfl) (by kernel_rfl) (by kernel_rfl) (by kernel_rfl) (fun _ _ _ h => h) (Or.inl ⟨by rfl, ?_⟩) hHeld ?_
              rotate_left
              · (go_light; intro w9 hSw; (try dsimp only at hSw); go_simp; try with_reducible rfl)
              try simp only [Act.put, List.setIfInBounds_toArray, List.set_cons_zero, List.set_cons_succ]
              refine wpZ_takeD (some 70) (i := 17) (v := .pointer (some P)) rfl rfl (by kernel_rfl) (by kernel_rfl) (by kernel_rfl) (by kernel_rfl) (fun _ _ _ h => h) (Or.inl ⟨by rfl, ?_⟩) hHeld ?_
              · (go_light; intro w9 hSw; (try dsimp only at hSw); rw [HP.out]; clear hSw; go_simp; try with_reducible rfl)
              try simp only [Act.put, List.setIfInBounds_toArray, List.set_cons_zero, List.set_cons_succ]
              refine wpZ_takeD (some 71) (i := 18) (v := ?_) rfl rfl (by kernel_rfl) (by kernel_rfl) (by kernel_rfl) (by kernel_rfl) (fun _ _ _ h => h) (Or.inl ⟨by rfl, ?_⟩) hHeld ?_
              rotate_left
              · (go_light; intro w9 hSw; (try dsimp only at hSw); go_simp; try with_reducible rfl)
              try simp only [Act.put, List.setIfInBounds_toArray, List.set_cons_zero, List.set_cons_succ]
              refine wpZ_takeD (some 72) (i := 19) (v := ?_) rfl rfl (by kernel_rfl) (by kernel_rfl) (by kernel_rfl) (by kernel_rfl) (fun _ _ _ h => h) (Or.inl ⟨by rfl, ?_⟩) hHeld ?_
              rotate_left
              · (go_light; intro w9 hSw; (try dsimp only at hSw); go_simp; try with_reducible rfl)
              try simp only [Act.put, List.setIfInBounds_toArray, List.set_cons_zero, List.set_cons_succ]
              refine wpZ_takeD (some 73) (i := 20) (v := ?_) rfl rfl (by kernel_rfl) (by kernel_rfl) (by kernel_rfl) (by kernel_rfl) (fun _ _ _ h => h) (Or.inl ⟨by rfl, ?_⟩) hHeld ?_
              rotate_left
              · (go_light; intro w9 hSw; (try dsimp only at hSw); go_simp; try with_reducible rfl)
              try simp only [Act.put, List.setIfInBounds_toArray, List.set_cons_zero, List.set_cons_succ]
              refine wpZ_one (i := 21) rfl (by kernel_rfl) (fun K hK => ?_)
              go_simp
              refine hK.out _ _ (fun _ => HK.out _ _ _ (HMb.out.on (by go_grown)) (by simp)) (fun hHeld9 => ?_)
              replace hHeld := hHeld9 (by decide)
              clear hHeld9
              clear hK K
              try simp only [Act.put, List.setIfInBounds_toArray, List.set_cons_zero, List.set_cons_succ]
              refine wpZ_one (i := 22) rfl (by kernel_rfl) (fun K hK => ?_)
              refine step_own_move (m := (z, y, x)) (by rfl) _ _ (by rfl) (by rfl) (HMb.out.on (Below.refl _ _).drew) (by rfl) HLn.out ?_
              intro g6 cap6 w6 ho6
              refine hK.out _ _ (fun _ => HK.out _ _ _ ho6 (by simp)) (fun hHeld9 => ?_)
              replace hHeld := hHeld9 (by decide)
              clear hHeld9
              clear hK K
              try simp only [Act.put, List.setIfInBounds_toArray, List.set_cons_zero, List.set_cons_succ]
              refine wpZ_takeD (some 76) (i := 23) (v := ?_) rfl rfl (by kernel_rfl) (by kernel_rfl) (by kernel_rfl) (by kernel_rfl) (fun _ _ _ h => h) (Or.inl ⟨by rfl, ?_⟩) hHeld ?_
              rotate_left
              · (go_light; intro w9 hSw; (try dsimp only at hSw); go_simp; try with_reducible rfl)
              try simp only [Act.put, List.setIfInBounds_toArray, List.set_cons_zero, List.set_cons_succ]
              refine wpZ_one (i := 24) rfl (by kernel_rfl) (fun K hK => ?_)
              obtain ⟨hk3, hk4⟩ := ncell ho6 (g := gm) (l := [.int .i64 L, .int .i64 n, sv, v0, fv]) (j := 3) (by simp) rfl
              go_simp
              refine hK.out _ _ (fun k => absurd rfl k) (fun _ => ?_)
              clear hK K
              try simp only [Act.put, List.setIfInBounds_toArray, List.set_cons_zero, List.set_cons_succ]
              refine wpZ_done (by kernel_rfl) ?_ _
              have HN1 : Hid (∃ v, MrI w1 (w6.setCell ⟨gm, 3, none⟩ (.slice (some ⟨g6, 0, none⟩) (ms.length + 1) cap6)) gm gr L n sv v fv a.fin ((a.mv.take (k + 1)).map turn) a.st) := by
                refine ⟨(.slice (some ⟨g6, 0, none⟩) (ms.length + 1) cap6), ?_⟩
                rw [HSn.out]
                exact (nset (ho6.re [3, 0, 1, 2, 4] 5 rfl (by decide)) 3 (.slice (some ⟨g6, 0, none⟩) (ms.length + 1) cap6)).re [2, 1, 3, 0, 4] 5 rfl (by decide)
              clear ho6 HK HMb HM hk3 hk4 hHeld
              go_wp2
              go_roundw
              case rel => exact ⟨k + 1, by omega, by go_num, HN1⟩
              case measure => simp [intOf]; omega
            · obtain rfl : k = km := by omega
              have HT : Hid (a.mv.take k = a.mv) := List.take_of_length_le (by rw [HS3.out]; exact Nat.le_refl _)
              rw [HT.out] at hmo
              obtain ⟨A1, k1, n1, A2, k2, n2, A3, k3, n3, e1, e2, e3⟩ := mrI_form hmo
              subst e1 e2 e3
              obtain ⟨hg0, _⟩ := mrI_gm hmo (j := 0) rfl
              obtain ⟨hr0, hf0⟩ := mrI_gr hmo (j := 0) rfl
              obtain ⟨hg1, _⟩ := mrI_gm hmo (j := 1) rfl
              obtain ⟨hr1, hf1⟩ := mrI_gr hmo (j := 1) rfl
              obtain ⟨hg2, _⟩ := mrI_gm hmo (j := 2) rfl
              obtain ⟨hr2, hf2⟩ := mrI_gr hmo (j := 2) rfl
              obtain ⟨hg3, _⟩ := mrI_gm hmo (j := 3) rfl
              obtain ⟨hr3, hf3⟩ := mrI_gr hmo (j := 3) rfl
              obtain ⟨hg4, _⟩ := mrI_gm hmo (j := 4) rfl
              obtain ⟨hr4, hf4⟩ := mrI_gr hmo (j := 4) rfl
              have HEnd := Lib.hid (mrI_end (a := mir a) (by rw [show (mir a).L = L from HE2.out.1, show (mir a).n = n from HE2.out.2]; exact hmo) (mir_good HG.out) rfl)
              rw [show (mir a).L = L from HE2.out.1, show (mir a).n = n from HE2.out.2] at HEnd
              clear hmo HI HM HT
              go_wp2
              obtain ⟨hat, hbl, k0, k1, k2, k3, k4⟩ := HEnd.out
              exact bodyPost_ret (results_nfa1 rfl _ rfl k0 k1 k2 k3 k4) rfl ⟨⟨_, rfl, hat.base HB.out⟩, HB.out.trans (hbl.mono HB.out.size)⟩
end Go.Proofs.YtlhhhdgkdbplmaaDoor.Nf
