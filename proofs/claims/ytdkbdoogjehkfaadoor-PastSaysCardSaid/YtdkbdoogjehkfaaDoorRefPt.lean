/- The walk of the document's answer for the values of a formula that looks back: PastTable. -/
import Derived.Test.YtdkbdoogjehkfaaDoorRefTab
import Derived.Test.YtdkbdoogjehkfaaDoorPastM
namespace Go.Proofs.YtdkbdoogjehkfaaDoor.Fm
open Go.RowKit Go.IntWalk Go.Proofs.YtdkbdoogjehkfaaDoor.Wd Go.Proofs.YtdkbdoogjehkfaaDoor.Wo

set_option linter.unusedSimpArgs false in
set_option maxRecDepth 100000 in
set_option maxHeartbeats 8000000 in
theorem ptable_any {L : Int} (A0 : Option Addr) (c : Nat) (f : List Nd) (B : Option Addr) (cb : Nat) (zz : List Int) (w : World) (hA : NodesAt w w.heap.size A0 f) (hB : IntsAt w w.heap.size B zz) (hg : FGood L (mrF f)) (hz : Fine L zz) :
    Calls Tryd.prog 10 #[.slice A0 f.length c, .slice B zz.length cb] w fun e w' => Hid (∃ A cap, e = .returned (.slice A f.length cap) ∧ TO w w' (zz.length + 1) (.slice A f.length cap) f.length (pat f zz)) := by
  have hn40 := hg.le
  rw [mrF_length] at hn40
  have h80 := hz.2.1
  have HG := Lib.hid hg
  have HF := Lib.hid hz
  have HA := Lib.hid (fun wr (h : Below w.heap.size w wr) => hA.on h)
  have HZ := Lib.hid (fun wr (h : Below w.heap.size w wr) => hB.on h)
  have HTb := Lib.hid (fun k n (hn : f[k]? = some n) p (hp : p ≤ zz.length) => pat_tab hg.nd hn zz p hp)
  have hp6 : (2 : Int) ^ L.toNat ≤ 64 := by
    obtain ⟨P, _, h2, _, h4⟩ := shl_lim hg.l1 hg.l6
    rw [h2]; exact h4
  have HPow := Lib.hid hp6
  have HS0 : Hid (TO w w (zz.length + 1) (.slice none 0 0) 0 (pat f zz)) := ⟨[], ⟨(own_start w).nil 24 1, fun r hr => by simp at hr⟩, rfl, fun j r hj => by simp at hj⟩
  obtain ⟨N, hN⟩ : ∃ N, f.length = N := ⟨_, rfl⟩
  obtain ⟨n, hn⟩ : ∃ n, zz.length = n := ⟨_, rfl⟩
  have HN := Lib.hid hN
  have HZn := Lib.hid hn
  rw [hN] at hn40 ⊢
  rw [hn] at h80 HS0 ⊢
  have hN0 : 0 < n + 1 := by omega
  clear hN hn hA hB hg hz hp6
  go_enter Tryd.func10, Tryd.ntmps10
  go_wp2
  go_loopw [5, 6] (fun tv i wr => ∃ (k : Nat), k ≤ N ∧ i = .int .i64 k ∧ Hid (∃ A cap, tv = .slice A k cap ∧ TO w wr (n + 1) tv k (pat f zz))) (fun _ i _ => N - (intOf i).toNat)
  case atStart => exact ⟨0, by omega, rfl, none, 0, rfl, HS0⟩
  case round =>
    clear HS0
    obtain ⟨k, hk, rfl, HS⟩ := hrel
    obtain ⟨A, cap, rfl, rs, hT, hlen, hrows⟩ := HS.out
    by_cases hlt : k < N
    · obtain ⟨nd, hnd⟩ : ∃ n, f[k]? = some n := ⟨_, List.getElem?_eq_getElem (by rw [HN.out]; exact hlt)⟩
      obtain ⟨ad, e, hadb, c0, c1, c2⟩ := (HA.out _ hT.1.below).at_ hnd
      subst e
      have HVt := Lib.hid (HTb.out k nd hnd)
      have gd := HG.out.nd k _ (mrF_at hnd)
      have hkk := past_kinds gd
      obtain ⟨x, y, z⟩ := nd
      simp only at hkk c0 c1 c2
      have hst : mrk x = 2 → 0 ≤ y ∧ y < 2 ^ L.toNat := gd.set
      have ha1 : 1 ≤ ops (mrk x) → 0 ≤ y ∧ y < (k : Int) := gd.a1
      have hb2 : ops (mrk x) = 2 → 0 ≤ z ∧ z < (k : Int) := gd.b2
      have HT := Lib.hid hT
      have HLen := Lib.hid hlen
      have HRows := Lib.hid hrows
      have e1 : (k : Int) < (N : Int) := by omega
      obtain ⟨V, hV⟩ : ∃ V, V = Rc.bF (n + 1) (pat f zz k) := ⟨_, rfl⟩
      have HVl : Hid (V.length = n + 1) := by unfold Hid; rw [hV, Rc.bF_length]
      have HVv := Lib.hid hV
      clear HS hT hlen hrows gd hnd hV
      as_aux_lemma =>
      go_wp2_with (at_make; refine Rc.mk_bools rfl _ _ rfl (n + 1) rfl rfl (by omega) ?_)
      intro w4 ho4
      have HT4 := Lib.hid (ti_start HT.out HVl.out ho4)
      clear ho4 HT c0 c1 c2
      generalize wr.heap.size + 1 = gw at *
      generalize wr.heap.size = gb at *
      go_wp2
      go_loopw [9] (fun i wi => ∃ (p : Nat), p ≤ n + 1 ∧ i = .int .i64 p ∧ Hid (TI w wi (n + 1) (.slice A k cap) rs gw gb (x, y, z) V p)) (fun i _ => n + 1 - (intOf i).toNat)
      case atStart => exact ⟨0, by omega, rfl, HT4⟩
      case round =>
        clear HT4
        obtain ⟨p, hp, rfl, HTI⟩ := hrel
        by_cases hpN : p < n + 1
        · have HVp : Hid (V[p]? = some (patN (x, y, z) zz (pat f zz) p)) := by unfold Hid; rw [HVv.out, Rc.bF_get _ hpN, HVt.out p (by have := HZn.out; omega)]
          obtain ⟨t0, t1⟩ := ti_cell HTI.out HVl.out hpN
          obtain ⟨hgb, d0, d1, d2⟩ := ti_box HTI.out
          have HS := Lib.hid (ti_set HTI.out HVl.out HVp.out)
          have HSd := fun m => Lib.hid (ti_set (ti_on HTI.out (below_drewN (Below.refl _ _) m)) HVl.out HVp.out)
          have e7 : (p : Int) ≤ (n : Int) := by omega
          have e8 : (p : Int) < (n : Int) + 1 := by omega
          clear HVt
          rcases hkk with rfl | rfl | rfl | rfl | rfl | rfl | rfl | rfl
          · as_aux_lemma =>
            change Hid (TI _ (World.setCell _ ⟨gw, p, none⟩ (.bool true)) _ _ _ _ _ _ _ _) at HS
            clear HVp HTI
            go_wp2
            go_roundw
            case rel => exact ⟨p + 1, by omega, by go_num, HS⟩
            case measure => simp [intOf]; omega
          · as_aux_lemma =>
            have HS2 : Hid (TI w wr (n + 1) (.slice A k cap) rs gw gb (1, y, z) V (p + 1)) := by have h := HTI.out; unfold TI at h; rw [mid_skip HVp.out] at h; exact h
            clear HVp HTI HS t0 t1
            go_wp2
            go_roundw
            case rel => exact ⟨p + 1, by omega, by go_num, HS2⟩
            case measure => simp [intOf]; omega
          · as_aux_lemma =>
            change ∀ m, Hid (TI _ (World.setCell _ ⟨gw, p, none⟩ (.bool (decide (0 < p) && y.toNat.testBit (zz.getD (p - 1) 0).toNat))) _ _ _ _ _ _ _ _) at HSd
            have hy := (hst rfl)
            rcases p with _ | q
            · rw [decide_eq_false (by omega), Bool.false_and] at HSd
              clear e7 HVp HTI ha1 hb2 HS hst hy
              go_wp2_with fail
              go_region
              all_goals go_wp2
              all_goals go_roundw
              all_goals first | exact ⟨0 + 1, by omega, by go_num, HSd _⟩ | (simp [intOf]; done) | (simp [intOf]; omega)
            · have hzl : q < zz.length := by rw [HZn.out]; omega
              obtain ⟨adz, e, hadzb, hcz, _, _⟩ := (HZ.out wr HTI.out.1.below).at_ q hzl
              subst e
              have hfa := HF.out.2.2 zz[q] (List.getElem_mem hzl)
              have hl6 := HF.out.1.2
              rw [decide_eq_true (by omega), Bool.true_and, Nat.add_sub_cancel, List.getD_eq_getElem?_getD, List.getElem?_eq_getElem hzl, Option.getD_some] at HSd
              rw [← has_test] at HSd
              generalize zz[q] = a at *
              have HBt := Lib.hid (fun W => (bit_any y a W hy.1 (by have := hy.2; have := HPow.out; omega) hfa.1 (by omega)).mono (R' := fun e w' => e = .returned (.bool (has y a)) ∧ w' = W) fun e w' ⟨h1, h2⟩ => ⟨h1.out, h2.symm⟩)
              generalize has y a = b at *
              have e3 : (q : Int) < (n : Int) := by omega
              have e4 : ((q + 1 : Nat) : Int) = (q : Int) + 1 := by omega
              have e6 : (0 : Int) ≤ (q : Int) + 1 := by omega
              have e5 : IntKind.i64.wrap (q : Int) = (q : Int) := IntWalk.i64_in _ ⟨by omega, by omega⟩
              clear HVp HTI ha1 hb2 HS hst hy hfa hl6
              go_wp2_with fail
              refine wp_region_still_tail 15 (by kernel_rfl) (by kernel_rfl) ?_
              simp only [List.take_succ_cons, List.take_zero, List.drop_succ_cons, List.drop_zero]
              iterate 12 still_step
              still_call (HBt.out _)
              iterate 2 still_step
              refine wpStill_nil ?_
              change wpList _ _ _ _ _ wr.drew
              go_wp2
              go_roundw
              case rel => exact ⟨q + 1 + 1, by omega, by go_num, HSd 1⟩
              case measure => first | (simp [intOf]; done) | (simp [intOf]; omega)
          · as_aux_lemma =>
            change Hid (TI _ (World.setCell _ ⟨gw, p, none⟩ (.bool (!pat f zz y.toNat p))) _ _ _ _ _ _ _ _) at HS
            obtain ⟨i, rfl, hi⟩ := nat_of (ha1 (by decide))
            obtain ⟨adi, gi, ei, bi, ri, li, ci, Bi⟩ := ti_child HTI.out HLen.out HRows.out hN0 hi
            subst ei
            have x1 := ci p hpN
            rw [Int.toNat_natCast] at HS
            have e2 : (i : Int) < (k : Int) := by omega
            generalize pat f zz i p = b at *
            clear HVp HTI ci Bi ha1 hb2
            go_wp2
            go_roundw
            case rel => exact ⟨p + 1, by omega, by go_num, HS⟩
            case measure => simp [intOf]; omega
          · as_aux_lemma =>
            change Hid (TI _ (World.setCell _ ⟨gw, p, none⟩ (.bool (pat f zz y.toNat p && pat f zz z.toNat p))) _ _ _ _ _ _ _ _) at HS
            obtain ⟨i, rfl, hi⟩ := nat_of (ha1 (by decide))
            obtain ⟨adi, gi, ei, bi, ri, li, ci, Bi⟩ := ti_child HTI.out HLen.out HRows.out hN0 hi
            obtain ⟨j, rfl, hj⟩ := nat_of (hb2 (by decide))
            obtain ⟨adj, gj, ej, bj, rj, lj, cj, Bj⟩ := ti_child HTI.out HLen.out HRows.out hN0 hj
            subst ei
            obtain rfl := Option.some.inj ej
            have x1 := ci p hpN
            have x2 := cj p hpN
            rw [Int.toNat_natCast, Int.toNat_natCast] at HS
            have e2 : (i : Int) < (k : Int) := by omega
            have e3 : (j : Int) < (k : Int) := by omega
            generalize pat f zz i p = b at *
            generalize pat f zz j p = d at *
            clear HVp HTI ci Bi cj Bj ha1 hb2 ej
            rcases b with _ | _
            · rw [Bool.false_and] at HS
              go_wp2
              go_roundw
              case rel => exact ⟨p + 1, by omega, by go_num, HS⟩
              case measure => simp [intOf]; omega
            · rw [Bool.true_and] at HS
              go_wp2
              go_roundw
              case rel => exact ⟨p + 1, by omega, by go_num, HS⟩
              case measure => simp [intOf]; omega
          · as_aux_lemma =>
            change Hid (TI _ (World.setCell _ ⟨gw, p, none⟩ (.bool (pat f zz y.toNat p || pat f zz z.toNat p))) _ _ _ _ _ _ _ _) at HS
            obtain ⟨i, rfl, hi⟩ := nat_of (ha1 (by decide))
            obtain ⟨adi, gi, ei, bi, ri, li, ci, Bi⟩ := ti_child HTI.out HLen.out HRows.out hN0 hi
            obtain ⟨j, rfl, hj⟩ := nat_of (hb2 (by decide))
            obtain ⟨adj, gj, ej, bj, rj, lj, cj, Bj⟩ := ti_child HTI.out HLen.out HRows.out hN0 hj
            subst ei
            obtain rfl := Option.some.inj ej
            have x1 := ci p hpN
            have x2 := cj p hpN
            rw [Int.toNat_natCast, Int.toNat_natCast] at HS
            have e2 : (i : Int) < (k : Int) := by omega
            have e3 : (j : Int) < (k : Int) := by omega
            generalize pat f zz i p = b at *
            generalize pat f zz j p = d at *
            clear HVp HTI ci Bi cj Bj ha1 hb2 ej
            rcases b with _ | _
            · rw [Bool.false_or] at HS
              go_wp2
              go_roundw
              case rel => exact ⟨p + 1, by omega, by go_num, HS⟩
              case measure => simp [intOf]; omega
            · rw [Bool.true_or] at HS
              go_wp2
              go_roundw
              case rel => exact ⟨p + 1, by omega, by go_num, HS⟩
              case measure => simp [intOf]; omega
          · as_aux_lemma =>
            change Hid (TI _ (World.setCell _ ⟨gw, p, none⟩ (.bool (decide (0 < p) && pat f zz y.toNat (p - 1)))) _ _ _ _ _ _ _ _) at HS
            rcases p with _ | q
            · rw [decide_eq_false (by omega), Bool.false_and] at HS
              clear HVp HTI ha1 hb2
              go_wp2
              go_roundw
              case rel => exact ⟨0 + 1, by omega, by go_num, HS⟩
              case measure => first | (simp [intOf]; done) | (simp [intOf]; omega)
            · rw [decide_eq_true (by omega), Bool.true_and, Nat.add_sub_cancel] at HS
              obtain ⟨i, rfl, hi⟩ := nat_of (ha1 (by decide))
              obtain ⟨adi, gi, ei, bi, ri, li, ci, Bi⟩ := ti_child HTI.out HLen.out HRows.out hN0 hi
              subst ei
              have x1 := ci q (by omega)
              rw [Int.toNat_natCast] at HS
              have e2 : (i : Int) < (k : Int) := by omega
              have e3 : (q : Int) < (n : Int) := by omega
              have e4 : (q : Int) < (n : Int) + 1 := by omega
              have e5 : (q : Int) + 1 < (n : Int) + 1 := by omega
              generalize pat f zz i q = b at *
              clear HVp HTI ci Bi ha1 hb2
              go_wp2
              go_roundw
              case rel => exact ⟨q + 1 + 1, by omega, by go_num, HS⟩
              case measure => first | (simp [intOf]; done) | (simp [intOf]; omega)
          · as_aux_lemma =>
            change Hid (V[p]? = some (snc (pat f zz y.toNat) (pat f zz z.toNat) p)) at HVp
            obtain ⟨i, rfl, hi⟩ := nat_of (ha1 (by decide))
            obtain ⟨adi, gi, ei, bi, ri, li, ci, Bi⟩ := ti_child HTI.out HLen.out HRows.out hN0 hi
            obtain ⟨j, rfl, hj⟩ := nat_of (hb2 (by decide))
            obtain ⟨adj, gj, ej, bj, rj, lj, cj, Bj⟩ := ti_child HTI.out HLen.out HRows.out hN0 hj
            subst ei
            obtain rfl := Option.some.inj ej
            rw [Int.toNat_natCast, Int.toNat_natCast] at HVp
            have HCi := Lib.hid ci
            have HCj := Lib.hid cj
            generalize pat f zz i = fa at *
            generalize pat f zz j = fb at *
            obtain ⟨R, hR⟩ : ∃ R, snc fa fb p = R := ⟨_, rfl⟩
            have HQ0 := Lib.hid hR
            rw [hR] at HVp
            have HYes : Hid (R = true → TI w (wr.setCell ⟨gw, p, none⟩ (.bool true)) (n + 1) (.slice (some adi) k cap) rs gw gb (11, (i : Int), (j : Int)) V (p + 1)) := fun h => ti_set HTI.out HVl.out (by rw [← h]; exact HVp.out)
            have HNo : Hid (R = false → TI w wr (n + 1) (.slice (some adi) k cap) rs gw gb (11, (i : Int), (j : Int)) V (p + 1)) := fun h => by have h2 := HTI.out; unfold TI at h2; rw [mid_skip (by rw [← h]; exact HVp.out)] at h2; exact h2
            have e2 : (i : Int) < (k : Int) := by omega
            have e3 : (j : Int) < (k : Int) := by omega
            clear HVp HTI ci Bi cj Bj ha1 hb2 ej HS HSd hR
            go_wp2
            go_loopw [10] (fun s wq => ∃ (q : Nat), q ≤ p ∧ s = .int .i64 q ∧ wq = wr ∧ Hid (snc fa fb q = R)) (fun s _ => (intOf s).toNat)
            case atStart => exact ⟨p, Nat.le_refl _, rfl, rfl, HQ0⟩
            case round =>
              clear HQ0
              obtain ⟨q, hq, rfl, rfl, HQ⟩ := hrel
              rcases q with _ | q
              · have HE := Lib.hid (HNo.out (by rw [← HQ.out]; rfl))
                clear HNo HYes HQ
                go_wp2
                go_roundw
                case rel => exact ⟨p + 1, by omega, by go_num, HE⟩
                case measure => first | (simp [intOf]; done) | (simp [intOf]; omega)
              · have x1 := HCi.out (q + 1) (by omega)
                have x2 := HCj.out (q + 1) (by omega)
                have e4 : (q : Int) + 1 < (n : Int) + 1 := by omega
                have HQ2 : Hid ((fb (q + 1) || (fa (q + 1) && snc fa fb q)) = R) := HQ.out
                clear HQ
                generalize fb (q + 1) = bb at *
                generalize fa (q + 1) = ba at *
                rcases bb with _ | _
                · rcases ba with _ | _
                  · have HE := Lib.hid (HNo.out (by rw [← HQ2.out]; rfl))
                    clear HNo HYes HQ2
                    go_wp2
                    go_roundw
                    case rel => exact ⟨p + 1, by omega, by go_num, HE⟩
                    case measure => first | (simp [intOf]; done) | (simp [intOf]; omega)
                  · have HQ3 : Hid (snc fa fb q = R) := by rw [Hid, ← HQ2.out]; simp
                    clear HQ2
                    go_wp2
                    go_roundw
                    case rel => exact ⟨q, by omega, by go_num, by simp, HQ3⟩
                    case measure => first | (simp [intOf]; done) | (simp [intOf]; omega)
                · have HE := Lib.hid (HYes.out (by rw [← HQ2.out]; simp))
                  clear HNo HYes HQ2
                  go_wp2
                  go_roundw
                  case rel => exact ⟨p + 1, by omega, by go_num, HE⟩
                  case measure => first | (simp [intOf]; done) | (simp [intOf]; omega)
        · as_aux_lemma =>
          obtain rfl : p = n + 1 := by omega
          have HO := Lib.hid (ti_row HTI.out HVl.out)
          have HRl := Lib.hid HTI.out.2
          have hlen1 : (rs.map (Rc.brV (n + 1))).length < 1099511627776 := by rw [List.length_map, HLen.out]; omega
          have HL1 : Hid ((rs.map (Rc.brV (n + 1))).length = k) := by rw [Hid, List.length_map, HLen.out]
          have e7 : ¬ ((n : Int) + 1 ≤ (n : Int)) := by omega
          clear HTI ha1 hb2 hst
          go_wp2_with (at_builtin; refine Rc.own_brow (by rfl) _ _ (by rfl) (by rfl) HO.out (by rfl) (by rfl) hlen1 ?_)
          intro g8 cap8 w8 ho8
          simp only [List.length_map, HLen.out] at ho8 ⊢
          have HE : Hid (∃ A cap, Value.slice (some ⟨g8, 0, none⟩) (k + 1) cap8 = .slice A (k + 1) cap ∧ TO w w8 (n + 1) (.slice (some ⟨g8, 0, none⟩) (k + 1) cap8) (k + 1) (pat f zz)) :=
            ⟨_, _, rfl, rs ++ [(gw, V)], ownT_snoc HVl.out HRl.out ho8, by rw [List.length_append, HLen.out]; rfl, rowsM_snoc' HRows.out gw HLen.out HVv.out⟩
          clear ho8 HO
          go_wp2
          go_roundw
          case rel => exact ⟨k + 1, by omega, by go_num, HE⟩
          case measure => first | (simp [intOf]; done) | (simp [intOf]; omega)
    · obtain rfl : k = N := by omega
      have HE : Hid (TO w wr (n + 1) (.slice A k cap) k (pat f zz)) := ⟨rs, hT, hlen, hrows⟩
      clear HS hT hlen hrows
      go_wp2
      go_ret
      exact ⟨_, _, rfl, HE.out⟩
end Go.Proofs.YtdkbdoogjehkfaaDoor.Fm
