/- The document's moves of an arena. -/
import Derived.Test.YtkphdegelhlpeaaDoorRefRk
namespace Go.Proofs.YtkphdegelhlpeaaDoor.Du
open Go.RowKit Go.IntWalk Go.Proofs.YtkphdegelhlpeaaDoor.Wd Go.Proofs.YtkphdegelhlpeaaDoor.Wo Go.Proofs.YtkphdegelhlpeaaDoor.Df Go.Proofs.YtkphdegelhlpeaaDoor.Rc

set_option maxRecDepth 100000 in
set_option maxHeartbeats 16000000 in
theorem rmoves_any (v : Value) (a : Ar) (w : World) (h : ArAt w w.heap.size v a) (gd : Good a) :
    Calls Tryd.prog 8 #[v] w fun e w' => Hid (∃ wv, e = .returned wv ∧ Own w w' [] [eInts wv (fT a.next.length (moveA a))]) := by
  have HV := h
  obtain ⟨O, co, A, c, F, cf, rfl, h⟩ := h
  obtain ⟨w1, hw1, hB1, hX, ha1⟩ := box_ar w h
  have HB := Lib.hid hB1
  have HG := Lib.hid gd
  have h40 := gd.n40
  have HRk := Lib.hid (rranks_any _ a w1 (HV.on hB1) gd)
  rw [gd.own, gd.goal]
  rw [gd.own, gd.goal] at hX hw1
  have hrk := HRk.out
  clear HRk
  rw [gd.own, gd.goal] at hrk
  have HRk := Lib.hid hrk
  have HW := Lib.hid hw1
  have HA : Hid (∀ W, Below w1.heap.size w1 W → ArIs W w1.heap.size O co A c F cf a ∧ BoxA W w.heap.size O a.next.length co A a.next.length c F a.next.length cf) := fun W hW => ⟨ha1.below hW, hX.on hW⟩
  have hc0 := hX.c0
  have hc1 := hX.c1
  have hc2 := hX.c2
  have h0 := HG.out.n1
  clear h hw1 hB1 ha1 hX gd HV hrk
  generalize hn : a.next.length = n at *
  have HN := Lib.hid hn
  clear hn
  go_enter Tryd.func8, Tryd.ntmps8
  go_wp2_with fail
  rw [← HW.out]
  refine HRk.out.mono ?_
  rintro e w2 he
  obtain ⟨gr, e0, ho⟩ := he.out
  subst e0
  have HO : Hid (Own w1 w2 [eInts (.slice none 0 0) (fT 0 (moveA a))] [eInts (rw_ gr n) (fT n (rank a))]) := ho.nil 3 1
  clear he ho HRk HW hc0 hc1 hc2
  go_wp2
  go_loopw [4, 5] (fun ov i wr => ∃ (p : Nat), p ≤ n ∧ i = .int .i64 p ∧ Hid (Own w1 wr [eInts ov (fT p (moveA a))] [eInts (rw_ gr n) (fT n (rank a))])) (fun _ i _ => n - (intOf i).toNat)
  case atStart => exact ⟨0, by omega, rfl, HO⟩
  case round =>
    clear HO
    obtain ⟨p, hp, rfl, HO⟩ := hrel
    by_cases hltp : p < n
    · obtain ⟨r, hr⟩ : ∃ r, a.next[p]? = some r := ⟨_, List.getElem?_eq_getElem (by rw [HN.out]; exact hltp)⟩
      have HRw : Hid (rowA a p = r) := by unfold rowA Hid; rw [hr]; rfl
      have HSu : Hid (succs a p = r.map Int.toNat) := by unfold succs Hid; rw [HRw.out]
      have HFit := Lib.hid (HG.out.fit p (by rw [HN.out]; exact hltp))
      rw [HRw.out, HN.out] at HFit
      have HR := Lib.hid hr
      have h40r := HFit.out.r40
      have HY : Hid ((-1 : Int) = moveTo a p ((succs a p).take 0)) := rfl
      clear hr
      have e1 : (p : Int) < (n : Int) := by omega
      go_wp2
      go_loopw [6, 7] (fun mv i wr => ∃ (j : Nat) (M : Int), j ≤ r.length ∧ i = .int .i64 j ∧ mv = .int .i64 M ∧ Hid (M = moveTo a p ((succs a p).take j)) ∧ Hid (Own w1 wr [eInts u4 (fT p (moveA a))] [eInts (rw_ gr n) (fT n (rank a))])) (fun _ i _ => r.length - (intOf i).toNat)
      case atStart => exact ⟨0, -1, by omega, rfl, rfl, HY, HO⟩
      case round =>
        clear HY HO
        obtain ⟨j, M, hj, rfl, rfl, HM, HO⟩ := hrel
        obtain ⟨hi, hb⟩ := HA.out _ HO.out.below
        have hc0 := hb.c0
        have hc1 := hb.c1
        obtain ⟨ad, A', c', e, hadb, hcell, hrc, hrc2, hz⟩ := hi.rows p r HR.out
        subst e
        by_cases hlj : j < r.length
        · by_cases hM : M < 0
          · have hM1 : M = -1 := by
              have h1 := moveTo_neg (by rw [← HM.out]; exact hM)
              rw [← HM.out] at h1
              exact h1
            have hx := HFit.out.go _ (List.getElem_mem hlj)
            obtain ⟨ad2, rfl, hadb2, hcell2, hs1, hs2⟩ := hz.at_ j hlj
            obtain ⟨q, hq⟩ := Int.eq_ofNat_of_zero_le hx.1
            have hqn : q < n := by omega
            have HQ : Hid ((succs a p)[j]? = some q) := by
              unfold Hid
              rw [HSu.out, List.getElem?_map, List.getElem?_eq_getElem hlj, Option.map_some, hq, Int.toNat_natCast]
            rw [hq] at hcell2
            have e2 : (q : Int) < (n : Int) := by omega
            have e3 : (j : Int) < (r.length : Int) := by omega
            obtain ⟨k3, k4⟩ := own_ints_cell HO.out (List.mem_append_right _ List.mem_cons_self) (fT_length _ _) (fT_get (rank a) hltp)
            obtain ⟨k5, k6⟩ := own_ints_cell HO.out (List.mem_append_right _ List.mem_cons_self) (fT_length _ _) (fT_get (rank a) hqn)
            have hol : p < a.own.length := by rw [HG.out.own, HN.out]; exact hltp
            obtain ⟨ado, rfl, hob, hoc, hs5, hs6⟩ := hi.owns.at_ p hol
            have hoo : ownA a p = a.own[p] := by unfold ownA; rw [List.getElem?_eq_getElem hol]; rfl
            rw [← hoo] at hoc
            clear hoo hs5 hs6 hol hob
            have hb1 := rank_ge a p
            have hb2 := rank_lt HG.out (p := p) (by rw [HN.out]; exact hltp)
            have hb3 := rank_ge a q
            have hb4 := rank_lt HG.out (p := q) (by rw [HN.out]; exact hqn)
            rw [HN.out] at hb2 hb4
            have hof := HFit.out.own
            obtain ⟨o, ho⟩ : ∃ o, ownA a p = o := ⟨_, rfl⟩
            obtain ⟨X, hX⟩ : ∃ X, rank a p = X := ⟨_, rfl⟩
            obtain ⟨Y, hY⟩ : ∃ Y, rank a q = Y := ⟨_, rfl⟩
            rw [ho] at hof hoc
            rw [hX] at hb1 hb2 k3
            rw [hY] at hb3 hb4 k5
            have hwr : IntKind.i64.wrap (X - 1) = X - 1 := IntWalk.i64_in _ ⟨by omega, by omega⟩
            have hro := And.intro ho (And.intro hX hY)
            clear hi hb hz hx hs1 hs2 hq
            rcases hof with rfl | rfl
            · by_cases hc : 0 < X
              · by_cases hd : Y = X - 1
                · as_aux_lemma =>
                    have hd1 := int_eq hd
                    have hpk : pickM a p q = true := by unfold pickM; rw [hro.1, hro.2.1, hro.2.2]; simp [hc, hd]
                    have hn1 := moveTo_at HQ.out (by rw [← HM.out]; exact hM)
                    rw [hpk] at hn1
                    have HN1 : Hid ((q : Int) = moveTo a p ((succs a p).take (j + 1))) := hn1.symm
                    clear HM hn1 hpk hro hM1
                    have HO6 := Lib.hid (HO.out.on (Below.refl _ _).drew)
                    go_wp2_with fail
                    go_region
                    all_goals
                      go_wp2
                      go_roundw
                      case rel => exact ⟨j + 1, _, by omega, by go_num, rfl, HN1, HO6⟩
                      case measure => simp [intOf]; omega
                · as_aux_lemma =>
                    have hd1 := int_ne hd
                    have hpk : pickM a p q = false := by unfold pickM; rw [hro.1, hro.2.1, hro.2.2]; simp [hd]
                    have hn1 := moveTo_at HQ.out (by rw [← HM.out]; exact hM)
                    rw [hpk] at hn1
                    have HN1 : Hid (M = moveTo a p ((succs a p).take (j + 1))) := hM1.trans hn1.symm
                    clear HM hn1 hpk hro hM1
                    have HO6 := Lib.hid (HO.out.on (Below.refl _ _).drew)
                    go_wp2_with fail
                    go_region
                    all_goals
                      go_wp2
                      go_roundw
                      case rel => exact ⟨j + 1, _, by omega, by go_num, rfl, HN1, HO6⟩
                      case measure => simp [intOf]; omega
              · as_aux_lemma =>
                  have hc3 : decide (0 < X) = false := decide_eq_false hc
                  have hc4 : decide (X > 0) = false := decide_eq_false hc
                  have hc5 : X ≤ 0 := by omega
                  have hpk : pickM a p q = false := by unfold pickM; rw [hro.1, hro.2.1, hro.2.2]; simp [hc]
                  have hn1 := moveTo_at HQ.out (by rw [← HM.out]; exact hM)
                  rw [hpk] at hn1
                  have HN1 : Hid (M = moveTo a p ((succs a p).take (j + 1))) := hM1.trans hn1.symm
                  clear HM hn1 hpk hro hM1
                  have HO6 := Lib.hid (HO.out.on (Below.refl _ _).drew)
                  go_wp2_with fail
                  go_region
                  all_goals
                    go_wp2
                    go_roundw
                    case rel => exact ⟨j + 1, _, by omega, by go_num, rfl, HN1, HO6⟩
                    case measure => simp [intOf]; omega
            · by_cases hc : X < 0
              · by_cases hd : Y < 0
                · as_aux_lemma =>
                    have hpk : pickM a p q = true := by unfold pickM; rw [hro.1, hro.2.1, hro.2.2]; simp [hc, hd]
                    have hn1 := moveTo_at HQ.out (by rw [← HM.out]; exact hM)
                    rw [hpk] at hn1
                    have HN1 : Hid ((q : Int) = moveTo a p ((succs a p).take (j + 1))) := hn1.symm
                    clear HM hn1 hpk hro hM1
                    have HO6 := Lib.hid (HO.out.on (Below.refl _ _).drew)
                    go_wp2_with fail
                    go_region
                    all_goals
                      go_wp2
                      go_roundw
                      case rel => exact ⟨j + 1, _, by omega, by go_num, rfl, HN1, HO6⟩
                      case measure => simp [intOf]; omega
                · as_aux_lemma =>
                    have hpk : pickM a p q = false := by unfold pickM; rw [hro.1, hro.2.1, hro.2.2]; simp [hd]
                    have hn1 := moveTo_at HQ.out (by rw [← HM.out]; exact hM)
                    rw [hpk] at hn1
                    have HN1 : Hid (M = moveTo a p ((succs a p).take (j + 1))) := hM1.trans hn1.symm
                    clear HM hn1 hpk hro hM1
                    have HO6 := Lib.hid (HO.out.on (Below.refl _ _).drew)
                    go_wp2_with fail
                    go_region
                    all_goals
                      go_wp2
                      go_roundw
                      case rel => exact ⟨j + 1, _, by omega, by go_num, rfl, HN1, HO6⟩
                      case measure => simp [intOf]; omega
              · as_aux_lemma =>
                  have hc3 : decide (X < 0) = false := decide_eq_false hc
                  have hc5 : 0 ≤ X := by omega
                  have hpk : pickM a p q = false := by unfold pickM; rw [hro.1, hro.2.1, hro.2.2]; simp [hc]
                  have hn1 := moveTo_at HQ.out (by rw [← HM.out]; exact hM)
                  rw [hpk] at hn1
                  have HN1 : Hid (M = moveTo a p ((succs a p).take (j + 1))) := hM1.trans hn1.symm
                  clear HM hn1 hpk hro hM1
                  have HO6 := Lib.hid (HO.out.on (Below.refl _ _).drew)
                  go_wp2_with fail
                  go_region
                  all_goals
                    go_wp2
                    go_roundw
                    case rel => exact ⟨j + 1, _, by omega, by go_num, rfl, HN1, HO6⟩
                    case measure => simp [intOf]; omega
          · as_aux_lemma =>
              have HMv : Hid (M = moveA a p) := HM.out.trans (moveTo_end (.inr (by rw [← HM.out]; omega)))
              have hln : (fT p (moveA a)).length < 17592186044416 := by rw [fT_length]; omega
              have hsn := fT_snoc p (moveA a) HMv.out.symm
              have HSn := Lib.hid hsn
              clear hi hb hz HM hsn HMv
              go_wp2_with (at_builtin; refine own_int (by rfl) _ _ (by rfl) (by rfl) HO.out (by rfl) hln ?_)
              intro g5 cap5 w5 ho5
              rw [← HSn.out] at ho5
              have HO5 := Lib.hid ho5
              clear ho5 HO HSn
              go_wp2
              go_roundw
              case rel => exact ⟨p + 1, by omega, by go_num, HO5⟩
              case measure => simp [intOf]; omega
        · as_aux_lemma =>
            have HMv : Hid (M = moveA a p) := HM.out.trans (moveTo_end (.inl (by rw [HSu.out, List.length_map]; omega)))
            have hln : (fT p (moveA a)).length < 17592186044416 := by rw [fT_length]; omega
            have hsn := fT_snoc p (moveA a) HMv.out.symm
            have HSn := Lib.hid hsn
            clear hi hb hz HM hsn HMv
            go_wp2_with (at_builtin; refine own_int (by rfl) _ _ (by rfl) (by rfl) HO.out (by rfl) hln ?_)
            intro g5 cap5 w5 ho5
            rw [← HSn.out] at ho5
            have HO5 := Lib.hid ho5
            clear ho5 HO HSn
            go_wp2
            go_roundw
            case rel => exact ⟨p + 1, by omega, by go_num, HO5⟩
            case measure => simp [intOf]; omega
    · obtain rfl : p = n := by omega
      have HE := Lib.hid (HO.out.base HB.out).fin
      clear HO
      go_wp2
      go_ret
      exact ⟨_, rfl, HE.out.weak (fun e he => by simp at he; subst he; exact List.mem_cons_self)⟩
end Go.Proofs.YtkphdegelhlpeaaDoor.Du
