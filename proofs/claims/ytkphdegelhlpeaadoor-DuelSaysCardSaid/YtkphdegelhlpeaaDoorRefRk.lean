/- The document's ranks of an arena. -/
import Derived.Test.YtkphdegelhlpeaaDoorRefAr
import Derived.Deep.RegionHeld
namespace Go.Proofs.YtkphdegelhlpeaaDoor.Du
open Go.RowKit Go.IntWalk Go.Proofs.YtkphdegelhlpeaaDoor.Wd Go.Proofs.YtkphdegelhlpeaaDoor.Wo Go.Proofs.YtkphdegelhlpeaaDoor.Df Go.Proofs.YtkphdegelhlpeaaDoor.Rc

set_option maxRecDepth 100000 in
set_option maxHeartbeats 4000000 in
theorem rranks_any (v : Value) (a : Ar) (w : World) (h : ArAt w w.heap.size v a) (gd : Good a) :
    Calls Tryd.prog 7 #[v] w fun e w' => Hid (∃ g, e = .returned (rw_ g a.next.length) ∧ Own w w' [] [eInts (rw_ g a.next.length) (fT a.next.length (rank a))]) := by
  obtain ⟨O, co, A, c, F, cf, rfl, h⟩ := h
  obtain ⟨w1, hw1, hB1, hX, ha1⟩ := box_ar w h
  have HB := Lib.hid hB1
  have HG := Lib.hid gd
  have h40 := gd.n40
  rw [gd.own, gd.goal]
  rw [gd.own, gd.goal] at hX hw1
  have HW := Lib.hid hw1
  have HA : Hid (∀ W, Below w1.heap.size w1 W → ArIs W w1.heap.size O co A c F cf a ∧ BoxA W w.heap.size O a.next.length co A a.next.length c F a.next.length cf) := fun W hW => ⟨ha1.below hW, hX.on hW⟩
  have hlt0 := hX.lt
  have HRk : Hid (fT a.next.length (rankTo a a.next.length) = fT a.next.length (rank a)) := rfl
  have hc1 := hX.c1
  have h0 := HG.out.n1
  clear h hw1 hB1 ha1 hX
  clear gd
  generalize hn : a.next.length = n at *
  have HN := Lib.hid hn
  clear hn
  go_enter Tryd.func7, Tryd.ntmps7
  go_wp2_with (at_make; rw [← HW.out]; refine mk_ints rfl _ _ rfl n rfl rfl (by omega) ?_)
  intro w2 ho
  have HO2 : Hid (Own w1 w2 [eInts (rw_ w1.heap.size n) (fT n fun _ => 0)] []) := by rw [← fT_rep]; exact Own.of_nums ho
  have hsz := ho.2.2
  clear ho HW
  go_wp2_with (at_make; refine mk_bools rfl _ _ rfl n rfl rfl (by omega) ?_)
  intro w3 ho
  have HO3 : Hid (Own w1 w3 [eInts (rw_ w1.heap.size n) (fT n (mix (rankTo a 0) (fun _ => 0) 0)), eBools (rw_ w2.heap.size n) (fT n (mix (goalA a) (fun _ => false) 0))] []) := by
    rw [mix_zero, mix_zero, ← fT_rep n false]; exact (HO2.out.join ho).two
  clear ho HO2
  obtain ⟨gr, hgr⟩ : ∃ g, g = w1.heap.size := ⟨_, rfl⟩
  obtain ⟨gc, hgc⟩ : ∃ g, g = w2.heap.size := ⟨_, rfl⟩
  have hg2 : w1.heap.size ≤ gc := by rw [hgc]; exact hsz
  have ho3 := HO3.out
  clear HO3
  rw [← hgr, ← hgc] at ho3 ⊢
  have HO3 := Lib.hid ho3
  clear ho3 hsz hgc
  have hg1 : w1.heap.size ≤ gr := by omega
  clear hgr
  go_wp2
  go_loopw [6] (fun i wr => ∃ (p : Nat), p ≤ n ∧ i = .int .i64 p ∧ Hid (Own w1 wr [eInts (rw_ gr n) (fT n (mix (rankTo a 0) (fun _ => 0) p)), eBools (rw_ gc n) (fT n (mix (goalA a) (fun _ => false) p))] [])) (fun i _ => n - (intOf i).toNat)
  case atStart => exact ⟨0, by omega, rfl, HO3⟩
  case round =>
    clear HO3
    obtain ⟨p, hp, rfl, HO⟩ := hrel
    by_cases hlt : p < n
    · obtain ⟨hi, hb⟩ := HA.out _ HO.out.below
      have hc2 := hb.c2
      have hgl : a.goal[p]? = some (goalA a p) := by
        unfold goalA
        rw [List.getElem?_eq_getElem (by rw [HG.out.goal, HN.out]; exact hlt)]; rfl
      obtain ⟨adg, rfl, hgb, hgc, hgn⟩ := hi.goals.at_ hgl
      have e1 : (p : Int) < (n : Int) := by omega
      have q1 : gr ≠ w.heap.size := by omega
      have q2 : w.heap.size ≠ gr := by omega
      have q3 : gr ≠ (adg.add p).block := by rw [Wd.block_add]; omega
      have q4 : (adg.add p).block ≠ gr := by rw [Wd.block_add]; omega
      have q5 : adg.block ≠ gr := by omega
      have q6 : gr ≠ adg.block := by omega
      obtain ⟨k1, k2⟩ := own_ints_cell HO.out (List.mem_append_left _ List.mem_cons_self) (fT_length _ _) (fT_get _ hlt)
      obtain ⟨k3, k4⟩ := own_bools_cell HO.out (List.mem_append_left _ (List.mem_cons_of_mem _ List.mem_cons_self)) (fT_length _ _) (fT_get _ hlt)
      have hz := rankTo_zero a p
      have h1 := (own_ints_set HO.out (fT_length _ _) p (-1))
      rcases hga : goalA a p with _ | _
      · rw [hga, if_neg (by decide)] at hz
        rw [mix_next _ _ _ _ hz] at h1
        rw [hga] at hgc
        have f1 := (World.cell?_setCell_far wr ⟨gr, p, none⟩ (adg.add p) (.int .i64 (-1)) q3).trans hgc
        have f2 := (World.cell?_setCell_far wr ⟨gr, p, none⟩ ⟨w.heap.size, 2, none⟩ (.int .i64 (-1)) q1).trans hc2
        have HE : Hid (Own w1 (wr.setCell ⟨gr, p, none⟩ (.int .i64 (-1))) [eInts (rw_ gr n) (fT n (mix (rankTo a 0) (fun _ => 0) (p + 1))), eBools (rw_ gc n) (fT n (mix (goalA a) (fun _ => false) (p + 1)))] []) := by
          rw [← mix_same n (goalA a) (fun _ => false) p hga]; exact h1
        clear HO h1 hz hi hb hgl hga hgn
        go_wp2
        go_roundw
        case rel => exact ⟨p + 1, by omega, by go_num, HE⟩
        case measure => simp [intOf]; omega
      · rw [hga, if_pos rfl] at hz
        rw [hga] at hgc
        have f1 := (World.cell?_setCell_far wr ⟨gr, p, none⟩ (adg.add p) (.int .i64 (-1)) q3).trans hgc
        have f2 := (World.cell?_setCell_far wr ⟨gr, p, none⟩ ⟨w.heap.size, 2, none⟩ (.int .i64 (-1)) q1).trans hc2
        have h2 := own_ints_set h1 (by rw [List.length_set, fT_length]) p 0
        rw [List.set_set, mix_next _ _ _ _ hz] at h2
        obtain ⟨k5, k6⟩ := own_bools_cell h2 (List.mem_append_left _ (List.mem_cons_of_mem _ List.mem_cons_self)) (fT_length _ _) (fT_get _ hlt)
        have h3 := own_bools_set h2.two (fT_length _ _) p true
        rw [mix_next _ _ _ _ hga] at h3
        have HE := Lib.hid h3.two
        clear HO h1 h2 h3 hz hi hb hgl hga hgn
        go_wp2
        go_roundw
        case rel => exact ⟨p + 1, by omega, by go_num, HE⟩
        case measure => simp [intOf]; omega
    · have HO1 : Hid (Own w1 wr [eInts (rw_ gr n) (fT n (rankTo a 0)), eBools (rw_ gc n) (fT n (win a 0))] []) := by
        have h1 := HO.out
        rw [show p = n by omega, mix_all, mix_all] at h1
        exact h1
      clear HO
      go_wp2
      go_loopw [5, 7] (fun cv i wr => ∃ (k k1 gc : Nat), Hid (k1 = k + 1) ∧ k ≤ n ∧ cv = rw_ gc n ∧ i = .int .i64 k1 ∧ Hid (w1.heap.size ≤ gc) ∧ Hid (Own w1 wr [eInts (rw_ gr n) (fT n (rankTo a k)), eBools (rw_ gc n) (fT n (win a k))] [])) (fun _ i _ => n + 1 - (intOf i).toNat)
      case atStart => exact ⟨0, 1, gc, rfl, by omega, rfl, rfl, Lib.hid hg2, HO1⟩
      case round =>
        clear HO1 hg2
        obtain ⟨k, k1, gc, HK1, hk, rfl, rfl, HGc, HO⟩ := hrel
        by_cases hlt : k < n
        · have e0 : (k1 : Int) ≤ (n : Int) := by have := HK1.out; omega
          go_wp2_with (at_make; refine mk_bools rfl _ _ rfl n rfl rfl (by omega) ?_)
          intro w4 ho
          have HO4 := (HO.out.join ho).two
          have hgt : w1.heap.size ≤ wr.heap.size := HO.out.below.size
          rw [fT_rep n false, ← mix_zero n (rankTo a (k + 1)) (rankTo a k), ← mix_zero n (win a (k + 1)) (fun _ => false)] at HO4
          clear ho HO
          generalize wr.heap.size = gt at HO4 hgt ⊢
          have HO4 := Lib.hid HO4
          have HGt := Lib.hid hgt
          clear hgt
          go_wp2
          go_loopw [9] (fun i wr => ∃ (p : Nat), p ≤ n ∧ i = .int .i64 p ∧ Hid (Own w1 wr [eInts (rw_ gr n) (fT n (mix (rankTo a (k + 1)) (rankTo a k) p)), eBools (rw_ gt n) (fT n (mix (win a (k + 1)) (fun _ => false) p)), eBools (rw_ gc n) (fT n (win a k))] [])) (fun i _ => n - (intOf i).toNat)
          case atStart => exact ⟨0, by omega, rfl, HO4⟩
          case round =>
            clear HO4
            obtain ⟨p, hp, rfl, HO⟩ := hrel
            by_cases hltp : p < n
            · obtain ⟨r, hr⟩ : ∃ r, a.next[p]? = some r := ⟨_, List.getElem?_eq_getElem (by rw [HN.out]; exact hltp)⟩
              have HRw : Hid (rowA a p = r) := by unfold rowA Hid; rw [hr]; rfl
              have HFit := Lib.hid (HG.out.fit p (by rw [HN.out]; exact hltp))
              rw [HRw.out, HN.out] at HFit
              have HR := Lib.hid hr
              have h1r := HFit.out.r1
              have h40r := HFit.out.r40
              obtain ⟨hi, hb⟩ := HA.out _ HO.out.below
              have hc1 := hb.c1
              obtain ⟨ad, A', c', e, hadb, hcell, hrc, hrc2, hz⟩ := hi.rows p r hr
              subst e
              clear hi hb hz hr
              have HY : Hid ((r.take 0).any (fun x => win a k x.toNat) = false ∧ (r.take 0).all (fun x => win a k x.toNat) = true) := ⟨rfl, rfl⟩
              have HWin := Lib.hid (win_row a k p)
              rw [HRw.out] at HWin
              go_wp2
              go_loopw [10, 11, 12] (fun sv av i wr => ∃ (j : Nat) (s l : Bool), j ≤ r.length ∧ i = .int .i64 j ∧ sv = .bool s ∧ av = .bool l ∧ Hid ((r.take j).any (fun x => win a k x.toNat) = s ∧ (r.take j).all (fun x => win a k x.toNat) = l) ∧ Hid (Own w1 wr [eInts (rw_ gr n) (fT n (mix (rankTo a (k + 1)) (rankTo a k) p)), eBools (rw_ gt n) (fT n (mix (win a (k + 1)) (fun _ => false) p)), eBools (rw_ gc n) (fT n (win a k))] [])) (fun _ _ i _ => r.length - (intOf i).toNat)
              case atStart => exact ⟨0, _, _, by omega, rfl, rfl, rfl, HY, HO⟩
              case round =>
                clear HY HO
                obtain ⟨j, s, l, hj, rfl, rfl, rfl, HS, HO⟩ := hrel
                obtain ⟨hi, hb⟩ := HA.out _ HO.out.below
                have hc1 := hb.c1
                obtain ⟨ad, A', c', e, hadb, hcell, hrc, hrc2, hz⟩ := hi.rows p r HR.out
                obtain rfl := Option.some.inj e
                by_cases hlj : j < r.length
                · obtain ⟨ad2, rfl, hadb2, hcell2, hs1, hs2⟩ := hz.at_ j hlj
                  have hx := HFit.out.go _ (List.getElem_mem hlj)
                  have HS1 : Hid ((r.take (j + 1)).any (fun x => win a k x.toNat) = (s || win a k r[j].toNat) ∧ (r.take (j + 1)).all (fun x => win a k x.toNat) = (l && win a k r[j].toNat)) := ⟨by rw [any_take hlj, HS.out.1], by rw [all_take hlj, HS.out.2]⟩
                  obtain ⟨q, hq⟩ := Int.eq_ofNat_of_zero_le hx.1
                  have hqn : q < n := by omega
                  rw [hq, Int.toNat_natCast] at HS1
                  rw [hq] at hcell2
                  obtain ⟨k3, k4⟩ := own_bools_cell HO.out (List.mem_append_left _ (List.mem_cons_of_mem _ (List.mem_cons_of_mem _ List.mem_cons_self))) (fT_length _ _) (fT_get (win a k) hqn)
                  have e1 : (p : Int) < (n : Int) := by omega
                  have e2 : (q : Int) < (n : Int) := by omega
                  have e3 : (j : Int) < (r.length : Int) := by omega
                  have HKr : Hid (∀ (b1 b2 : Bool), Hid ((s || win a k q) = b1 ∧ (l && win a k q) = b2) → Hid ((r.take (j + 1)).any (fun x => win a k x.toNat) = b1 ∧ (r.take (j + 1)).all (fun x => win a k x.toNat) = b2)) := fun b1 b2 q => ⟨HS1.out.1.trans q.out.1, HS1.out.2.trans q.out.2⟩
                  clear HS HS1 hi hb hz hx hq hs1 hs2
                  have hO := HO.out
                  generalize win a k q = bq at *
                  cases s <;> cases l <;> cases bq
                  all_goals
                    have HK2 := Lib.hid (HKr.out _ _ ⟨rfl, rfl⟩)
                    clear HKr
                    go_wp2
                    go_roundw
                    case rel => exact ⟨j + 1, _, _, by omega, by go_num, rfl, rfl, HK2.out, HO⟩
                    case measure => simp [intOf]; omega
                · have HS1 : Hid (r.any (fun x => win a k x.toNat) = s ∧ r.all (fun x => win a k x.toNat) = l) := by
                    have h1 := HS.out
                    rw [List.take_of_length_le (by omega)] at h1
                    exact h1
                  have hw := HWin.out
                  rw [HS1.out.1, HS1.out.2] at hw
                  have hc0 := hb.c0
                  have hc2 := hb.c2
                  have hgl : a.goal[p]? = some (goalA a p) := by
                    unfold goalA
                    rw [List.getElem?_eq_getElem (by rw [HG.out.goal, HN.out]; exact hltp)]; rfl
                  have hol : p < a.own.length := by rw [HG.out.own, HN.out]; exact hltp
                  obtain ⟨adg, rfl, hgb, hgc, _⟩ := hi.goals.at_ hgl
                  obtain ⟨ado, rfl, hob, hoc, hs5, hs6⟩ := hi.owns.at_ p hol
                  have hoo : ownA a p = a.own[p] := by unfold ownA; rw [List.getElem?_eq_getElem hol]; rfl
                  rw [← hoo] at hoc
                  have hof := HFit.out.own
                  have e1 : (p : Int) < (n : Int) := by omega
                  obtain ⟨k5, k6⟩ := own_bools_cell HO.out (List.mem_append_left _ (List.mem_cons_of_mem _ List.mem_cons_self)) (fT_length _ _) (fT_get _ hltp)
                  have HE1 : ∀ b, win a (k + 1) p = b → Hid (Own w1 (wr.setCell ⟨gt, p, none⟩ (.bool b)) [eInts (rw_ gr n) (fT n (mix (rankTo a (k + 1)) (rankTo a k) p)), eBools (rw_ gt n) (fT n (mix (win a (k + 1)) (fun _ => false) (p + 1))), eBools (rw_ gc n) (fT n (win a k))] []) := fun b hb => by
                    have h1 := (own_bools_set HO.out.two (fT_length _ _) p b).two
                    rw [mix_next _ _ _ _ hb] at h1
                    exact h1
                  have hrs := rankTo_succ a k p
                  generalize goalA a p = g at *
                  generalize ownA a p = o at *
                  rw [← hoo] at hs5 hs6
                  clear HS HS1 HWin hi hb hz hoo hs5 hs6 hgl hol hob hgb HO
                  have htail : ∀ b, win a (k + 1) p = b → Hid (Own w1 (wr.setCell ⟨gt, p, none⟩ (.bool b)) [eInts (rw_ gr n) (fT n (mix (rankTo a (k + 1)) (rankTo a k) p)), eBools (rw_ gt n) (fT n (mix (win a (k + 1)) (fun _ => false) (p + 1))), eBools (rw_ gc n) (fT n (win a k))] []) → ∃ R : Int, rankTo a k p = R ∧ True := fun b _ _ => ⟨_, rfl, trivial⟩
                  clear htail
                  obtain ⟨R, hR⟩ : ∃ R, rankTo a k p = R := ⟨_, rfl⟩
                  rw [hR] at hrs
                  cases g
                  · rcases hof with rfl | rfl
                    · cases s
                      · have hb : win a (k + 1) p = false := by rw [hw]; simp
                        have HE := HE1 _ hb
                        obtain ⟨k7, k8⟩ := own_bools_cell HE.out (List.mem_append_left _ (List.mem_cons_of_mem _ List.mem_cons_self)) (fT_length _ _) (fT_get _ hltp)
                        obtain ⟨k9, k10⟩ := own_ints_cell HE.out (List.mem_append_left _ List.mem_cons_self) (fT_length _ _) (fT_get _ hltp)
                        rw [mix_done, hb] at k7
                        rw [mix_at, hR] at k9
                        have hsm : rankTo a (k + 1) p = rankTo a k p := by rw [hrs, hR]; have h9 := rankTo_neg (a := a) (k := k) (p := p); rw [hR] at h9; exact if h8 : R < 0 then (by rw [if_pos h8, if_neg (by rw [hb]; decide), h9 h8]) else (by rw [if_neg h8])
                        have HF := HE.out
                        rw [mix_same n _ _ p hsm] at HF
                        have HF := Lib.hid HF
                        clear hw hb HE HE1 hrs hsm hR
                        go_wp2
                        go_roundw
                        case rel => exact ⟨p + 1, by omega, by go_num, HF⟩
                        case measure => simp [intOf]; omega
                      · have hb : win a (k + 1) p = true := by rw [hw]; simp
                        have HE := HE1 _ hb
                        obtain ⟨k7, k8⟩ := own_bools_cell HE.out (List.mem_append_left _ (List.mem_cons_of_mem _ List.mem_cons_self)) (fT_length _ _) (fT_get _ hltp)
                        obtain ⟨k9, k10⟩ := own_ints_cell HE.out (List.mem_append_left _ List.mem_cons_self) (fT_length _ _) (fT_get _ hltp)
                        rw [mix_done, hb] at k7
                        rw [mix_at, hR] at k9
                        by_cases hneg : R < 0
                        · have hsm : rankTo a (k + 1) p = (k1 : Int) := by rw [hrs, if_pos hneg, if_pos hb, HK1.out]
                          have h1 := own_ints_set HE.out (fT_length _ _) p (k1 : Int)
                          rw [mix_next n _ _ p hsm] at h1
                          have HF := Lib.hid h1
                          clear hw hb HE HE1 hrs hsm hR h1
                          go_wp2
                          go_roundw
                          case rel => exact ⟨p + 1, by omega, by go_num, HF⟩
                          case measure => simp [intOf]; omega
                        · have hsm : rankTo a (k + 1) p = rankTo a k p := by rw [hrs, hR]; rw [if_neg hneg]
                          have HF := HE.out
                          rw [mix_same n _ _ p hsm] at HF
                          have HF := Lib.hid HF
                          clear hw hb HE HE1 hrs hsm hR
                          go_wp2
                          go_roundw
                          case rel => exact ⟨p + 1, by omega, by go_num, HF⟩
                          case measure => simp [intOf]; omega
                    · cases l
                      · have hb : win a (k + 1) p = false := by rw [hw]; simp
                        have HE := HE1 _ hb
                        obtain ⟨k7, k8⟩ := own_bools_cell HE.out (List.mem_append_left _ (List.mem_cons_of_mem _ List.mem_cons_self)) (fT_length _ _) (fT_get _ hltp)
                        obtain ⟨k9, k10⟩ := own_ints_cell HE.out (List.mem_append_left _ List.mem_cons_self) (fT_length _ _) (fT_get _ hltp)
                        rw [mix_done, hb] at k7
                        rw [mix_at, hR] at k9
                        have hsm : rankTo a (k + 1) p = rankTo a k p := by rw [hrs, hR]; have h9 := rankTo_neg (a := a) (k := k) (p := p); rw [hR] at h9; exact if h8 : R < 0 then (by rw [if_pos h8, if_neg (by rw [hb]; decide), h9 h8]) else (by rw [if_neg h8])
                        have HF := HE.out
                        rw [mix_same n _ _ p hsm] at HF
                        have HF := Lib.hid HF
                        clear hw hb HE HE1 hrs hsm hR
                        go_wp2
                        go_roundw
                        case rel => exact ⟨p + 1, by omega, by go_num, HF⟩
                        case measure => simp [intOf]; omega
                      · have hb : win a (k + 1) p = true := by rw [hw]; simp
                        have HE := HE1 _ hb
                        obtain ⟨k7, k8⟩ := own_bools_cell HE.out (List.mem_append_left _ (List.mem_cons_of_mem _ List.mem_cons_self)) (fT_length _ _) (fT_get _ hltp)
                        obtain ⟨k9, k10⟩ := own_ints_cell HE.out (List.mem_append_left _ List.mem_cons_self) (fT_length _ _) (fT_get _ hltp)
                        rw [mix_done, hb] at k7
                        rw [mix_at, hR] at k9
                        by_cases hneg : R < 0
                        · have hsm : rankTo a (k + 1) p = (k1 : Int) := by rw [hrs, if_pos hneg, if_pos hb, HK1.out]
                          have h1 := own_ints_set HE.out (fT_length _ _) p (k1 : Int)
                          rw [mix_next n _ _ p hsm] at h1
                          have HF := Lib.hid h1
                          clear hw hb HE HE1 hrs hsm hR h1
                          go_wp2
                          go_roundw
                          case rel => exact ⟨p + 1, by omega, by go_num, HF⟩
                          case measure => simp [intOf]; omega
                        · have hsm : rankTo a (k + 1) p = rankTo a k p := by rw [hrs, hR]; rw [if_neg hneg]
                          have HF := HE.out
                          rw [mix_same n _ _ p hsm] at HF
                          have HF := Lib.hid HF
                          clear hw hb HE HE1 hrs hsm hR
                          go_wp2
                          go_roundw
                          case rel => exact ⟨p + 1, by omega, by go_num, HF⟩
                          case measure => simp [intOf]; omega
                  · have hb : win a (k + 1) p = true := by rw [hw]; simp
                    have HE := HE1 _ hb
                    obtain ⟨k7, k8⟩ := own_bools_cell HE.out (List.mem_append_left _ (List.mem_cons_of_mem _ List.mem_cons_self)) (fT_length _ _) (fT_get _ hltp)
                    obtain ⟨k9, k10⟩ := own_ints_cell HE.out (List.mem_append_left _ List.mem_cons_self) (fT_length _ _) (fT_get _ hltp)
                    rw [mix_done, hb] at k7
                    rw [mix_at, hR] at k9
                    by_cases hneg : R < 0
                    · have hsm : rankTo a (k + 1) p = (k1 : Int) := by rw [hrs, if_pos hneg, if_pos hb, HK1.out]
                      have h1 := own_ints_set HE.out (fT_length _ _) p (k1 : Int)
                      rw [mix_next n _ _ p hsm] at h1
                      have HF := Lib.hid h1
                      clear hw hb HE HE1 hrs hsm hR h1
                      go_wp2
                      go_roundw
                      case rel => exact ⟨p + 1, by omega, by go_num, HF⟩
                      case measure => simp [intOf]; omega
                    · have hsm : rankTo a (k + 1) p = rankTo a k p := by rw [hrs, hR]; rw [if_neg hneg]
                      have HF := HE.out
                      rw [mix_same n _ _ p hsm] at HF
                      have HF := Lib.hid HF
                      clear hw hb HE HE1 hrs hsm hR
                      go_wp2
                      go_roundw
                      case rel => exact ⟨p + 1, by omega, by go_num, HF⟩
                      case measure => simp [intOf]; omega
            · obtain rfl : p = n := by omega
              have HF : Hid (Own w1 wr [eInts (rw_ gr p) (fT p (rankTo a (k + 1))), eBools (rw_ gt p) (fT p (win a (k + 1)))] []) := by
                have h1 := HO.out
                rw [mix_all, mix_all] at h1
                exact h1.three.fin.weak (fun e he => by simp at he)
              clear HO
              go_wp2
              go_roundw
              case rel => exact ⟨k + 1, k1 + 1, gt, by have := HK1.out; show k1 + 1 = k + 1 + 1; omega, by omega, rfl, by go_num, HGt, HF⟩
              case measure => simp [intOf]; omega
        · obtain rfl : k = n := by omega
          have HE : Hid (Own w wr [] [eInts (rw_ gr k) (fT k (rank a))]) := by
            rw [← HRk.out]
            exact ((HO.out.base HB.out).fin).only
          clear HO
          have e0 : ¬ (k1 : Int) ≤ (k : Int) := by have := HK1.out; omega
          go_wp2
          go_ret
          exact ⟨gr, rfl, HE.out⟩
end Go.Proofs.YtkphdegelhlpeaaDoor.Du
