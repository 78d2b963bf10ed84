/- The walks of package duel's first and Moves. -/
import Derived.Test.YtkphdegelhlpeaaDuelV
namespace Go.Proofs.Ytkphdegelhlpeaa.Du
open Go.RowKit Go.IntWalk Go.Proofs.Ytkphdegelhlpeaa.Wd Go.Proofs.Ytkphdegelhlpeaa.Wo Go.Proofs.Ytkphdegelhlpeaa.Df Go.Proofs.Ytkphdegelhlpeaa.Rc Go.Proofs.Ytkphdegelhlpeaa.Ix

set_option maxRecDepth 100000 in
theorem is_any {R : Option Addr} {n c g h q : Nat} {K : Int} {f : Nat → Int} {w : World} (hg : w.cell? ⟨g, 0, none⟩ = some (.slice R n c)) (hk : w.cell? ⟨h, 0, none⟩ = some (.int .i64 K)) (hR : IntsAt w w.heap.size R (fT n f)) (hq : q < n) :
    Calls Try.prog 18 #[.int .i64 (q : Nat), .pointer (some ⟨g, 0, none⟩), .pointer (some ⟨h, 0, none⟩)] w fun e w' => e = .returned (.bool (f q == K)) ∧ Below w.heap.size w w' := by
  obtain ⟨ad, rfl, hadb, hcell, _⟩ := hR.get (fT_get f hq)
  have HR : Hid (∀ b, (f q == K) = b → Ending.returned (Value.bool b) = Ending.returned (.bool (f q == K))) := fun b h => by rw [h]
  have hq' : (q : Int) < (n : Int) := by omega
  have hq0 : (0 : Int) ≤ (q : Int) := by omega
  have HB : Hid (∀ k, Below w.heap.size w (w.drewN k)) := fun k => below_drewN (Below.refl _ _) k
  clear hR
  generalize f q = y at *
  obtain ⟨b, hb⟩ : ∃ b, (y == K) = b := ⟨_, rfl⟩
  have HE := Lib.hid (HR.out b hb)
  clear HR
  go_enter Try.func18, Try.ntmps18
  go_wp2_with fail
  go_region
  all_goals
    go_wp2
    go_ret
    exact ⟨by rw [← HE.out, ← hb]; rfl, HB.out 1⟩
theorem is_call (args : Array Value) (W : World) : (callFunc 18 args).run Try.prog W = .ok (.enter 18 args) W := by
  have hn : ¬ Try.f18.name = "runtime.NumGoroutine" := of_decide_eq_false (by kernel_rfl)
  have hb : ¬ Try.f18.body = none := fun h => by
    have : Try.f18.body.isSome = true := by kernel_rfl
    rw [h] at this; cases this
  simp [callFunc, go_sem, hn, hb]
set_option maxRecDepth 100000 in
set_option maxHeartbeats 1000000 in
theorem first_any (Z : Option Addr) (cz : Nat) (r : List Int) (R : Option Addr) (cR n : Nat) (f : Nat → Int) (K y : Int) (w : World) (hZ : IntsAt w w.heap.size Z r) (hr : r.length ≤ 40) (hR : IntsAt w w.heap.size R (fT n f)) (hgo : ∀ x ∈ r, 0 ≤ x ∧ x < (n : Int)) (hy : r.find? (fun x => f x.toNat == K) = some y) :
    Calls Try.prog 14 #[.slice Z r.length cz, .slice R n cR, .int .i64 K] w fun e w' => e = .returned (.int .i64 y) ∧ Below w.heap.size w w' := by
  obtain ⟨w1, hw1⟩ : ∃ w1, w1 = w.alloc (.cells #[.slice R n cR] 22) := ⟨_, rfl⟩
  have hB1 : Below w.heap.size w w1 := by rw [hw1]; exact below_alloc _ _
  have hlt1 : w.heap.size < w1.heap.size := by rw [hw1]; simp
  have hsz : w1.heap.size = w.heap.size + 1 := by rw [hw1]; simp
  have hc1 : w1.cell? ⟨w.heap.size, 0, none⟩ = some (.slice R n cR) := by rw [hw1]; exact box_cell w _ _ 0
  obtain ⟨w2, hw2⟩ : ∃ w2, w2 = w1.alloc (.cells #[.int .i64 K] 3) := ⟨_, rfl⟩
  have hB2 : Below w1.heap.size w1 w2 := by rw [hw2]; exact below_alloc _ _
  have hlt2 : w1.heap.size < w2.heap.size := by rw [hw2]; simp
  have hk2 : w2.cell? ⟨w1.heap.size, 0, none⟩ = some (.int .i64 K) := by rw [hw2]; exact box_cell w1 _ _ 0
  have hc2 := (hB2.cell hlt1).trans hc1
  have hlt : w.heap.size < w2.heap.size := Nat.lt_of_lt_of_le hlt1 hB2.size
  have hB : Below w.heap.size w w2 := hB1.trans (hB2.mono hB1.size)
  have hZ2 := hZ.on hB
  have hR2 := hR.on hB
  have HC := Lib.hid (idx2_any 18 is_call (.pointer (some ⟨w.heap.size, 0, none⟩)) (.pointer (some ⟨w1.heap.size, 0, none⟩)) Z cz r (fun x => f x.toNat == K) w2 hZ2 (by omega) (fun x hx W hW => by
    obtain ⟨q, hq⟩ := Int.eq_ofNat_of_zero_le (hgo x hx).1
    have hqn := (hgo x hx).2
    subst hq
    exact is_any ((hW.cell hlt).trans hc2) ((hW.cell hlt2).trans hk2) (hR2.on hW) (by omega)))
  obtain ⟨k, hk, hky⟩ := idxI_find hy
  rw [hk] at HC
  have HZ := Lib.hid hZ2
  have HB := Lib.hid hB
  rw [hsz] at HC
  rw [hw1] at hw2
  have HW := Lib.hid hw2
  have hkr : k < r.length := (List.getElem?_eq_some_iff.1 hky).1
  have e1 : (k : Int) < (r.length : Int) := by omega
  have HY := Lib.hid hky
  clear hZ hR hw1 hB1 hw2 hB2 hc1 hc2 hk2 hZ2 hR2 hB hgo hy hk hky hlt hlt1 hlt2 hsz
  go_enter Try.func14, Try.ntmps14
  go_wp2_with fail
  rw [← HW.out]
  clear HW
  refine HC.out.mono ?_
  rintro e w4 ⟨rfl, hb⟩
  obtain ⟨ad, rfl, hadb, hcell, _⟩ := (HZ.out.on hb).get HY.out
  have HB2 := Lib.hid (HB.out.trans (hb.mono HB.out.size))
  clear hb HC
  generalize r.length = l at *
  go_wp2
  go_ret
  exact ⟨rfl, HB2.out⟩

set_option maxRecDepth 100000 in
set_option maxHeartbeats 4000000 in
theorem moves_ok (v : Value) (a : Ar) (w : World) (h : ArAt w w.heap.size v a) (gd : Good a) :
    Calls Try.prog 10 #[v] w fun e w' => Hid (∃ g, e = .returned (.tuple #[rw_ g a.next.length, .nilIface]) ∧ Own w w' [] [eInts (rw_ g a.next.length) (fT a.next.length (moveA a))]) := by
  have HV := h
  obtain ⟨O, co, A, c, F, cf, rfl, h⟩ := h
  obtain ⟨w1, hw1, hB1, hX, ha1⟩ := box_ar w h
  have HB := Lib.hid hB1
  have HG := Lib.hid gd
  have h40 := gd.n40
  have HC := ranks_ok _ a w1 (HV.on hB1) gd
  rw [gd.own, gd.goal] at HC
  have HC := Lib.hid HC
  rw [gd.own, gd.goal]
  rw [gd.own, gd.goal] at hX hw1
  have HW := Lib.hid hw1
  have HA : Hid (∀ W, Below w1.heap.size w1 W → ArIs W W.heap.size O co A c F cf a ∧ BoxA W w.heap.size O a.next.length co A a.next.length c F a.next.length cf) := fun W hW => ⟨ha1.on hW, hX.on hW⟩
  have hc0 := hX.c0
  have hc1 := hX.c1
  have hc2 := hX.c2
  have h0 := HG.out.n1
  have HSm : Hid (∀ x ∈ fT a.next.length (rank a), Small x) := rank_small a a.next.length h40 a.next.length (Nat.le_refl _)
  clear h hw1 hB1 ha1 hX gd HV
  generalize hn : a.next.length = n at *
  have HN := Lib.hid hn
  clear hn
  go_enter Try.func10, Try.ntmps10
  go_wp2_with fail
  rw [← HW.out]
  clear HW
  refine HC.out.mono ?_
  rintro e wd he
  obtain ⟨gr, rfl, ho⟩ := he.out
  have HO1 := Lib.hid ho
  clear hc0 hc1 hc2 HC he ho
  go_wp2_with (at_make; refine mk_ints rfl _ _ rfl n rfl rfl (by omega) ?_)
  intro w2 ho
  obtain ⟨wc, hwc⟩ : ∃ wc, wc = w1 := ⟨_, rfl⟩
  have HO : Hid (Own wc w2 [eInts (rw_ wd.heap.size n) (fT n (mix (moveA a) (fun _ => 0) 0))] [eInts (rw_ gr n) (fT n (rank a))]) := by rw [mix_zero, ← fT_rep, hwc]; exact HO1.out.join (Own.of_nums ho)
  rw [← hwc] at HB HA
  clear ho HO1 hwc
  generalize wd.heap.size = gm at *
  go_wp2
  go_loopw [22] (fun i wr => ∃ (p : Nat), p ≤ n ∧ i = .int .i64 p ∧ Hid (Own wc wr [eInts (rw_ gm n) (fT n (mix (moveA a) (fun _ => 0) p))] [eInts (rw_ gr n) (fT n (rank a))])) (fun i _ => n - (intOf i).toNat)
  case atStart => exact ⟨0, by omega, rfl, HO⟩
  case round =>
    clear HO
    obtain ⟨p, hp, rfl, HO⟩ := hrel
    by_cases hlt : p < n
    · have hpn : p < a.next.length := by rw [HN.out]; exact hlt
      obtain ⟨r, hr⟩ : ∃ r, a.next[p]? = some r := ⟨_, List.getElem?_eq_getElem hpn⟩
      have hrw : rowA a p = r := by unfold rowA; rw [hr]; rfl
      have hfit := HG.out.fit p hpn
      rw [hrw, HN.out] at hfit
      obtain ⟨hi, hb⟩ := HA.out _ HO.out.below
      have hc0 := hb.c0
      have hc1 := hb.c1
      obtain ⟨ad, A', c', rfl, hadb, hcell, hrc, hrc2, hz⟩ := hi.rows p r hr
      have hol : p < a.own.length := by rw [HG.out.own]; exact hpn
      obtain ⟨ado, rfl, hob, hoc, hs5, hs6⟩ := hi.owns.at_ p hol
      have hoo : ownA a p = a.own[p] := by unfold ownA; rw [List.getElem?_eq_getElem hol]; rfl
      rw [← hoo] at hoc
      have hRr : IntsAt wr wr.heap.size (some ⟨gr, 0, none⟩) (fT n (rank a)) := own_is HO.out (List.mem_append_right _ List.mem_cons_self) HSm.out
      obtain ⟨k3, _⟩ := own_ints_cell HO.out (List.mem_append_right _ List.mem_cons_self) (fT_length _ _) (fT_get (rank a) hlt)
      have e1 : (p : Int) < (n : Int) := by omega
      have hb1 := rank_ge a p
      have hb2 := rank_lt HG.out hpn
      rw [HN.out] at hb2
      have hm0 := move_is0 HG.out hpn
      have hm1 := move_is1 HG.out hpn
      rw [hrw] at hm0 hm1
      have hmn := move_no (a := a) (p := p)
      have hfo := hfit.own
      clear hrw hr hol hs5 hs6 hoo hpn
      obtain ⟨o, ho⟩ : ∃ o, ownA a p = o := ⟨_, rfl⟩
      obtain ⟨X, hX⟩ : ∃ X, rank a p = X := ⟨_, rfl⟩
      rw [ho] at hoc hm0 hm1 hmn hfo hfit
      rw [hX] at k3 hm0 hm1 hmn hb1 hb2
      clear ho hX
      have hwr : IntKind.i64.wrap (X - 1) = X - 1 := IntWalk.i64_in _ ⟨by omega, by omega⟩
      rcases hfo with rfl | rfl
      · by_cases hx : 0 < X
        · have hmv := hm0 rfl hx
          clear hm0 hm1 hmn
          have HFi := Lib.hid (first_any A' c' r (some ⟨gr, 0, none⟩) n n (rank a) (X - 1) _ wr hz hfit.r40 hRr hfit.go (hmv))
          obtain ⟨M, hM⟩ : ∃ M, moveA a p = M := ⟨_, rfl⟩
          rw [hM] at HFi
          have HSt : Hid (∀ W, Below wr.heap.size wr W → W.cell? ⟨gm, p, none⟩ = some (.int .i64 (mix (moveA a) (fun _ => 0) p p)) ∧ W.frozen? ⟨gm, p, none⟩ = false ∧ Own wc (W.setCell ⟨gm, p, none⟩ (.int .i64 M)) [eInts (rw_ gm n) (fT n (mix (moveA a) (fun _ => 0) (p + 1)))] [eInts (rw_ gr n) (fT n (rank a))]) := fun W hW => by
            have hO := HO.out.on hW
            obtain ⟨k1, k2⟩ := own_ints_cell hO (List.mem_append_left _ List.mem_cons_self) (fT_length _ _) (fT_get _ hlt)
            have h1 := own_ints_set hO (fT_length _ _) p M
            rw [mix_next _ _ _ _ hM] at h1
            exact ⟨k1, k2, h1⟩
          clear hi hb hz hfit hRr hM HO hmv
          generalize r.length = rl at *
          go_wp2_with fail
          refine HFi.out.mono ?_
          rintro e w5 ⟨rfl, hb⟩
          obtain ⟨k1, k2, h1⟩ := HSt.out w5 hb
          have HE := Lib.hid h1
          clear hb HFi HSt h1
          go_wp2
          go_roundw
          case rel => exact ⟨p + 1, by omega, by go_num, HE⟩
          case measure => simp [intOf]; omega
        · have hno := hmn (fun q => hx q.2) (fun q => absurd q.1 (by decide))
          clear hm0 hm1 hmn
          obtain ⟨k1, k2⟩ := own_ints_cell HO.out (List.mem_append_left _ List.mem_cons_self) (fT_length _ _) (fT_get (mix (moveA a) (fun _ => 0) p) hlt)
          have h1 := own_ints_set HO.out (fT_length _ _) p (-1)
          rw [mix_next _ _ _ _ hno] at h1
          have HE := Lib.hid h1
          clear h1 hi hb hz hfit hRr hno HO
          generalize r.length = rl at *
          go_wp2
          go_roundw
          case rel => exact ⟨p + 1, by omega, by go_num, HE⟩
          case measure => simp [intOf]; omega
      · by_cases hx : X = -1
        · have hmv := hm1 rfl hx
          subst hx
          clear hm0 hm1 hmn
          have HFi := Lib.hid (first_any A' c' r (some ⟨gr, 0, none⟩) n n (rank a) (-1) _ wr hz hfit.r40 hRr hfit.go (hmv))
          obtain ⟨M, hM⟩ : ∃ M, moveA a p = M := ⟨_, rfl⟩
          rw [hM] at HFi
          have HSt : Hid (∀ W, Below wr.heap.size wr W → W.cell? ⟨gm, p, none⟩ = some (.int .i64 (mix (moveA a) (fun _ => 0) p p)) ∧ W.frozen? ⟨gm, p, none⟩ = false ∧ Own wc (W.setCell ⟨gm, p, none⟩ (.int .i64 M)) [eInts (rw_ gm n) (fT n (mix (moveA a) (fun _ => 0) (p + 1)))] [eInts (rw_ gr n) (fT n (rank a))]) := fun W hW => by
            have hO := HO.out.on hW
            obtain ⟨k1, k2⟩ := own_ints_cell hO (List.mem_append_left _ List.mem_cons_self) (fT_length _ _) (fT_get _ hlt)
            have h1 := own_ints_set hO (fT_length _ _) p M
            rw [mix_next _ _ _ _ hM] at h1
            exact ⟨k1, k2, h1⟩
          clear hi hb hz hfit hRr hM HO hmv
          generalize r.length = rl at *
          go_wp2_with fail
          refine HFi.out.mono ?_
          rintro e w5 ⟨rfl, hb⟩
          obtain ⟨k1, k2, h1⟩ := HSt.out w5 hb
          have HE := Lib.hid h1
          clear hb HFi HSt h1
          go_wp2
          go_roundw
          case rel => exact ⟨p + 1, by omega, by go_num, HE⟩
          case measure => simp [intOf]; omega
        · have hno := hmn (fun q => absurd q.1 (by decide)) (fun q => hx q.2)
          have hx' := int_ne hx
          clear hm0 hm1 hmn
          obtain ⟨k1, k2⟩ := own_ints_cell HO.out (List.mem_append_left _ List.mem_cons_self) (fT_length _ _) (fT_get (mix (moveA a) (fun _ => 0) p) hlt)
          have h1 := own_ints_set HO.out (fT_length _ _) p (-1)
          rw [mix_next _ _ _ _ hno] at h1
          have HE := Lib.hid h1
          clear h1 hi hb hz hfit hRr hno HO
          generalize r.length = rl at *
          go_wp2
          go_roundw
          case rel => exact ⟨p + 1, by omega, by go_num, HE⟩
          case measure => simp [intOf]; omega
    · have HE : Hid (Own w wr [] [eInts (rw_ gm n) (fT n (moveA a))]) := by
        have h1 := HO.out
        rw [show p = n by omega, mix_all] at h1
        exact (h1.base HB.out).fin.weak (fun e he => by simp at he; subst he; exact List.mem_cons_self)
      clear HO
      go_wp2
      go_ret2
      exact ⟨gm, rfl, HE.out⟩

set_option maxRecDepth 100000 in
set_option maxHeartbeats 1000000 in
theorem moves_bad (v : Value) (a : Ar) (w : World) (h : ArAt w w.heap.size v a) {x : Int} (hx : errV (achk a) = errI x) :
    Calls Try.prog 10 #[v] w fun e w' => e = .returned (.tuple #[.slice none 0 0, errI x]) ∧ Below w.heap.size w w' := by
  have HV := h
  obtain ⟨O, co, A, c, F, cf, rfl, h⟩ := h
  obtain ⟨w1, hw1, hB1, hX, ha1⟩ := box_ar w h
  have HB := Lib.hid hB1
  have HC := Lib.hid (ranks_bad _ a w1 (HV.on hB1) hx)
  have HW := Lib.hid hw1
  have hc0 := hX.c0
  have hc1 := hX.c1
  have hc2 := hX.c2
  clear h hw1 hB1 ha1 hX HV hx
  generalize a.next.length = n at *
  generalize a.own.length = no at *
  generalize a.goal.length = ng at *
  go_enter Try.func10, Try.ntmps10
  go_wp2_with fail
  rw [← HW.out]
  clear HW
  refine HC.out.mono ?_
  rintro e wc ⟨rfl, hbc⟩
  have HB := Lib.hid (HB.out.trans (hbc.mono HB.out.size))
  clear hc0 hc1 hc2 HC hbc
  go_wp2
  go_ret2
  exact ⟨rfl, HB.out⟩
end Go.Proofs.Ytkphdegelhlpeaa.Du
