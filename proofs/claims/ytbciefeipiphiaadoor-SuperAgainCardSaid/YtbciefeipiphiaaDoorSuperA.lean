/- The walks of package super's check, contains and slips. -/
import Derived.Test.YtbciefeipiphiaaDoorSuperP
import Derived.Test.YtbciefeipiphiaaDoorDfaR
namespace Go.Proofs.YtbciefeipiphiaaDoor.Su
open Go.RowKit Go.IntWalk Go.Proofs.YtbciefeipiphiaaDoor.Wd Go.Proofs.YtbciefeipiphiaaDoor.Wo Go.Proofs.YtbciefeipiphiaaDoor.Df Go.Proofs.YtbciefeipiphiaaDoor.Rc Go.Proofs.YtbciefeipiphiaaDoor.Sm Go.Proofs.YtbciefeipiphiaaDoor.Sa

set_option maxRecDepth 100000 in
theorem contains_has (s a : Int) (w : World) (h0 : 0 ≤ s) (ha : 0 ≤ a) (hb : a < 64) : Calls Tryd.prog 50 #[.int .i64 s, .int .i64 a] w fun e w' => e = .returned (.bool (has s a)) ∧ w' = w := by
  have hbh := bit_has (a := a) h0
  generalize has s a = b at *
  go_enter Tryd.func50, Tryd.ntmps50
  go_wp2
  go_ret
  exact ⟨rfl, rfl⟩
set_option maxRecDepth 100000 in
set_option maxHeartbeats 1000000 in
theorem slips_any (R A C : Option Addr) (cr ca cc : Nat) (r : List Int) (al pr : List Bool) (free : Int) (w : World) (hR : IntsAt w w.heap.size R r) (hA : BoolsAt w w.heap.size A al) (hC : BoolsAt w w.heap.size C pr) (h6 : r.length ≤ 6) (hf0 : 0 ≤ free)
    (hin : ∀ x ∈ r, ∃ q : Nat, x = (q : Int) ∧ q < al.length ∧ q < pr.length) :
    Calls Tryd.prog 54 #[.slice R r.length cr, .slice A al.length ca, .slice C pr.length cc, .int .i64 free] w fun e w' => e = .returned (.bool (slipB al pr free r)) ∧ w' = w := by
  have HR := Lib.hid hR
  have HA := Lib.hid hA
  have HC := Lib.hid hC
  have HI := Lib.hid hin
  have HY : Hid (∀ c, c < 0 → slipAt al pr free r c = false) := fun c hc => by omega
  have HCt := Lib.hid (fun (k : Nat) (hk : k < 6) => contains_has free (k : Int) w hf0 (by omega) (by omega))
  obtain ⟨n, hn⟩ : ∃ n, r.length = n := ⟨_, rfl⟩
  obtain ⟨na, hna⟩ : ∃ n, al.length = n := ⟨_, rfl⟩
  obtain ⟨np, hnp⟩ : ∃ n, pr.length = n := ⟨_, rfl⟩
  rw [hn] at h6
  rw [hn, hna, hnp]
  have HN : Hid (r.length = n ∧ al.length = na ∧ pr.length = np) := ⟨hn, hna, hnp⟩
  clear hR hA hC hin hn hna hnp
  go_enter Tryd.func54, Tryd.ntmps54
  go_wp2
  go_loop [13] (fun i => ∃ (k : Nat), k ≤ n ∧ i = .int .i64 k ∧ Hid (∀ c, c < k → slipAt al pr free r c = false)) (fun i => n - (intOf i).toNat)
  case atStart => exact ⟨0, by omega, rfl, HY⟩
  case round =>
    clear HY
    obtain ⟨k, hk, rfl, HS⟩ := hrel
    by_cases hlt : k < n
    · have hkr : k < r.length := by have := HN.out.1; omega
      obtain ⟨ad, rfl, hz1, hc, hz2⟩ := HR.out.at_ k hkr
      obtain ⟨q, hq, hqa, hqp⟩ := HI.out _ (List.getElem_mem hkr)
      rw [hq] at hc
      obtain ⟨ba, hba⟩ : ∃ b, al[q]? = some b := ⟨_, List.getElem?_eq_getElem hqa⟩
      obtain ⟨bp, hbp⟩ : ∃ b, pr[q]? = some b := ⟨_, List.getElem?_eq_getElem hqp⟩
      obtain ⟨aa, rfl, hz3, hca, hz4⟩ := HA.out.at_ hba
      obtain ⟨ap, rfl, hz5, hcp, hz6⟩ := HC.out.at_ hbp
      have hsl : slipAt al pr free r k = (has free (k : Int) && (bp && !ba)) := by
        unfold slipAt flagAt
        rw [List.getElem?_eq_getElem hkr, hq, Option.getD_some, Int.toNat_natCast, hba, hbp]; rfl
      have e1 : (q : Int) < (na : Int) := by have := HN.out.2.1; omega
      have e2 : (q : Int) < (np : Int) := by have := HN.out.2.2; omega
      have e3 : (k : Int) < (n : Int) := by omega
      have HCk := Lib.hid (HCt.out k (by omega))
      have HNx : Hid (slipAt al pr free r k = false → ∀ c, c < k + 1 → slipAt al pr free r c = false) := fun h c hc => by
        by_cases e : c = k
        · subst e; exact h
        · exact HS.out c (by omega)
      have HHit : Hid (slipAt al pr free r k = true → slipB al pr free r = true) := slipB_hit hkr
      rw [hsl] at HNx HHit
      clear hz1 hz2 hz3 hz4 hz5 hz6 hba hbp hq hqa hqp hsl hkr HS
      rcases hh : has free (k : Int) with _ | _
      · rw [hh] at HCk HNx
        have HN2 := Lib.hid (HNx.out rfl)
        clear hh HNx HHit
        go_wp2_with fail
        refine HCk.out.mono ?_
        rintro e w1 ⟨rfl, rfl⟩
        clear HCk HCt
        go_wp2
        go_round
        case rel => exact ⟨k + 1, by omega, by go_num, HN2⟩
        case measure => simp [intOf]; omega
      · rw [hh] at HCk HNx HHit
        clear hh
        rcases bp with _ | _
        · have HN2 := Lib.hid (HNx.out rfl)
          clear HNx HHit
          go_wp2_with fail
          refine HCk.out.mono ?_
          rintro e w1 ⟨rfl, rfl⟩
          clear HCk HCt
          go_wp2
          go_round
          case rel => exact ⟨k + 1, by omega, by go_num, HN2⟩
          case measure => simp [intOf]; omega
        · rcases ba with _ | _
          · have HN2 := Lib.hid (HHit.out rfl)
            clear HNx HHit
            go_wp2_with fail
            refine HCk.out.mono ?_
            rintro e w1 ⟨rfl, rfl⟩
            clear HCk HCt
            go_wp2
            go_ret
            exact ⟨by rw [HN2.out]; rfl, rfl⟩
          · have HN2 := Lib.hid (HNx.out rfl)
            clear HNx HHit
            go_wp2_with fail
            refine HCk.out.mono ?_
            rintro e w1 ⟨rfl, rfl⟩
            clear HCk HCt
            go_wp2
            go_round
            case rel => exact ⟨k + 1, by omega, by go_num, HN2⟩
            case measure => simp [intOf]; omega
    · obtain rfl : k = n := by omega
      have HE := Lib.hid (slipB_no (al := al) (pr := pr) (free := free) (r := r) (fun c hc => HS.out c (by have := HN.out.1; omega)))
      clear HS HCt
      go_wp2
      go_ret
      exact ⟨by rw [HE.out]; rfl, rfl⟩

/-! ### check -/
set_option maxRecDepth 100000 in
set_option maxHeartbeats 1000000 in
theorem scheck_any (v z : Value) (P D : Aut) (free : Int) (w : World) (ha : DfaAt w w.heap.size v P) (hb : DfaAt w w.heap.size z D) :
    Calls Tryd.prog 26 #[v, z, .int .i64 free] w fun e w' => Hid (e = .returned (errV (plantE P D free))) ∧ Below w.heap.size w w' := by
  have HA := Lib.hid ha
  have HZ := Lib.hid hb
  obtain ⟨L, s, A, c, F, cf, rfl, ha⟩ := ha
  obtain ⟨L', t, C, d, G, cg, rfl, hb⟩ := hb
  obtain ⟨wx, hwx, hBx, hX, hd1⟩ := box_dfa w ha
  obtain ⟨w1, hw1, hB1, hY, hd2⟩ := box_dfa wx (hb.on hBx)
  have hs1 : wx.heap.size = w.heap.size + 1 := by rw [hwx]; simp
  rw [hs1] at hY
  have hbb := hBx.trans (hB1.mono hBx.size)
  have HB := Lib.hid hbb
  have HX := Lib.hid (hX.on hB1)
  have HY := Lib.hid hY
  have HW : Hid (w1 = (w.alloc (.cells #[.int .i64 L, .int .i64 s, .slice A P.next.length c, .slice F P.fin.length cf] 25)).alloc (.cells #[.int .i64 L', .int .i64 t, .slice C D.next.length d, .slice G D.fin.length cg] 25)) := by
    rw [← hwx]; exact hw1
  have HL : Hid (P.L = L) := ha.eL
  have HA := Lib.hid (HA.out.on hbb)
  have HZ := Lib.hid (HZ.out.on hbb)
  have hc0 := HX.out.c0
  have hc1 := HX.out.c1
  have hc2 := HX.out.c2
  have hc3 := HX.out.c3
  have hd0 := HY.out.c0
  have hd1' := HY.out.c1
  have hd2' := HY.out.c2
  have hd3 := HY.out.c3
  clear hwx hw1 hBx hB1 hX hY hd1 hd2 hs1 ha hb hbb
  rcases g1 : chkD2 P D with _ | e0
  · have HC := Lib.hid (chkD2_ok HA.out HZ.out g1)
    have hG : Good2 P D := chkD2_iff.1 g1
    have HP : Hid (plantE P D free = if setOk L free then 0 else 1) := by unfold plantE Hid; rw [if_neg (by omega), HL.out]
    have hl1 : 1 ≤ L := by have := hG.ga.l1; have := HL.out; omega
    have hl6 : L ≤ 6 := by have := hG.ga.l6; have := HL.out; omega
    obtain ⟨M, hM, p1, p2, p3⟩ := shl_lim hl1 hl6
    have HSt : Hid (setOk L free ↔ 0 ≤ free ∧ free < M) := by unfold setOk Hid; rw [p1]
    clear g1 hG HA HZ p1
    generalize P.next.length = n1 at *
    generalize P.fin.length = n2 at *
    generalize D.next.length = n3 at *
    generalize D.fin.length = n4 at *
    by_cases hneg : free < 0
    · have HE : Hid (plantE P D free = 1) := by rw [Hid, HP.out, if_neg (fun k => by have := HSt.out.1 k; omega)]
      clear HP HSt
      go_enter Tryd.func26, Tryd.ntmps26
      go_wp2_with fail
      rw [← HW.out]
      clear HW
      refine HC.out.mono ?_
      rintro e w2 ⟨rfl, hb⟩
      have HB2 := Lib.hid (HB.out.trans (hb.mono HB.out.size))
      have hc0 := (HX.out.on hb).c0
      clear hb HC hc1 hc2 hc3 hd0 hd1' hd2' hd3 HX HY
      go_wp2
      go_ret
      exact ⟨by rw [HE.out]; rfl, HB2.out⟩
    · by_cases hbig : free < M
      · have HE : Hid (plantE P D free = 0) := by rw [Hid, HP.out, if_pos (HSt.out.2 ⟨by omega, hbig⟩)]
        clear HP HSt
        go_enter Tryd.func26, Tryd.ntmps26
        go_wp2_with fail
        rw [← HW.out]
        clear HW
        refine HC.out.mono ?_
        rintro e w2 ⟨rfl, hb⟩
        have HB2 := Lib.hid (HB.out.trans (hb.mono HB.out.size))
        have hc0 := (HX.out.on hb).c0
        clear hb HC hc1 hc2 hc3 hd0 hd1' hd2' hd3 HX HY
        go_wp2
        go_ret
        exact ⟨by rw [HE.out]; rfl, HB2.out⟩
      · have HE : Hid (plantE P D free = 1) := by rw [Hid, HP.out, if_neg (fun k => by have := HSt.out.1 k; omega)]
        clear HP HSt
        go_enter Tryd.func26, Tryd.ntmps26
        go_wp2_with fail
        rw [← HW.out]
        clear HW
        refine HC.out.mono ?_
        rintro e w2 ⟨rfl, hb⟩
        have HB2 := Lib.hid (HB.out.trans (hb.mono HB.out.size))
        have hc0 := (HX.out.on hb).c0
        clear hb HC hc1 hc2 hc3 hd0 hd1' hd2' hd3 HX HY
        go_wp2
        go_ret
        exact ⟨by rw [HE.out]; rfl, HB2.out⟩
  · have HE : Hid (plantE P D free = e0 + 1) := by unfold plantE Hid; rw [g1, if_pos (by omega)]
    have HC := Lib.hid (chkD2_bad HA.out HZ.out g1 rfl)
    clear g1 HA HZ
    generalize P.next.length = n1 at *
    generalize P.fin.length = n2 at *
    generalize D.next.length = n3 at *
    generalize D.fin.length = n4 at *
    generalize hE : ((e0 + 1 : Nat) : Int) = E at *
    have HEE := Lib.hid hE
    clear hE
    go_enter Tryd.func26, Tryd.ntmps26
    go_wp2_with fail
    rw [← HW.out]
    clear HW
    refine HC.out.mono ?_
    rintro e w2 ⟨rfl, hb⟩
    have HB2 := Lib.hid (HB.out.trans (hb.mono HB.out.size))
    clear hb HC hc0 hc1 hc2 hc3 hd0 hd1' hd2' hd3 HX HY
    go_wp2
    go_ret
    exact ⟨by rw [HE.out, errV_succ, HEE.out]; rfl, HB2.out⟩
theorem scheck_ok {v z : Value} {P D : Aut} {free : Int} {w : World} (ha : DfaAt w w.heap.size v P) (hb : DfaAt w w.heap.size z D) (h : plantE P D free = 0) :
    Calls Tryd.prog 26 #[v, z, .int .i64 free] w fun e w' => e = .returned .nilIface ∧ Below w.heap.size w w' :=
  (scheck_any v z P D free w ha hb).mono fun e w' ⟨he, hw⟩ => ⟨by rw [he.out, h]; rfl, hw⟩
theorem scheck_bad {v z : Value} {P D : Aut} {free : Int} {w : World} (ha : DfaAt w w.heap.size v P) (hb : DfaAt w w.heap.size z D) {e0 : Nat} (h : plantE P D free = e0 + 1) {x : Int} (hx : x = ((e0 + 1 : Nat) : Int)) :
    Calls Tryd.prog 26 #[v, z, .int .i64 free] w fun e w' => e = .returned (errI x) ∧ Below w.heap.size w w' :=
  (scheck_any v z P D free w ha hb).mono fun e w' ⟨he, hw⟩ => ⟨by rw [he.out, h, hx]; rfl, hw⟩
theorem plantE_ok {P D : Aut} {free : Int} (h : plantE P D free = 0) : Good2 P D ∧ 0 ≤ free ∧ free < 64 := by
  unfold plantE at h
  split at h
  · omega
  · rename_i h1
    have g := chkD2_iff.1 (show chkD2 P D = 0 by omega)
    split at h
    · rename_i h2
      unfold setOk at h2
      obtain ⟨M, hM, p1, p2, p3⟩ := shl_lim g.ga.l1 g.ga.l6
      rw [p1] at h2
      exact ⟨g, h2.1, by omega⟩
    · omega
end Go.Proofs.YtbciefeipiphiaaDoor.Su
