/- The walks of package super's check, contains and slips. The walk of package super's shut: a pass over an automaton that the caller owns. -/
import Derived.Test.YtbciefeipiphiaaDoorSuperM
import Derived.Test.YtbciefeipiphiaaDoorDfaR

namespace Go.Proofs.YtbciefeipiphiaaDoor.Su
open Go.RowKit Go.IntWalk Go.Proofs.YtbciefeipiphiaaDoor.Wd Go.Proofs.YtbciefeipiphiaaDoor.Wo Go.Proofs.YtbciefeipiphiaaDoor.Df Go.Proofs.YtbciefeipiphiaaDoor.Rc Go.Proofs.YtbciefeipiphiaaDoor.Sm Go.Proofs.YtbciefeipiphiaaDoor.Sa

set_option maxRecDepth 100000 in
theorem contains_has (s a : Int) (w : World) (h0 : 0 ≤ s) (ha : 0 ≤ a) (hb : a < 64) : Calls Tryd.prog 50 #[.int .i64 s, .int .i64 a] w fun e w' => e = .returned (.bool (has s a)) ∧ w' = w := by
  have hbh := bit_has (a := a) h0
  generalize has s a = b at *
  go_enter Tryd.func50, Tryd.ntmps50
  go_wp2
  go_ret
  exact ⟨rfl, rfl⟩
set_option maxRecDepth 100000 in
set_option maxHeartbeats 1000000 in
theorem slips_any (R A C : Option Addr) (cr ca cc : Nat) (r : List Int) (al pr : List Bool) (free : Int) (w : World) (hR : IntsAt w w.heap.size R r) (hA : BoolsAt w w.heap.size A al) (hC : BoolsAt w w.heap.size C pr) (h6 : r.length ≤ 6) (hf0 : 0 ≤ free)
    (hin : ∀ x ∈ r, ∃ q : Nat, x = (q : Int) ∧ q < al.length ∧ q < pr.length) :
    Calls Tryd.prog 54 #[.slice R r.length cr, .slice A al.length ca, .slice C pr.length cc, .int .i64 free] w fun e w' => e = .returned (.bool (slipB al pr free r)) ∧ w' = w := by
  have HR := Lib.hid hR
  have HA := Lib.hid hA
  have HC := Lib.hid hC
  have HI := Lib.hid hin
  have HY : Hid (∀ c, c < 0 → slipAt al pr free r c = false) := fun c hc => by omega
  have HCt := Lib.hid (fun (k : Nat) (hk : k < 6) => contains_has free (k : Int) w hf0 (by omega) (by omega))
  obtain ⟨n, hn⟩ : ∃ n, r.length = n := ⟨_, rfl⟩
  obtain ⟨na, hna⟩ : ∃ n, al.length = n := ⟨_, rfl⟩
  obtain ⟨np, hnp⟩ : ∃ n, pr.length = n := ⟨_, rfl⟩
  rw [hn] at h6
  rw [hn, hna, hnp]
  have HN : Hid (r.length = n ∧ al.length = na ∧ pr.length = np) := ⟨hn, hna, hnp⟩
  clear hR hA hC hin hn hna hnp
  go_enter Tryd.func54, Tryd.ntmps54
  go_wp2
  go_loop [13] (fun i => ∃ (k : Nat), k ≤ n ∧ i = .int .i64 k ∧ Hid (∀ c, c < k → slipAt al pr free r c = false)) (fun i => n - (intOf i).toNat)
  case atStart => exact ⟨0, by omega, rfl, HY⟩
  case round =>
    clear HY
    obtain ⟨k, hk, rfl, HS⟩ := hrel
    by_cases hlt : k < n
    · have hkr : k < r.length := by have := HN.out.1; omega
      obtain ⟨ad, rfl, hz1, hc, hz2⟩ := HR.out.at_ k hkr
      obtain ⟨q, hq, hqa, hqp⟩ := HI.out _ (List.getElem_mem hkr)
      rw [hq] at hc
      obtain ⟨ba, hba⟩ : ∃ b, al[q]? = some b := ⟨_, List.getElem?_eq_getElem hqa⟩
      obtain ⟨bp, hbp⟩ : ∃ b, pr[q]? = some b := ⟨_, List.getElem?_eq_getElem hqp⟩
      obtain ⟨aa, rfl, hz3, hca, hz4⟩ := HA.out.at_ hba
      obtain ⟨ap, rfl, hz5, hcp, hz6⟩ := HC.out.at_ hbp
      have hsl : slipAt al pr free r k = (has free (k : Int) && (bp && !ba)) := by
        unfold slipAt flagAt
        rw [List.getElem?_eq_getElem hkr, hq, Option.getD_some, Int.toNat_natCast, hba, hbp]; rfl
      have e1 : (q : Int) < (na : Int) := by have := HN.out.2.1; omega
      have e2 : (q : Int) < (np : Int) := by have := HN.out.2.2; omega
      have e3 : (k : Int) < (n : Int) := by omega
      have HCk := Lib.hid (HCt.out k (by omega))
      have HNx : Hid (slipAt al pr free r k = false → ∀ c, c < k + 1 → slipAt al pr free r c = false) := fun h c hc => by
        by_cases e : c = k
        · subst e; exact h
        · exact HS.out c (by omega)
      have HHit : Hid (slipAt al pr free r k = true → slipB al pr free r = true) := slipB_hit hkr
      rw [hsl] at HNx HHit
      clear hz1 hz2 hz3 hz4 hz5 hz6 hba hbp hq hqa hqp hsl hkr HS
      rcases hh : has free (k : Int) with _ | _
      · rw [hh] at HCk HNx
        have HN2 := Lib.hid (HNx.out rfl)
        clear hh HNx HHit
        go_wp2_with fail
        refine HCk.out.mono ?_
        rintro e w1 ⟨rfl, rfl⟩
        clear HCk HCt
        go_wp2
        go_round
        case rel => exact ⟨k + 1, by omega, by go_num, HN2⟩
        case measure => simp [intOf]; omega
      · rw [hh] at HCk HNx HHit
        clear hh
        rcases bp with _ | _
        · have HN2 := Lib.hid (HNx.out rfl)
          clear HNx HHit
          go_wp2_with fail
          refine HCk.out.mono ?_
          rintro e w1 ⟨rfl, rfl⟩
          clear HCk HCt
          go_wp2
          go_round
          case rel => exact ⟨k + 1, by omega, by go_num, HN2⟩
          case measure => simp [intOf]; omega
        · rcases ba with _ | _
          · have HN2 := Lib.hid (HHit.out rfl)
            clear HNx HHit
            go_wp2_with fail
            refine HCk.out.mono ?_
            rintro e w1 ⟨rfl, rfl⟩
            clear HCk HCt
            go_wp2
            go_ret
            exact ⟨by rw [HN2.out]; rfl, rfl⟩
          · have HN2 := Lib.hid (HNx.out rfl)
            clear HNx HHit
            go_wp2_with fail
            refine HCk.out.mono ?_
            rintro e w1 ⟨rfl, rfl⟩
            clear HCk HCt
            go_wp2
            go_round
            case rel => exact ⟨k + 1, by omega, by go_num, HN2⟩
            case measure => simp [intOf]; omega
    · obtain rfl : k = n := by omega
      have HE := Lib.hid (slipB_no (al := al) (pr := pr) (free := free) (r := r) (fun c hc => HS.out c (by have := HN.out.1; omega)))
      clear HS HCt
      go_wp2
      go_ret
      exact ⟨by rw [HE.out]; rfl, rfl⟩

/-! ### check -/
set_option maxRecDepth 100000 in
set_option maxHeartbeats 1000000 in
theorem scheck_any (v z : Value) (P D : Aut) (free : Int) (w : World) (ha : DfaAt w w.heap.size v P) (hb : DfaAt w w.heap.size z D) :
    Calls Tryd.prog 26 #[v, z, .int .i64 free] w fun e w' => Hid (e = .returned (errV (plantE P D free))) ∧ Below w.heap.size w w' := by
  have HA := Lib.hid ha
  have HZ := Lib.hid hb
  obtain ⟨L, s, A, c, F, cf, rfl, ha⟩ := ha
  obtain ⟨L', t, C, d, G, cg, rfl, hb⟩ := hb
  obtain ⟨wx, hwx, hBx, hX, hd1⟩ := box_dfa w ha
  obtain ⟨w1, hw1, hB1, hY, hd2⟩ := box_dfa wx (hb.on hBx)
  have hs1 : wx.heap.size = w.heap.size + 1 := by rw [hwx]; simp
  rw [hs1] at hY
  have hbb := hBx.trans (hB1.mono hBx.size)
  have HB := Lib.hid hbb
  have HX := Lib.hid (hX.on hB1)
  have HY := Lib.hid hY
  have HW : Hid (w1 = (w.alloc (.cells #[.int .i64 L, .int .i64 s, .slice A P.next.length c, .slice F P.fin.length cf] 25)).alloc (.cells #[.int .i64 L', .int .i64 t, .slice C D.next.length d, .slice G D.fin.length cg] 25)) := by
    rw [← hwx]; exact hw1
  have HL : Hid (P.L = L) := ha.eL
  have HA := Lib.hid (HA.out.on hbb)
  have HZ := Lib.hid (HZ.out.on hbb)
  have hc0 := HX.out.c0
  have hc1 := HX.out.c1
  have hc2 := HX.out.c2
  have hc3 := HX.out.c3
  have hd0 := HY.out.c0
  have hd1' := HY.out.c1
  have hd2' := HY.out.c2
  have hd3 := HY.out.c3
  clear hwx hw1 hBx hB1 hX hY hd1 hd2 hs1 ha hb hbb
  rcases g1 : chkD2 P D with _ | e0
  · have HC := Lib.hid (chkD2_ok HA.out HZ.out g1)
    have hG : Good2 P D := chkD2_iff.1 g1
    have HP : Hid (plantE P D free = if setOk L free then 0 else 1) := by unfold plantE Hid; rw [if_neg (by omega), HL.out]
    have hl1 : 1 ≤ L := by have := hG.ga.l1; have := HL.out; omega
    have hl6 : L ≤ 6 := by have := hG.ga.l6; have := HL.out; omega
    obtain ⟨M, hM, p1, p2, p3⟩ := shl_lim hl1 hl6
    have HSt : Hid (setOk L free ↔ 0 ≤ free ∧ free < M) := by unfold setOk Hid; rw [p1]
    clear g1 hG HA HZ p1
    generalize P.next.length = n1 at *
    generalize P.fin.length = n2 at *
    generalize D.next.length = n3 at *
    generalize D.fin.length = n4 at *
    by_cases hneg : free < 0
    · have HE : Hid (plantE P D free = 1) := by rw [Hid, HP.out, if_neg (fun k => by have := HSt.out.1 k; omega)]
      clear HP HSt
      go_enter Tryd.func26, Tryd.ntmps26
      go_wp2_with fail
      rw [← HW.out]
      clear HW
      refine HC.out.mono ?_
      rintro e w2 ⟨rfl, hb⟩
      have HB2 := Lib.hid (HB.out.trans (hb.mono HB.out.size))
      have hc0 := (HX.out.on hb).c0
      clear hb HC hc1 hc2 hc3 hd0 hd1' hd2' hd3 HX HY
      go_wp2
      go_ret
      exact ⟨by rw [HE.out]; rfl, HB2.out⟩
    · by_cases hbig : free < M
      · have HE : Hid (plantE P D free = 0) := by rw [Hid, HP.out, if_pos (HSt.out.2 ⟨by omega, hbig⟩)]
        clear HP HSt
        go_enter Tryd.func26, Tryd.ntmps26
        go_wp2_with fail
        rw [← HW.out]
        clear HW
        refine HC.out.mono ?_
        rintro e w2 ⟨rfl, hb⟩
        have HB2 := Lib.hid (HB.out.trans (hb.mono HB.out.size))
        have hc0 := (HX.out.on hb).c0
        clear hb HC hc1 hc2 hc3 hd0 hd1' hd2' hd3 HX HY
        go_wp2
        go_ret
        exact ⟨by rw [HE.out]; rfl, HB2.out⟩
      · have HE : Hid (plantE P D free = 1) := by rw [Hid, HP.out, if_neg (fun k => by have := HSt.out.1 k; omega)]
        clear HP HSt
        go_enter Tryd.func26, Tryd.ntmps26
        go_wp2_with fail
        rw [← HW.out]
        clear HW
        refine HC.out.mono ?_
        rintro e w2 ⟨rfl, hb⟩
        have HB2 := Lib.hid (HB.out.trans (hb.mono HB.out.size))
        have hc0 := (HX.out.on hb).c0
        clear hb HC hc1 hc2 hc3 hd0 hd1' hd2' hd3 HX HY
        go_wp2
        go_ret
        exact ⟨by rw [HE.out]; rfl, HB2.out⟩
  · have HE : Hid (plantE P D free = e0 + 1) := by unfold plantE Hid; rw [g1, if_pos (by omega)]
    have HC := Lib.hid (chkD2_bad HA.out HZ.out g1 rfl)
    clear g1 HA HZ
    generalize P.next.length = n1 at *
    generalize P.fin.length = n2 at *
    generalize D.next.length = n3 at *
    generalize D.fin.length = n4 at *
    generalize hE : ((e0 + 1 : Nat) : Int) = E at *
    have HEE := Lib.hid hE
    clear hE
    go_enter Tryd.func26, Tryd.ntmps26
    go_wp2_with fail
    rw [← HW.out]
    clear HW
    refine HC.out.mono ?_
    rintro e w2 ⟨rfl, hb⟩
    have HB2 := Lib.hid (HB.out.trans (hb.mono HB.out.size))
    clear hb HC hc0 hc1 hc2 hc3 hd0 hd1' hd2' hd3 HX HY
    go_wp2
    go_ret
    exact ⟨by rw [HE.out, errV_succ, HEE.out]; rfl, HB2.out⟩
theorem scheck_ok {v z : Value} {P D : Aut} {free : Int} {w : World} (ha : DfaAt w w.heap.size v P) (hb : DfaAt w w.heap.size z D) (h : plantE P D free = 0) :
    Calls Tryd.prog 26 #[v, z, .int .i64 free] w fun e w' => e = .returned .nilIface ∧ Below w.heap.size w w' :=
  (scheck_any v z P D free w ha hb).mono fun e w' ⟨he, hw⟩ => ⟨by rw [he.out, h]; rfl, hw⟩
theorem scheck_bad {v z : Value} {P D : Aut} {free : Int} {w : World} (ha : DfaAt w w.heap.size v P) (hb : DfaAt w w.heap.size z D) {e0 : Nat} (h : plantE P D free = e0 + 1) {x : Int} (hx : x = ((e0 + 1 : Nat) : Int)) :
    Calls Tryd.prog 26 #[v, z, .int .i64 free] w fun e w' => e = .returned (errI x) ∧ Below w.heap.size w w' :=
  (scheck_any v z P D free w ha hb).mono fun e w' ⟨he, hw⟩ => ⟨by rw [he.out, h, hx]; rfl, hw⟩
theorem plantE_ok {P D : Aut} {free : Int} (h : plantE P D free = 0) : Good2 P D ∧ 0 ≤ free ∧ free < 64 := by
  unfold plantE at h
  split at h
  · omega
  · rename_i h1
    have g := chkD2_iff.1 (show chkD2 P D = 0 by omega)
    split at h
    · rename_i h2
      unfold setOk at h2
      obtain ⟨M, hM, p1, p2, p3⟩ := shl_lim g.ga.l1 g.ga.l6
      rw [p1] at h2
      exact ⟨g, h2.1, by omega⟩
    · omega
end Go.Proofs.YtbciefeipiphiaaDoor.Su

namespace Go.Proofs.YtbciefeipiphiaaDoor.Su
open Go.RowKit Go.IntWalk Go.Proofs.YtbciefeipiphiaaDoor.Wd Go.Proofs.YtbciefeipiphiaaDoor.Wo Go.Proofs.YtbciefeipiphiaaDoor.Df Go.Proofs.YtbciefeipiphiaaDoor.Rc Go.Proofs.YtbciefeipiphiaaDoor.Sm Go.Proofs.YtbciefeipiphiaaDoor.Sa

/-- An automaton that is owned, all of it still written to; xs: what else is owned. -/
def AutX (w1 wr : World) (nv fv : Value) (rows : List (List Int)) (bs : List Bool) (rs : List (Value × List Int)) (xs fs : List Ent) : Prop :=
  rs.map (·.2) = rows ∧ Own w1 wr (eRows nv (rs.map (·.1)) :: eBools fv bs :: (eEach rs ++ xs)) fs
theorem own_ints_at' {w0 w : World} {es fs : List Ent} (h : Own w0 w es fs) {i g n cap : Nat} {r : List Int} (hi : es[i]? = some (eInts (.slice (some ⟨g, 0, none⟩) n cap) r)) (hl : r.length = n) (j : Nat) (x : Int) :
    Own w0 (w.setCell ⟨g, j, none⟩ (.int .i64 x)) (es.set i (eInts (.slice (some ⟨g, 0, none⟩) n cap) (r.set j x))) fs := by
  obtain ⟨hil, hie⟩ := List.getElem?_eq_some_iff.1 hi
  have h1 := h.pull i hil
  rw [hie] at h1
  have h2 := own_ints_set h1 hl j x
  refine Own.put i (by simpa using hil) ?_
  rw [List.getElem_set_self, List.eraseIdx_set_eq]
  exact h2
section
variable {w1 wr : World} {nv fv : Value} {rows : List (List Int)} {bs : List Bool} {rs : List (Value × List Int)} {xs fs : List Ent}
theorem AutX.on {w' : World} (h : AutX w1 wr nv fv rows bs rs xs fs) (hb : Below wr.heap.size wr w') : AutX w1 w' nv fv rows bs rs xs fs := ⟨h.1, h.2.on hb⟩
theorem AutX.len (h : AutX w1 wr nv fv rows bs rs xs fs) : rs.length = rows.length := by rw [← h.1, List.length_map]
theorem AutX.row {gn cap n : Nat} (h : AutX w1 wr (.slice (some ⟨gn, 0, none⟩) n cap) fv rows bs rs xs fs) (hl : rs.length = n) {k : Nat} {p : Value × List Int} (hk : rs[k]? = some p) : wr.cell? ⟨gn, k, none⟩ = some p.1 := by
  subst hl
  have hm : (⟨27, 1, .slice (some ⟨gn, 0, none⟩) rs.length cap, rs.length, rs.map (·.1)⟩ : Ent) ∈ (eRows (.slice (some ⟨gn, 0, none⟩) rs.length cap) (rs.map (·.1)) :: eBools fv bs :: (eEach rs ++ xs)) ++ fs := by
    have : eRows (.slice (some ⟨gn, 0, none⟩) rs.length cap) (rs.map (·.1)) = ⟨27, 1, .slice (some ⟨gn, 0, none⟩) rs.length cap, rs.length, rs.map (·.1)⟩ := by unfold eRows; rw [List.length_map]
    rw [this]; simp
  exact (Own.cell h.2 hm (by rw [List.getElem?_map, hk]; rfl)).1
theorem AutX.mem {k : Nat} {p : Value × List Int} (hk : rs[k]? = some p) : eInts p.1 p.2 ∈ (eRows nv (rs.map (·.1)) :: eBools fv bs :: (eEach rs ++ xs)) ++ fs :=
  List.mem_append_left _ (List.mem_cons_of_mem _ (List.mem_cons_of_mem _ (List.mem_append_left _ (List.mem_map.2 ⟨p, List.mem_of_getElem? hk, rfl⟩))))
theorem AutX.form (h : AutX w1 wr nv fv rows bs rs xs fs) {k : Nat} {p : Value × List Int} (hk : rs[k]? = some p) (hl : 0 < p.2.length) : ∃ gx cap, p.1 = .slice (some ⟨gx, 0, none⟩) p.2.length cap :=
  owns_some (Own.at_ h.2 (AutX.mem hk)) hl
theorem AutX.cell {gx cap n : Nat} {r : List Int} (h : AutX w1 wr nv fv rows bs rs xs fs) {k : Nat} (hk : rs[k]? = some (.slice (some ⟨gx, 0, none⟩) n cap, r)) (hl : r.length = n) {j : Nat} {x : Int} (hj : r[j]? = some x) :
    wr.cell? ⟨gx, j, none⟩ = some (.int .i64 x) ∧ wr.frozen? ⟨gx, j, none⟩ = false := own_ints_cell h.2 (AutX.mem hk) hl hj
theorem AutX.flag {gf cap n : Nat} (h : AutX w1 wr nv (.slice (some ⟨gf, 0, none⟩) n cap) rows bs rs xs fs) (hl : bs.length = n) {k : Nat} {b : Bool} (hk : bs[k]? = some b) : wr.cell? ⟨gf, k, none⟩ = some (.bool b) ∧ wr.frozen? ⟨gf, k, none⟩ = false :=
  own_bools_cell h.2 (List.mem_append_left _ (List.mem_cons_of_mem _ List.mem_cons_self)) hl hk
theorem AutX.set {gx cap n : Nat} {r : List Int} (h : AutX w1 wr nv fv rows bs rs xs fs) {k : Nat} (hk : rs[k]? = some (.slice (some ⟨gx, 0, none⟩) n cap, r)) (hl : r.length = n) (j : Nat) (x : Int) :
    AutX w1 (wr.setCell ⟨gx, j, none⟩ (.int .i64 x)) nv fv (rows.set k (r.set j x)) bs (rs.set k (.slice (some ⟨gx, 0, none⟩) n cap, r.set j x)) xs fs := by
  obtain ⟨hkl, hke⟩ := List.getElem?_eq_some_iff.1 hk
  refine ⟨by rw [List.map_set, h.1], ?_⟩
  have hi : (eRows nv (rs.map (·.1)) :: eBools fv bs :: (eEach rs ++ xs))[k + 2]? = some (eInts (.slice (some ⟨gx, 0, none⟩) n cap) r) := by
    rw [List.getElem?_cons_succ, List.getElem?_cons_succ, List.getElem?_append_left (by simpa [eEach] using hkl)]
    unfold eEach
    rw [List.getElem?_map, hk]; rfl
  have h2 := own_ints_at' h.2 hi hl j x
  have hrows : (rs.set k (Value.slice (some ⟨gx, 0, none⟩) n cap, r.set j x)).map (·.1) = rs.map (·.1) := map_set_same _ _ _ _ fun y hy => by
    obtain rfl := Option.some.inj (hk.symm.trans hy); rfl
  have heach : eEach (rs.set k (Value.slice (some ⟨gx, 0, none⟩) n cap, r.set j x)) = (eEach rs).set k (eInts (.slice (some ⟨gx, 0, none⟩) n cap) (r.set j x)) := by unfold eEach; rw [List.map_set]
  rw [hrows, heach]
  rw [List.set_cons_succ, List.set_cons_succ, List.set_append_left _ _ (by simpa [eEach] using hkl)] at h2
  exact h2
theorem AutX.put {gf cap n : Nat} (h : AutX w1 wr nv (.slice (some ⟨gf, 0, none⟩) n cap) rows bs rs xs fs) (hl : bs.length = n) (k : Nat) (b : Bool) : AutX w1 (wr.setCell ⟨gf, k, none⟩ (.bool b)) nv (.slice (some ⟨gf, 0, none⟩) n cap) rows (bs.set k b) rs xs fs :=
  ⟨h.1, (own_bools_set h.2.two hl k b).two⟩
end
/-- A row under way. -/
def rowK (k : Nat) (r : List Int) (j : Nat) : List Int := flipTo (fun _ => (k : Int)) r j
theorem rowK_all (k : Nat) (r : List Int) : rowK k r r.length = List.replicate r.length (k : Int) := by
  unfold rowK
  rw [flip_all (Nat.le_refl _), List.map_const', List.length_range]
theorem setK_self {α : Type} {l : List α} {k : Nat} {x : α} (h : l[k]? = some x) : l.set k x = l := by
  obtain ⟨h1, h2⟩ := List.getElem?_eq_some_iff.1 h
  rw [← h2]; exact List.set_getElem_self h1
/-- What shut leaves behind. -/
def ShutR (w1 : World) (d : Aut) (al pr : List Bool) (free : Int) (nv fv : Value) (vs : List Value) (xs fs : List Ent) (e : Ending) (w' : World) : Prop :=
  e = .returned (.bool (shutAny d al pr free d.next.length)) ∧ ∃ rs, rs.map (·.1) = vs ∧ AutX w1 w' nv fv (shutA d al pr free).next (shutA d al pr free).fin rs xs fs
def rowsC (d : Aut) (al pr : List Bool) (free : Int) (k : Nat) : List (List Int) := flipTo (cutRow d al pr free) d.next k
def finsC (d : Aut) (al pr : List Bool) (free : Int) (k : Nat) : List Bool := flipTo (cutFin d al pr free) d.fin k
set_option linter.unusedSimpArgs false in
set_option maxRecDepth 100000 in
set_option maxHeartbeats 4000000 in
theorem sshut_any (w1 w : World) (d : Aut) (g : Df.Good d) (al pr : List Bool) (free : Int) (nv fv av pv : Value) (rs : List (Value × List Int)) (xs fs : List Ent) (h : AutX w1 w nv fv d.next d.fin rs xs fs) (ha : eBools av al ∈ fs) (hp : eBools pv pr ∈ fs)
    (hal : al.length = d.next.length) (hpl : pr.length = d.next.length) (hf0 : 0 ≤ free) :
    Calls Tryd.prog 31 #[.agg #[.int .i64 d.L, .int .i64 d.s, nv, fv], av, pv, .int .i64 free] w fun e w' => Hid (ShutR w1 d al pr free nv fv (rs.map (·.1)) xs fs e w') := by
  obtain ⟨A, ca, rfl, hy1, hy2, hy3⟩ := own_bools h.2 (List.mem_append_right _ ha)
  obtain ⟨C, cc, rfl, hy4, hy5, hy6⟩ := own_bools h.2 (List.mem_append_right _ hp)
  have hn0 : 0 < d.next.length := g.n1
  have hn4 : d.next.length ≤ 40 := g.n40
  have hmn : d.fin.length = d.next.length := g.fin
  have hrl : rs.length = d.next.length := h.len
  obtain ⟨gf, cap, hfv⟩ := owns_some (h.2.each _ (List.mem_cons_of_mem _ List.mem_cons_self)) (by show 0 < d.fin.length; omega)
  obtain ⟨gn, cn, hnv⟩ := owns_some (h.2.each _ List.mem_cons_self) (by show 0 < (rs.map (·.1)).length; rw [List.length_map, hrl]; exact hn0)
  change fv = .slice (some ⟨gf, 0, none⟩) d.fin.length cap at hfv
  change nv = .slice (some ⟨gn, 0, none⟩) (rs.map (·.1)).length cn at hnv
  rw [hmn] at hfv
  rw [List.length_map, hrl] at hnv
  subst hfv hnv
  obtain ⟨n, hn⟩ : ∃ n, d.next.length = n := ⟨_, rfl⟩
  rw [hn] at hn0 hn4 h hal hpl
  rw [hn, hal, hpl]
  have HN : Hid (d.next.length = n ∧ d.fin.length = n ∧ al.length = n ∧ pr.length = n) := ⟨hn, hmn.trans hn, hal, hpl⟩
  have HG := Lib.hid g
  rw [hal] at ha
  rw [hpl] at hp
  have HRd : Hid (∀ W es, Own w1 W es fs → BoolsAt W W.heap.size A al ∧ BoolsAt W W.heap.size C pr) := fun W es hW => by
    constructor
    · obtain ⟨A', c', e, _, _, hA⟩ := own_bools hW (List.mem_append_right _ ha)
      simp only [Value.slice.injEq] at e
      rw [e.1]; exact hA
    · obtain ⟨A', c', e, _, _, hA⟩ := own_bools hW (List.mem_append_right _ hp)
      simp only [Value.slice.injEq] at e
      rw [e.1]; exact hA
  -- the box
  obtain ⟨wb, hwb⟩ : ∃ wb, wb = w.alloc (.cells #[.int .i64 d.L, .int .i64 d.s, .slice (some ⟨gn, 0, none⟩) n cn, .slice (some ⟨gf, 0, none⟩) n cap] 25) := ⟨_, rfl⟩
  have hbox : Own w1 wb (eRows (.slice (some ⟨gn, 0, none⟩) n cn) (rs.map (·.1)) :: eBools (.slice (some ⟨gf, 0, none⟩) n cap) d.fin :: (eEach rs ++ (eDfa w.heap.size [.int .i64 d.L, .int .i64 d.s, .slice (some ⟨gn, 0, none⟩) n cn, .slice (some ⟨gf, 0, none⟩) n cap] :: xs))) fs := by
    rw [hwb]
    refine (h.2.dfa (.int .i64 d.L) (.int .i64 d.s) (.slice (some ⟨gn, 0, none⟩) n cn) (.slice (some ⟨gf, 0, none⟩) n cap)).perm ?_
    exact ((List.Perm.swap _ _ _).trans (((List.Perm.swap _ _ _).trans (List.perm_middle.symm.cons _)).cons _))
  have HS : Hid (∃ rt, rt.map (·.1) = rs.map (·.1) ∧ AutX w1 wb (.slice (some ⟨gn, 0, none⟩) n cn) (.slice (some ⟨gf, 0, none⟩) n cap) (rowsC d al pr free 0) (finsC d al pr free 0) rt (eDfa w.heap.size [.int .i64 d.L, .int .i64 d.s, .slice (some ⟨gn, 0, none⟩) n cn, .slice (some ⟨gf, 0, none⟩) n cap] :: xs) fs) :=
    ⟨rs, rfl, by unfold rowsC; rw [flip_zero]; exact h.1, by unfold finsC; rw [flip_zero]; exact hbox⟩
  have HW := Lib.hid hwb
  have k2 : wb.cell? ⟨w.heap.size, 2, none⟩ = some (.slice (some ⟨gn, 0, none⟩) n cn) := by rw [hwb]; exact box_cell w _ _ 2
  rw [hwb] at k2
  clear hy1 hy2 hy3 hy4 hy5 hy6 hwb hbox h ha hp hal hpl hmn hrl hn
  generalize hvs : rs.map (·.1) = vs at *
  clear hvs
  go_enter Tryd.func31, Tryd.ntmps31
  go_wp2
  clear k2
  rw [← HW.out]
  generalize w.heap.size = gx0 at *
  clear HW
  go_loopw [9, 16] (fun bv i wr => ∃ (k : Nat), k ≤ n ∧ i = .int .i64 k ∧ bv = .bool (shutAny d al pr free k) ∧ Hid (∃ rt, rt.map (·.1) = vs ∧ AutX w1 wr (.slice (some ⟨gn, 0, none⟩) n cn) (.slice (some ⟨gf, 0, none⟩) n cap) (rowsC d al pr free k) (finsC d al pr free k) rt (eDfa gx0 [.int .i64 d.L, .int .i64 d.s, .slice (some ⟨gn, 0, none⟩) n cn, .slice (some ⟨gf, 0, none⟩) n cap] :: xs) fs)) (fun _ i _ => n - (intOf i).toNat)
  case atStart => exact ⟨0, by omega, rfl, rfl, HS⟩
  case round =>
    clear HS
    obtain ⟨k, hk, rfl, rfl, HS⟩ := hrel
    obtain ⟨rt, hvs, hx⟩ := HS.out
    by_cases hlt : k < n
    · have hkn : k < d.next.length := by rw [HN.out.1]; exact hlt
      have hkf : k < d.fin.length := by rw [HN.out.2.1]; exact hlt
      have hrl : rt.length = n := by
        rw [hx.len]
        unfold rowsC
        rw [flip_length (by omega), HN.out.1]
      have hfl : (finsC d al pr free k).length = n := by unfold finsC; rw [flip_length (by omega), HN.out.2.1]
      obtain ⟨⟨pv, r⟩, hp⟩ : ∃ p, rt[k]? = some p := ⟨_, List.getElem?_eq_getElem (by omega)⟩
      have hp2 : r = d.next[k] := by
        have h1 : (rt.map (·.2))[k]? = some r := by rw [List.getElem?_map, hp]; rfl
        rw [hx.1] at h1
        unfold rowsC at h1
        rw [flip_get hkn] at h1
        exact (Option.some.inj h1).symm
      have hrow := HG.out.row _ (List.getElem_mem hkn)
      rw [← hp2] at hrow
      have hpl : 0 < r.length := by have := HG.out.l1; omega
      have hp6 : r.length ≤ 6 := by have := HG.out.l6; omega
      obtain ⟨gx, cx, hpv⟩ := hx.form hp hpl
      simp only at hpv
      subst hpv
      have hcr := hx.row hrl hp
      simp only at hcr
      have hka : k < al.length := by rw [HN.out.2.2.1]; exact hlt
      obtain ⟨ba, hba⟩ : ∃ b, al[k]? = some b := ⟨_, List.getElem?_eq_getElem hka⟩
      obtain ⟨ada, eA, hz1, hca, hz2⟩ := (HRd.out _ _ hx.2).1.at_ hba
      have hsm : ∀ x ∈ r, Small x := fun x hxr => good_small HG.out _ (List.getElem_mem hkn) x (by rw [← hp2]; exact hxr)
      have HSl := Lib.hid (slips_any (some ⟨gx, 0, none⟩) A C cx ca cc r al pr free wr ⟨hx.2.cells (t := 3) (sz := 1) (n := r.length) (cap := cx) (AutX.mem hp), hsm⟩ (HRd.out _ _ hx.2).1 (HRd.out _ _ hx.2).2 hp6 hf0 (fun x hxr => by
        have h1 := HG.out.go _ (List.getElem_mem hkn) x (by rw [← hp2]; exact hxr)
        obtain ⟨q, hq⟩ := Int.eq_ofNat_of_zero_le h1.1
        have := h1.2
        have := HN.out
        exact ⟨q, hq, by omega, by omega⟩))
      rw [HN.out.2.2.1, HN.out.2.2.2] at HSl
      subst eA
      have e1 : (k : Int) < (n : Int) := by omega
      have HCut : Hid (cutB d al pr free k = (ba && slipB al pr free r)) := by
        unfold cutB flagAt Hid
        rw [hba, hp2, next_at hkn]; rfl
      have HAny : Hid (shutAny d al pr free (k + 1) = (shutAny d al pr free k || cutB d al pr free k)) := shutAny_succ d al pr free k
      have HX := Lib.hid hx
      have HP := Lib.hid hp
      have HP2 := Lib.hid hp2
      have HRl := Lib.hid hrl
      have HFl := Lib.hid hfl
      have HVs := Lib.hid hvs
      have HKn := Lib.hid hkn
      have HKf := Lib.hid hkf
      have HMiss : Hid (cutB d al pr free k = false → shutAny d al pr free (k + 1) = shutAny d al pr free k ∧ AutX w1 wr (.slice (some ⟨gn, 0, none⟩) n cn) (.slice (some ⟨gf, 0, none⟩) n cap) (rowsC d al pr free (k + 1)) (finsC d al pr free (k + 1)) rt (eDfa gx0 [.int .i64 d.L, .int .i64 d.s, .slice (some ⟨gn, 0, none⟩) n cn, .slice (some ⟨gf, 0, none⟩) n cap] :: xs) fs) := fun hc => by
        refine ⟨by rw [HAny.out, hc, Bool.or_false], ?_⟩
        have e1 : rowsC d al pr free (k + 1) = rowsC d al pr free k := (flip_same HKn.out (by unfold cutRow; rw [hc, if_neg (by simp), next_at HKn.out])).symm
        have e2 : finsC d al pr free (k + 1) = finsC d al pr free k := (flip_same HKf.out (by
          unfold cutFin; rw [hc, if_neg (by simp)]
          unfold finA
          rw [List.getElem?_eq_getElem HKf.out]; rfl)).symm
        rw [e1, e2]; exact HX.out
      clear hz1 hz2 hba hka hsm hp hp2 hrl hfl hvs hx hrow HS
      obtain ⟨lr, hlr⟩ : ∃ lr, r.length = lr := ⟨_, rfl⟩
      have HLr := Lib.hid hlr
      rw [hlr] at hpl hp6 hcr HP HSl
      clear hlr
      rcases ba with _ | _
      · as_aux_lemma =>
        obtain ⟨h1, h2⟩ := HMiss.out (by rw [HCut.out]; rfl)
        have HN1 := Lib.hid h2
        have HAn := Lib.hid h1
        clear h1 h2 HMiss HCut HAny HX HSl
        go_wp2
        go_roundw
        case rel => exact ⟨k + 1, by omega, by go_num, by rw [HAn.out], ⟨rt, HVs.out, HN1.out⟩⟩
        case measure => simp [intOf]; omega
      · rcases hsb : slipB al pr free r with _ | _
        · as_aux_lemma =>
          rw [hsb] at HSl HCut
          obtain ⟨h1, h2⟩ := HMiss.out (by rw [HCut.out]; rfl)
          have HN1 := Lib.hid h2
          have HAn := Lib.hid h1
          clear h1 h2 HMiss HCut HAny HX hsb
          go_wp2_with fail
          refine HSl.out.mono ?_
          rintro e w5 ⟨rfl, rfl⟩
          clear HSl
          go_wp2
          go_roundw
          case rel => exact ⟨k + 1, by omega, by go_num, by rw [HAn.out], ⟨rt, HVs.out, HN1.out⟩⟩
          case measure => simp [intOf]; omega
        · as_aux_lemma =>
          rw [hsb] at HSl HCut
          have HC1 : Hid (cutB d al pr free k = true) := by rw [Hid, HCut.out]; rfl
          have HAn : Hid (shutAny d al pr free (k + 1) = true) := by rw [Hid, HAny.out, HC1.out, Bool.or_true]
          clear hsb HMiss HCut HAny
          have HY : Hid (AutX w1 wr (.slice (some ⟨gn, 0, none⟩) n cn) (.slice (some ⟨gf, 0, none⟩) n cap) ((rowsC d al pr free k).set k (rowK k r 0)) (finsC d al pr free k) (rt.set k (.slice (some ⟨gx, 0, none⟩) lr cx, rowK k r 0)) (eDfa gx0 [.int .i64 d.L, .int .i64 d.s, .slice (some ⟨gn, 0, none⟩) n cn, .slice (some ⟨gf, 0, none⟩) n cap] :: xs) fs) := by
            unfold rowK
            rw [flip_zero, setK_self HP.out, setK_self]
            · exact HX.out
            · have := HX.out.1
              rw [← this, List.getElem?_map, HP.out]; rfl
          clear HX
          go_wp2_with fail
          refine HSl.out.mono ?_
          rintro e w5 ⟨rfl, rfl⟩
          clear HSl hcr hca
          go_wp2
          go_loopw [36] (fun i wi => ∃ (j : Nat), j ≤ lr ∧ i = .int .i64 j ∧ Hid (AutX w1 wi (.slice (some ⟨gn, 0, none⟩) n cn) (.slice (some ⟨gf, 0, none⟩) n cap) ((rowsC d al pr free k).set k (rowK k r j)) (finsC d al pr free k) (rt.set k (.slice (some ⟨gx, 0, none⟩) lr cx, rowK k r j)) (eDfa gx0 [.int .i64 d.L, .int .i64 d.s, .slice (some ⟨gn, 0, none⟩) n cn, .slice (some ⟨gf, 0, none⟩) n cap] :: xs) fs)) (fun i _ => lr - (intOf i).toNat)
          case atStart => exact ⟨0, by omega, rfl, HY⟩
          case round =>
            clear HY
            obtain ⟨j, hj, rfl, HY⟩ := hrel
            have hks : (rt.set k (Value.slice (some ⟨gx, 0, none⟩) lr cx, rowK k r j))[k]? = some (.slice (some ⟨gx, 0, none⟩) lr cx, rowK k r j) := List.getElem?_set_self (by rw [HRl.out]; exact hlt)
            by_cases hjl : j < lr
            · as_aux_lemma =>
              have hjr : j < r.length := by rw [HLr.out]; exact hjl
              have hlen : (rowK k r j).length = lr := by unfold rowK; rw [flip_length (by omega), HLr.out]
              obtain ⟨hc, hz⟩ := HY.out.cell hks hlen (x := r[j]) (flip_get hjr)
              have HN2 : Hid (AutX w1 (wr.setCell ⟨gx, j, none⟩ (.int .i64 (k : Int))) (.slice (some ⟨gn, 0, none⟩) n cn) (.slice (some ⟨gf, 0, none⟩) n cap) ((rowsC d al pr free k).set k (rowK k r (j + 1))) (finsC d al pr free k) (rt.set k (.slice (some ⟨gx, 0, none⟩) lr cx, rowK k r (j + 1))) (eDfa gx0 [.int .i64 d.L, .int .i64 d.s, .slice (some ⟨gn, 0, none⟩) n cn, .slice (some ⟨gf, 0, none⟩) n cap] :: xs) fs) := by
                have h2 := HY.out.set hks hlen j (k : Int)
                rw [List.set_set, List.set_set] at h2
                rw [show rowK k r (j + 1) = (rowK k r j).set j (k : Int) from (flip_set (f := fun _ => (k : Int)) hjr).symm]
                exact h2
              have e2 : (j : Int) < (lr : Int) := by omega
              clear HY hks hlen
              generalize r[j] = y at *
              go_wp2
              go_roundw
              case rel => exact ⟨j + 1, by omega, by go_num, HN2⟩
              case measure => simp [intOf]; omega
            · as_aux_lemma =>
              obtain rfl : j = lr := by omega
              have hro : (rowsC d al pr free k).set k (rowK k r j) = rowsC d al pr free (k + 1) := by
                have e : rowK k r j = cutRow d al pr free k := by
                  rw [← HLr.out, rowK_all]
                  unfold cutRow
                  rw [HC1.out, if_pos rfl, next_at HKn.out, HP2.out]
                rw [e]
                exact flip_set HKn.out
              have hfo : (finsC d al pr free k).set k false = finsC d al pr free (k + 1) := by
                have e : false = cutFin d al pr free k := by unfold cutFin; rw [HC1.out, if_pos rfl]
                rw [e]
                exact flip_set HKf.out
              have hy := HY.out
              rw [hro] at hy
              have hvs2 : (rt.set k (Value.slice (some ⟨gx, 0, none⟩) j cx, rowK k r j)).map (·.1) = vs := by
                rw [← HVs.out]
                exact map_set_same _ _ _ _ fun y hyy => by
                  obtain rfl := Option.some.inj (HP.out.symm.trans hyy); rfl
              have h2 := hy.put HFl.out k false
              rw [hfo] at h2
              have HE : Hid (∃ rt, rt.map (·.1) = vs ∧ AutX w1 (wr.setCell ⟨gf, k, none⟩ (.bool false)) (.slice (some ⟨gn, 0, none⟩) n cn) (.slice (some ⟨gf, 0, none⟩) n cap) (rowsC d al pr free (k + 1)) (finsC d al pr free (k + 1)) rt (eDfa gx0 [.int .i64 d.L, .int .i64 d.s, .slice (some ⟨gn, 0, none⟩) n cn, .slice (some ⟨gf, 0, none⟩) n cap] :: xs) fs) := ⟨_, hvs2, h2⟩
              have hg3 := (hy.2.dcell (g := gx0) (l := [.int .i64 d.L, .int .i64 d.s, .slice (some ⟨gn, 0, none⟩) n cn, .slice (some ⟨gf, 0, none⟩) n cap]) (j := 3) (by simp) rfl).1
              obtain ⟨bz, hbz⟩ : ∃ b, (finsC d al pr free k)[k]? = some b := ⟨_, List.getElem?_eq_getElem (by rw [HFl.out]; exact hlt)⟩
              obtain ⟨hcf, hff⟩ := hy.flag HFl.out hbz
              clear hro hfo hy hvs2 h2 HY hks hbz
              go_wp2
              go_roundw
              case rel => exact ⟨k + 1, by omega, by go_num, by rw [HAn.out], HE⟩
              case measure => simp [intOf]; omega
    · as_aux_lemma =>
      obtain rfl : k = n := by omega
      have hr : rowsC d al pr free k = (shutA d al pr free).next := by
        unfold rowsC shutA
        rw [flip_all (by rw [HN.out.1]; omega), HN.out.1]
      have hf : finsC d al pr free k = (shutA d al pr free).fin := by
        unfold finsC shutA
        rw [flip_all (by rw [HN.out.2.1]; omega), HN.out.2.1]
      rw [hr, hf] at hx
      have HEnd : Hid (ShutR w1 d al pr free (.slice (some ⟨gn, 0, none⟩) k cn) (.slice (some ⟨gf, 0, none⟩) k cap) vs xs fs (.returned (.bool (shutAny d al pr free k))) wr) := by
        have h9 : Own w1 wr (eDfa gx0 [.int .i64 d.L, .int .i64 d.s, .slice (some ⟨gn, 0, none⟩) k cn, .slice (some ⟨gf, 0, none⟩) k cap] :: (eRows (.slice (some ⟨gn, 0, none⟩) k cn) (rt.map (·.1)) :: eBools (.slice (some ⟨gf, 0, none⟩) k cap) (shutA d al pr free).fin :: (eEach rt ++ xs))) fs :=
          hx.2.perm ((((List.perm_middle.cons _).trans (List.Perm.swap _ _ _)).cons _).trans (List.Perm.swap _ _ _))
        exact ⟨by rw [HN.out.1], rt, hvs, hx.1, h9.tail⟩
      clear HS hr hf hvs hx
      generalize shutAny d al pr free k = bb at *
      go_wp2
      go_ret
      exact HEnd
end Go.Proofs.YtbciefeipiphiaaDoor.Su
