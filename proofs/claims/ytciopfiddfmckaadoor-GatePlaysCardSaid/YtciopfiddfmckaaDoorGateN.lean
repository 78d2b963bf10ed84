/- The walk of gate.New. -/
import Derived.Test.YtciopfiddfmckaaDoorGateW
import Derived.Test.YtciopfiddfmckaaDoorSafeL
namespace Go.Proofs.YtciopfiddfmckaaDoor.Ga
open Go.RowKit Go.IntWalk Go.Proofs.YtciopfiddfmckaaDoor.Wd Go.Proofs.YtciopfiddfmckaaDoor.Wo Go.Proofs.YtciopfiddfmckaaDoor.Df Go.Proofs.YtciopfiddfmckaaDoor.Rc Go.Proofs.YtciopfiddfmckaaDoor.Sm Go.Proofs.YtciopfiddfmckaaDoor.Sa

theorem dnew_on {w w' w2 : World} {x : Value} {d : Aut} (h : DfaNew w w' x d) (hb : Below w'.heap.size w' w2) : DfaNew w w2 x d := by
  obtain ⟨nv, fv, rs, h1, h2, h3, h4⟩ := h
  exact ⟨nv, fv, rs, h1, h2, h3.on hb, h4⟩
theorem class_le (d : Aut) : classA d ≤ 3 := by unfold classA clsN; rcases begunB d with _ | _ <;> rcases goesB d with _ | _ <;> decide
set_option maxRecDepth 100000 in
set_option maxHeartbeats 2000000 in
theorem gnew_ok (v : Value) (d : Aut) (w : World) (h : DfaAt w w.heap.size v d) (hg : GGood d) :
    Calls Tryd.prog 16 #[v] w fun e w' => Hid (∃ g, e = .returned (.tuple #[.pointer (some ⟨g, 0, none⟩), .nilIface]) ∧ GateW w w' g d (gate0 d) [] []) := by
  have HV := h
  obtain ⟨L, s, A, c, F, cf, rfl, h⟩ := h
  obtain ⟨w1, hw1, hB1, hX, hd1⟩ := box_dfa w h
  have HB := Lib.hid hB1
  have HX := Lib.hid hX
  have HD := Lib.hid hd1
  have HV := Lib.hid (HV.on hB1)
  have HW := Lib.hid hw1
  have hc0 := hX.c0
  have hc1 := hX.c1
  have hc2 := hX.c2
  have hc3 := hX.c3
  have hz : dchk d = 0 := dchk_iff.2 hg.good
  have HC := Lib.hid (fun v W (hA : DfaAt W W.heap.size v d) => cls_gives (E := .nilIface) hA (clsOut_ok hg.good) rfl)
  have HY := Lib.hid (fun v W (hA : DfaAt W W.heap.size v d) => copy_ok v d W hA hz)
  obtain ⟨q, rfl⟩ : ∃ q : Nat, s = (q : Int) := ⟨s.toNat, by have := hg.good.st.1; rw [h.es] at this; omega⟩
  have HFin : Hid (d.fin[q]? = some true) := by
    have h1 := hg.good.fin_at hg.good.s_lt
    rw [h.es, Int.toNat_natCast] at h1
    have h2 : accA d [] = true := hg.empty
    have h3 : accA d [] = finA d d.s.toNat := rfl
    rw [h3, h.es, Int.toNat_natCast] at h2
    rw [h2] at h1
    exact h1
  have hk : classA d = 1 ∨ classA d = 3 := by
    have h1 := (class_odd d).2 ((begunB_iff hg.good).2 hg.safe)
    have h2 := class_le d
    omega
  clear h hd1 hw1 hX hB1 hz hg
  generalize classA d = k at *
  generalize hn : d.next.length = n at *
  obtain ⟨m, hm⟩ : ∃ m, d.fin.length = m := ⟨_, rfl⟩
  rw [hm] at HW HX HV hc3
  rw [hm]
  have HM := Lib.hid hm
  clear hn hm
  rcases hk with rfl | rfl
  all_goals as_aux_lemma =>
    go_enter Tryd.func16, Tryd.ntmps16
    go_wp2_with fail
    rw [← HW.out]
    clear HW
    refine (HC.out _ _ HV.out).mono ?_
    rintro e w2 ⟨rfl, hb⟩
    have HX := Lib.hid (HX.out.on hb)
    have HD := Lib.hid (HD.out.on hb)
    have HV := Lib.hid (HV.out.on hb)
    have HB := Lib.hid (HB.out.trans (hb.mono HB.out.size))
    clear hb hc0 hc1 hc2 hc3 HC
    have hc0 := HX.out.c0
    have hc1 := HX.out.c1
    have hc2 := HX.out.c2
    have hc3 := HX.out.c3
    obtain ⟨ad, rfl, _, hcell, hym⟩ := HD.out.fins.at_ HFin.out
    rw [HM.out] at hym
    go_wp2_with fail
    refine (HY.out _ _ HV.out).mono ?_
    rintro e w3 he
    obtain ⟨x, rfl, nv, fv, rs, rfl, hrs⟩ := he.out
    have HO : Hid (DfaNew w2 w3 (.agg #[.int .i64 d.L, .int .i64 d.s, nv, fv]) d) := ⟨_, _, _, rfl, hrs⟩
    obtain ⟨A', c', hA', _⟩ := hrs.2.1.form (e := eRows nv (rs.map (·.1))) (by simp)
    obtain ⟨F', k', hF', _⟩ := hrs.2.1.form (e := eBools fv d.fin) (by simp)
    simp only [eRows, eBools] at hA' hF'
    subst hA' hF'
    generalize (rs.map (·.1)).length = n2 at *
    generalize d.fin.length = m2 at *
    have hE := (gate_new (dnew_on HO.out (below_alloc w3 (.cells #[.int .i64 d.L, .int .i64 d.s, .slice A' n2 c', .slice F' m2 k'] 25))))
    rw [show (w3.alloc (.cells #[.int .i64 d.L, .int .i64 d.s, .slice A' n2 c', .slice F' m2 k'] 25)).heap.size = w3.heap.size + 1 by simp] at hE
    have HE := Lib.hid hE
    clear he hrs hc0 hc1 hc2 hc3 HX HD HV hcell hym HY HO hE
    go_wp2
    go_ret2
    exact ⟨_, rfl, HE.out.base HB.out⟩
set_option maxRecDepth 100000 in
set_option maxHeartbeats 2000000 in
theorem gnew_bad (v : Value) (d : Aut) (w : World) (h : DfaAt w w.heap.size v d) (hg : gchk d ≠ 0) :
    Calls Tryd.prog 16 #[v] w fun e w' => Hid (e = .returned (.tuple #[.pointer none, errV (gchk d)])) ∧ Below w.heap.size w w' := by
  have HV := h
  obtain ⟨L, s, A, c, F, cf, rfl, h⟩ := h
  obtain ⟨w1, hw1, hB1, hX, hd1⟩ := box_dfa w h
  have HB := Lib.hid hB1
  have HX := Lib.hid hX
  have HD := Lib.hid hd1
  have HV := Lib.hid (HV.on hB1)
  have HW := Lib.hid hw1
  have hc0 := hX.c0
  have hc1 := hX.c1
  have hc2 := hX.c2
  have hc3 := hX.c3
  rcases g1 : dchk d with _ | e0
  · have hd := dchk_iff.1 g1
    have HC := Lib.hid (fun v W (hA : DfaAt W W.heap.size v d) => cls_gives (E := .nilIface) hA (clsOut_ok hd) rfl)
    obtain ⟨q, rfl⟩ : ∃ q : Nat, s = (q : Int) := ⟨s.toNat, by have := hd.st.1; rw [h.es] at this; omega⟩
    have hfin := hd.fin_at hd.s_lt
    have hst : d.s.toNat = q := by rw [h.es, Int.toNat_natCast]
    rw [hst] at hfin
    have hem : accA d [] = finA d q := by rw [← hst]; rfl
    have h3 := class_le d
    by_cases hev : classA d % 2 = 0
    · have HG : Hid (gchk d = 3) := by unfold gchk Hid; rw [if_neg (by omega), if_pos hev]
      have hk : classA d = 0 ∨ classA d = 2 := by omega
      clear h hd1 hw1 hX hB1 g1 hg hfin hem hst h3 hev
      generalize classA d = k at *
      generalize d.next.length = n at *
      generalize d.fin.length = m at *
      rcases hk with rfl | rfl
      all_goals as_aux_lemma =>
        go_enter Tryd.func16, Tryd.ntmps16
        go_wp2_with fail
        rw [← HW.out]
        clear HW
        refine (HC.out _ _ HV.out).mono ?_
        rintro e w2 ⟨rfl, hb⟩
        have HB := Lib.hid (HB.out.trans (hb.mono HB.out.size))
        clear hb hc0 hc1 hc2 hc3 HC HX HD HV
        go_wp2
        go_ret2
        exact ⟨by rw [HG.out]; rfl, HB.out⟩
    · have hk : classA d = 1 ∨ classA d = 3 := by omega
      have hf : finA d q = false := by
        rcases hf : finA d q with _ | _
        · rfl
        · exfalso; apply hg; unfold gchk; rw [if_neg (by omega), if_neg hev, if_neg (by rw [hem, hf]; decide)]
      have HG : Hid (gchk d = 8) := by unfold gchk Hid; rw [if_neg (by omega), if_neg hev, if_pos (by rw [hem]; exact hf)]
      rw [hf] at hfin
      have HFin := Lib.hid hfin
      clear h hd1 hw1 hX hB1 g1 hg hfin hem hst h3 hev hf
      generalize classA d = k at *
      generalize hn : d.next.length = n at *
      obtain ⟨m, hm⟩ : ∃ m, d.fin.length = m := ⟨_, rfl⟩
      rw [hm] at HW HX HV hc3
      rw [hm]
      have HM := Lib.hid hm
      clear hn hm
      rcases hk with rfl | rfl
      all_goals as_aux_lemma =>
        go_enter Tryd.func16, Tryd.ntmps16
        go_wp2_with fail
        rw [← HW.out]
        clear HW
        refine (HC.out _ _ HV.out).mono ?_
        rintro e w2 ⟨rfl, hb⟩
        have HX := Lib.hid (HX.out.on hb)
        have HD := Lib.hid (HD.out.on hb)
        have HB := Lib.hid (HB.out.trans (hb.mono HB.out.size))
        clear hb hc0 hc1 hc2 hc3 HC HV
        have hc1 := HX.out.c1
        have hc3 := HX.out.c3
        obtain ⟨ad, rfl, _, hcell, hym⟩ := HD.out.fins.at_ HFin.out
        rw [HM.out] at hym
        go_wp2
        go_ret2
        exact ⟨by rw [HG.out]; rfl, HB.out⟩
  · have HC := Lib.hid (fun v W (hA : DfaAt W W.heap.size v d) => cls_gives (E := errI ((e0 + 1 : Nat) : Int)) hA (clsOut_bad (by omega)) (by rw [g1]; rfl))
    have HG : Hid (gchk d = e0 + 1) := by unfold gchk Hid; rw [if_pos (by omega), g1]
    clear h hd1 hw1 hX hB1 g1 hg HD
    generalize d.next.length = n at *
    generalize d.fin.length = m at *
    generalize hE : ((e0 + 1 : Nat) : Int) = E at *
    have HE := Lib.hid hE
    clear hE
    go_enter Tryd.func16, Tryd.ntmps16
    go_wp2_with fail
    rw [← HW.out]
    clear HW
    refine (HC.out _ _ HV.out).mono ?_
    rintro e w2 ⟨rfl, hb⟩
    have HB := Lib.hid (HB.out.trans (hb.mono HB.out.size))
    clear hb hc0 hc1 hc2 hc3 HC HX HV
    go_wp2
    go_ret2
    exact ⟨by rw [HG.out, errV_succ, HE.out]; rfl, HB.out⟩
end Go.Proofs.YtciopfiddfmckaaDoor.Ga
