/- The walk of stilewardref3's Plant. -/
import Derived.Test.YtbciefeipiphiaaDoorSuperM
import Derived.Test.YtbciefeipiphiaaDoorRefNot
import Derived.Deep.QuietTactic
import Derived.BigQuiet
namespace Go.Proofs.YtbciefeipiphiaaDoor.Su
open Go.RowKit Go.IntWalk Go.Proofs.YtbciefeipiphiaaDoor.Wd Go.Proofs.YtbciefeipiphiaaDoor.Wo Go.Proofs.YtbciefeipiphiaaDoor.Df

set_option linter.unusedSimpArgs false in
set_option maxRecDepth 100000 in
set_option maxHeartbeats 2000000 in
theorem rplant_any (v z : Value) (P D : Aut) (free : Int) (w : World) (ha : DfaAt w w.heap.size v P) (hb : DfaAt w w.heap.size z D) :
    Calls Tryd.prog 6 #[v, z, .int .i64 free] w fun e w' => Hid (e = .returned (.int .i64 ((plantE P D free : Nat) : Int))) ∧ Below w.heap.size w w' := by
  have HA := Lib.hid ha
  have HZ := Lib.hid hb
  obtain ⟨L, s, A, c, F, cf, rfl, ha⟩ := ha
  obtain ⟨L', t, C, d, G, cg, rfl, hb⟩ := hb
  obtain ⟨wx, hwx, hBx, hX, hd1⟩ := box_dfa w ha
  obtain ⟨w1, hw1, hB1, hY, hd2⟩ := box_dfa wx (hb.on hBx)
  have hs1 : wx.heap.size = w.heap.size + 1 := by rw [hwx]; simp
  rw [hs1] at hY
  have hbb := hBx.trans (hB1.mono hBx.size)
  have HB := Lib.hid hbb
  have HX := Lib.hid (hX.on hB1)
  have HY := Lib.hid hY
  have HW : Hid (w1 = (w.alloc (.cells #[.int .i64 L, .int .i64 s, .slice A P.next.length c, .slice F P.fin.length cf] 25)).alloc (.cells #[.int .i64 L', .int .i64 t, .slice C D.next.length d, .slice G D.fin.length cg] 25)) := by
    rw [← hwx]; exact hw1
  have HT := Lib.hid (rtwo_any _ _ P D _ (HA.out.on hbb) (HZ.out.on hbb))
  have HL : Hid (P.L = L) := ha.eL
  have hc0 := HX.out.c0
  have hc1 := HX.out.c1
  have hc2 := HX.out.c2
  have hc3 := HX.out.c3
  have hd0 := HY.out.c0
  have hd1' := HY.out.c1
  have hd2' := HY.out.c2
  have hd3 := HY.out.c3
  clear hwx hw1 hBx hB1 hbb hX hY hd1 hd2 hs1 ha hb HA HZ
  generalize P.next.length = M at *
  generalize P.fin.length = fa at *
  generalize D.next.length = N at *
  generalize D.fin.length = fb at *
  go_enter Tryd.func6, Tryd.ntmps6
  go_wp2_with fail
  rw [← HW.out]
  clear HW
  refine HT.out.mono ?_
  rintro e w2 ⟨he, hb⟩
  have he := he.out
  have HB2 := Lib.hid (HB.out.trans (hb.mono HB.out.size))
  have hc0' := (HX.out.on hb).c0
  clear hc0 hc1 hc2 hc3 hd0 hd1' hd2' hd3 HT HX HY hb
  rcases g1 : chkD2 P D with _ | e0
  · as_aux_lemma =>
      rw [g1] at he
      obtain rfl : e = .returned (.int .i64 0) := he
      have g := chkD2_iff.1 g1
      have HS := Lib.hid (refSet_any L free w2 (by have := g.ga.l1; have := HL.out; omega) (by have := g.ga.l6; have := HL.out; omega))
      have HPE : Hid (plantE P D free = if setOk L free then 0 else 1) := by unfold Hid plantE; rw [if_neg (by omega), HL.out]
      clear g
      by_cases hs : setOk L free
      · rw [decide_eq_true hs] at HS
        rw [if_pos hs] at HPE
        go_wp2_with fail
        refine HS.out.mono ?_
        rintro e w3 ⟨he3, rfl⟩
        obtain rfl := he3.out
        clear he3 HS
        go_wp2
        go_ret
        exact ⟨by rw [HPE.out]; rfl, HB2.out⟩
      · rw [decide_eq_false hs] at HS
        rw [if_neg hs] at HPE
        go_wp2_with fail
        refine HS.out.mono ?_
        rintro e w3 ⟨he3, rfl⟩
        obtain rfl := he3.out
        clear he3 HS
        go_wp2
        go_ret
        exact ⟨by rw [HPE.out]; rfl, HB2.out⟩
  · as_aux_lemma =>
      rw [g1] at he
      obtain rfl : e = .returned (.int .i64 ((e0 + 1 : Nat) : Int)) := he
      have HPE : Hid (plantE P D free = e0 + 1) := by unfold Hid plantE; rw [if_pos (by omega), g1]
      have hne : (((e0 + 1 : Nat) : Int) == 0) = false := by simp; omega
      generalize hE : ((e0 + 1 : Nat) : Int) = E at *
      have HE := Lib.hid hE
      clear hE
      go_wp2
      go_ret
      exact ⟨by rw [HPE.out, ← HE.out]; rfl, HB2.out⟩
end Go.Proofs.YtbciefeipiphiaaDoor.Su
