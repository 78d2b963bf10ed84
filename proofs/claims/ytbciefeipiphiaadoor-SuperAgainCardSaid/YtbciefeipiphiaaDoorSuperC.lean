/- The walk of package super's Kept. -/
import Derived.Test.YtbciefeipiphiaaDoorSuperB
import Derived.Test.YtbciefeipiphiaaDoorSafeL
namespace Go.Proofs.YtbciefeipiphiaaDoor.Su
open Go.RowKit Go.IntWalk Go.Proofs.YtbciefeipiphiaaDoor.Wd Go.Proofs.YtbciefeipiphiaaDoor.Wo Go.Proofs.YtbciefeipiphiaaDoor.Df Go.Proofs.YtbciefeipiphiaaDoor.Rc Go.Proofs.YtbciefeipiphiaaDoor.Sm Go.Proofs.YtbciefeipiphiaaDoor.Sa Go.Proofs.YtbciefeipiphiaaDoor.Mp

theorem pre_ok {v : Value} {d : Aut} {w : World} (h : DfaAt w w.heap.size v d) (g : Df.Good d) :
    Calls Tryd.prog 27 #[v] w fun e w' => Hid (∃ x, e = .returned (.tuple #[x, .nilIface]) ∧ DfaOwn w w' x (preA d)) :=
  (pre_any v d w h).mono fun e w' he => by
    obtain ⟨x, h1, h2⟩ := he.out
    rw [mkO_ok g] at h1 h2
    exact ⟨x, h1, h2⟩
/-- Whether no free letter leads out; else the first word that does; the error. -/
noncomputable def keptO (P D : Aut) (free : Int) : Bool × List Int × Nat :=
  if plantE P D free = 0 then (match keptW P D free with | some u => (false, u, 0) | none => (true, [], 0)) else (false, [], plantE P D free)
theorem keptO_bad {P D : Aut} {free : Int} (h : plantE P D free ≠ 0) : keptO P D free = (false, [], plantE P D free) := if_neg h
theorem keptO_some {P D : Aut} {free : Int} (h : plantE P D free = 0) {u : List Int} (hu : keptW P D free = some u) : keptO P D free = (false, u, 0) := by unfold keptO; rw [if_pos h, hu]
theorem keptO_none {P D : Aut} {free : Int} (h : plantE P D free = 0) (hu : keptW P D free = none) : keptO P D free = (true, [], 0) := by unfold keptO; rw [if_pos h, hu]
/-- What Kept returns. -/
def KeptR (out : Bool × List Int × Nat) (w : World) (e : Ending) (w' : World) : Prop := ∃ wv, e = .returned (.tuple #[.bool out.1, wv, errV out.2.2]) ∧ Own w w' [] [eInts wv out.2.1]
set_option linter.unusedSimpArgs false in
set_option maxRecDepth 100000 in
set_option maxHeartbeats 4000000 in
theorem kept_any (v z : Value) (P D : Aut) (free : Int) (w : World) (ha : DfaAt w w.heap.size v P) (hb : DfaAt w w.heap.size z D) :
    Calls Tryd.prog 9 #[v, z, .int .i64 free] w fun e w' => Hid (KeptR (keptO P D free) w e w') := by
  have HA := Lib.hid ha
  have HZ := Lib.hid hb
  obtain ⟨L, s, A, c, F, cf, rfl, ha⟩ := ha
  obtain ⟨L', t, C, d, G, cg, rfl, hb⟩ := hb
  obtain ⟨wx, hwx, hBx, hX, hd1⟩ := box_dfa w ha
  obtain ⟨w1, hw1, hB1, hY, hd2⟩ := box_dfa wx (hb.on hBx)
  have hs1 : wx.heap.size = w.heap.size + 1 := by rw [hwx]; simp
  rw [hs1] at hY
  have hbb := hBx.trans (hB1.mono hBx.size)
  have HB := Lib.hid hbb
  have HX := Lib.hid (hX.on hB1)
  have HY := Lib.hid hY
  have HW : Hid (w1 = (w.alloc (.cells #[.int .i64 L, .int .i64 s, .slice A P.next.length c, .slice F P.fin.length cf] 25)).alloc (.cells #[.int .i64 L', .int .i64 t, .slice C D.next.length d, .slice G D.fin.length cg] 25)) := by
    rw [← hwx]; exact hw1
  have HA := Lib.hid (HA.out.on hbb)
  have HZ := Lib.hid (HZ.out.on hbb)
  have hc0 := HX.out.c0
  have hc1 := HX.out.c1
  have hc2 := HX.out.c2
  have hc3 := HX.out.c3
  have hd0 := HY.out.c0
  have hd1' := HY.out.c1
  have hd2' := HY.out.c2
  have hd3 := HY.out.c3
  clear hwx hw1 hBx hB1 hX hY hd1 hd2 hs1 ha hb hbb
  rcases g1 : plantE P D free with _ | e0
  · obtain ⟨hG, hf0, hf1⟩ := plantE_ok g1
    have HG := Lib.hid hG
    have HC := Lib.hid (scheck_ok HA.out HZ.out g1)
    have HSo : Hid (∀ u, keptW P D free = some u → keptO P D free = (false, u, 0)) := fun u hu => keptO_some g1 hu
    have HNo : Hid (keptW P D free = none → keptO P D free = (true, [], 0)) := fun hu => keptO_none g1 hu
    clear g1 hG
    generalize P.next.length = n1 at *
    generalize P.fin.length = n2 at *
    generalize D.next.length = n3 at *
    generalize D.fin.length = n4 at *
    go_enter Tryd.func9, Tryd.ntmps9
    go_wp2_with fail
    rw [← HW.out]
    clear HW
    refine HC.out.mono ?_
    rintro e w2 ⟨rfl, hb⟩
    have HB2 := Lib.hid (HB.out.trans (hb.mono HB.out.size))
    have HX2 := Lib.hid (HX.out.on hb)
    have HY2 := Lib.hid (HY.out.on hb)
    have HZ2 := Lib.hid (HZ.out.on hb)
    have HP := Lib.hid (pre_ok (HA.out.on hb) HG.out.ga)
    clear hb HC hc0 hc1 hc2 hc3 hd0 hd1' hd2' hd3 HX HY HA HZ HB
    have hc0 := HX2.out.c0
    have hc1 := HX2.out.c1
    have hc2 := HX2.out.c2
    have hc3 := HX2.out.c3
    go_wp2_with fail
    refine HP.out.mono ?_
    rintro e w3 he
    obtain ⟨x, rfl, ho⟩ := he.out
    obtain ⟨nv, fv, A1, m1, c1, F1, m2, c2, rfl, rfl, rfl⟩ := ho.form
    obtain ⟨w4, hw4⟩ : ∃ w4, w4 = w3.alloc (.cells #[.int .i64 (preA P).L, .int .i64 (preA P).s, .slice A1 m1 c1, .slice F1 m2 c2] 25) := ⟨_, rfl⟩
    have hb4 : Below w3.heap.size w3 w4 := by rw [hw4]; exact below_alloc _ _
    have HP4 := Lib.hid (ho.at_.on hb4)
    have HX4 : Hid (Boxed w4 w3.heap.size (preA P).L (preA P).s A1 m1 c1 F1 m2 c2) := by rw [hw4]; exact boxed_new _ _ _ _ _ _ _ _ _ _
    have hbb := ho.below.trans (hb4.mono ho.below.size)
    have HB4 := Lib.hid (HB2.out.trans (hbb.mono HB2.out.size))
    have HY4 := Lib.hid (HY2.out.on hbb)
    have HPD := Lib.hid (pre_ok (HZ2.out.on hbb) HG.out.gb)
    have hd0 := HY4.out.c0
    have hd1' := HY4.out.c1
    have hd2' := HY4.out.c2
    have hd3 := HY4.out.c3
    have HW4 := Lib.hid hw4
    rw [hw4] at hd0 hd1' hd2' hd3
    clear he ho HP hw4 hb4 hbb hc0 hc1 hc2 hc3 HX2 HY2 HZ2 HB2
    go_wp2_with fail
    rw [← HW4.out]
    clear hd0 hd1' hd2' hd3 HW4
    refine HPD.out.mono ?_
    rintro e w5 he
    obtain ⟨y, rfl, ho⟩ := he.out
    obtain ⟨nv5, fv5, A5, m5, c5, F5, m6, c6, rfl, rfl, rfl⟩ := ho.form
    obtain ⟨w6, hw6⟩ : ∃ w6, w6 = w5.alloc (.cells #[.int .i64 (preA D).L, .int .i64 (preA D).s, .slice A5 m5 c5, .slice F5 m6 c6] 25) := ⟨_, rfl⟩
    have hb6 : Below w5.heap.size w5 w6 := by rw [hw6]; exact below_alloc _ _
    have HD6 := Lib.hid (ho.at_.on hb6)
    have hY6 : Boxed w6 w5.heap.size (preA D).L (preA D).s A5 m5 c5 F5 m6 c6 := by rw [hw6]; exact boxed_new _ _ _ _ _ _ _ _ _ _
    have hbb := ho.below.trans (hb6.mono ho.below.size)
    have HB6 := Lib.hid (HB4.out.trans (hbb.mono HB4.out.size))
    have hX6 := HX4.out.on hbb
    have HES := Lib.hid (escape_any _ _ (preA P) (preA D) free w6 (HP4.out.on hbb) HD6.out (pre_good2 HG.out) (pre_preC HG.out.ga) (pre_preC HG.out.gb) hf0)
    have hc0 := hX6.c0
    have hc1 := hX6.c1
    have hc2 := hX6.c2
    have hc3 := hX6.c3
    have hd0 := hY6.c0
    have hd1' := hY6.c1
    have hd2' := hY6.c2
    have hd3 := hY6.c3
    have HW6 := Lib.hid hw6
    rw [hw6] at hc0 hc1 hc2 hc3 hd0 hd1' hd2' hd3
    clear he ho HPD hw6 hb6 hbb HX4 HY4 HP4 HD6 hX6 hY6
    go_wp2_with fail
    rw [← HW6.out]
    clear hc0 hc1 hc2 hc3 hd0 hd1' hd2' hd3 HW6
    refine HES.out.mono ?_
    rintro e w7 he
    obtain ⟨r, hr, hR⟩ := he.out
    have hk := esc_kept HG.out hr
    rcases r with _ | u
    · obtain ⟨rfl, hb7⟩ := hR
      have HR : Hid (KeptR (keptO P D free) w (.returned (.tuple #[.bool true, .slice none 0 0, .nilIface])) w7) := by
        rw [Hid, HNo.out hk]
        exact ⟨_, rfl, own_nil (HB6.out.trans (hb7.mono HB6.out.size))⟩
      clear he hr hk hb7 HES HNo HSo
      go_wp2
      go_ret3
      exact HR
    · obtain ⟨wv, rfl, ho⟩ := hR
      have HR : Hid (KeptR (keptO P D free) w (.returned (.tuple #[.bool false, wv, .nilIface])) w7) := by
        rw [Hid, HSo.out u hk]
        exact ⟨_, rfl, ho.base HB6.out⟩
      clear he hr hk ho HES HNo HSo
      go_wp2
      go_ret3
      exact HR
  · obtain ⟨x, hx⟩ : ∃ x : Int, x = ((e0 + 1 : Nat) : Int) := ⟨_, rfl⟩
    have HC := Lib.hid (scheck_bad HA.out HZ.out g1 hx)
    have HSo : Hid (keptO P D free = (false, [], e0 + 1)) := by rw [Hid, keptO_bad (by omega), g1]
    have HE : Hid (errV (e0 + 1) = errI x) := by rw [Hid, hx]; rfl
    clear g1 hx HA HZ
    generalize P.next.length = n1 at *
    generalize P.fin.length = n2 at *
    generalize D.next.length = n3 at *
    generalize D.fin.length = n4 at *
    go_enter Tryd.func9, Tryd.ntmps9
    go_wp2_with fail
    rw [← HW.out]
    refine HC.out.mono ?_
    rintro e w2 ⟨rfl, hb⟩
    have HR : Hid (KeptR (keptO P D free) w (.returned (.tuple #[.bool false, .slice none 0 0, errI x])) w2) := by
      rw [Hid, HSo.out]
      exact ⟨.slice none 0 0, by rw [HE.out], own_nil (HB.out.trans (hb.mono HB.out.size))⟩
    clear hb hc0 hc1 hc2 hc3 hd0 hd1' hd2' hd3 HX HY HC
    go_wp2
    go_ret3
    exact HR
end Go.Proofs.YtbciefeipiphiaaDoor.Su
