/- The walk of package small's Same. -/
import Derived.Test.YtciopfiddfmckaaDoorDiff
import Derived.Test.YtciopfiddfmckaaDoorFirst
namespace Go.Proofs.YtciopfiddfmckaaDoor.Mp
open Go.RowKit Go.IntWalk Go.Proofs.YtciopfiddfmckaaDoor.Wd Go.Proofs.YtciopfiddfmckaaDoor.Wo Go.Proofs.YtciopfiddfmckaaDoor.Df Go.Proofs.YtciopfiddfmckaaDoor.Rc Go.Proofs.YtciopfiddfmckaaDoor.Sm

/-- Whether two accept the same; else the first word at which they differ; the error. -/
def sameOut (a b : Aut) : Bool × List Int × Nat :=
  if chkD2 a b = 0 then (match diffW a b a.s.toNat b.s.toNat with | some u => (false, u, 0) | none => (true, [], 0)) else (false, [], chkD2 a b)
theorem sameOut_bad {a b : Aut} (h : chkD2 a b ≠ 0) : sameOut a b = (false, [], chkD2 a b) := if_neg h
theorem sameOut_some {a b : Aut} (h : chkD2 a b = 0) {u : List Int} (hu : diffW a b a.s.toNat b.s.toNat = some u) : sameOut a b = (false, u, 0) := by unfold sameOut; rw [if_pos h, hu]
theorem sameOut_none {a b : Aut} (h : chkD2 a b = 0) (hu : diffW a b a.s.toNat b.s.toNat = none) : sameOut a b = (true, [], 0) := by unfold sameOut; rw [if_pos h, hu]
/-- What Same returns. -/
def SameR (out : Bool × List Int × Nat) (w : World) (e : Ending) (w' : World) : Prop := ∃ wv, e = .returned (.tuple #[.bool out.1, wv, errV out.2.2]) ∧ Own w w' [] [eInts wv out.2.1] ∧ (out.2.1 = [] → wv = .slice none 0 0)
set_option maxRecDepth 100000 in
set_option maxHeartbeats 1000000 in
theorem same_any (v z : Value) (a b : Aut) (w : World) (ha : DfaAt w w.heap.size v a) (hb : DfaAt w w.heap.size z b) :
    Calls Tryd.prog 53 #[v, z] w fun e w' => Hid (SameR (sameOut a b) w e w') := by
  have HA := ha
  have HZ := hb
  obtain ⟨L, s, A, c, F, cf, rfl, ha⟩ := ha
  obtain ⟨M, t, C, d, G, cg, rfl, hb⟩ := hb
  obtain ⟨wx, hwx, hBx, hX, hd1⟩ := box_dfa w ha
  obtain ⟨w1, hw1, hB1, hY, hd2⟩ := box_dfa wx (hb.on hBx)
  have hs1 : wx.heap.size = w.heap.size + 1 := by rw [hwx]; simp
  rw [hs1] at hY
  have HB := Lib.hid (hBx.trans (hB1.mono hBx.size))
  have HX := Lib.hid (hX.on hB1)
  have HY := Lib.hid hY
  have HA := Lib.hid (HA.on HB.out)
  have HZ := Lib.hid (HZ.on HB.out)
  have HW : Hid (w1 = (w.alloc (.cells #[.int .i64 L, .int .i64 s, .slice A a.next.length c, .slice F a.fin.length cf] 25)).alloc (.cells #[.int .i64 M, .int .i64 t, .slice C b.next.length d, .slice G b.fin.length cg] 25)) := by
    rw [← hwx]; exact hw1
  have hc0 := HX.out.c0
  have hc1 := HX.out.c1
  have hc2 := HX.out.c2
  have hc3 := HX.out.c3
  have hd0 := HY.out.c0
  have hd1' := HY.out.c1
  have hd2' := HY.out.c2
  have hd3 := HY.out.c3
  clear hwx hw1 hBx hB1 hX hY hd1 hd2 hs1 ha hb
  generalize a.fin.length = fa at *
  generalize b.fin.length = fb at *
  generalize a.next.length = na at *
  generalize b.next.length = nb at *
  rcases g1 : chkD2 a b with _ | e0
  · have HC := Lib.hid (chkD2_ok HA.out HZ.out g1)
    have HG : Hid (Good2 a b) := chkD2_iff.1 g1
    have HSo : Hid (∀ u, diffW a b a.s.toNat b.s.toNat = some u → sameOut a b = (false, u, 0)) := fun u hu => sameOut_some g1 hu
    have HNo : Hid (diffW a b a.s.toNat b.s.toNat = none → sameOut a b = (true, [], 0)) := fun hu => sameOut_none g1 hu
    clear g1
    go_enter Tryd.func53, Tryd.ntmps53
    go_wp2_with fail
    rw [← HW.out]
    clear HW
    refine HC.out.mono ?_
    rintro e w2 ⟨rfl, hb⟩
    have HB2 := Lib.hid hb
    have hX := HX.out.on hb
    have hY := HY.out.on hb
    have hc0 := hX.c0
    have hc1 := hX.c1
    have hc2 := hX.c2
    have hc3 := hX.c3
    have hd0 := hY.c0
    have hd1' := hY.c1
    have hd2' := hY.c2
    have hd3 := hY.c3
    have HDi := Lib.hid (difference_any _ _ a b w2 (HA.out.on hb) (HZ.out.on hb) HG.out)
    clear hb hX hY HX HY HC
    go_wp2_with fail
    refine HDi.out.mono ?_
    rintro e w3 he
    rcases he.out with ⟨u, wv, h1, h2, h3, h4⟩ | ⟨h1, h2, h3⟩
    · subst h2
      have HR : Hid (SameR (sameOut a b) w (.returned (.tuple #[.bool false, wv, .nilIface])) w3) := by
        rw [Hid, HSo.out u h1]
        exact ⟨wv, rfl, h3.base (HB.out.trans (HB2.out.mono HB.out.size)), h4⟩
      clear he h1 h3 h4 HDi
      go_wp2
      go_ret3
      exact HR
    · subst h2
      have HR : Hid (SameR (sameOut a b) w (.returned (.tuple #[.bool true, .slice none 0 0, .nilIface])) w3) := by
        rw [Hid, HNo.out h1]
        exact ⟨.slice none 0 0, rfl, own_nil ((HB.out.trans (HB2.out.mono HB.out.size)).trans (h3.mono (Nat.le_trans HB.out.size HB2.out.size))), fun _ => rfl⟩
      clear he h1 h3 HDi
      go_wp2
      go_ret3
      exact HR
  · obtain ⟨x, hx⟩ : ∃ x : Int, x = ((e0 + 1 : Nat) : Int) := ⟨_, rfl⟩
    have HC := Lib.hid (chkD2_bad HA.out HZ.out g1 hx)
    have HSo : Hid (sameOut a b = (false, [], e0 + 1)) := by rw [Hid, sameOut_bad (by omega), g1]
    have HE : Hid (errV (e0 + 1) = errI x) := by rw [Hid, hx]; rfl
    clear g1 hx
    go_enter Tryd.func53, Tryd.ntmps53
    go_wp2_with fail
    rw [← HW.out]
    clear HW
    refine HC.out.mono ?_
    rintro e w2 ⟨rfl, hb⟩
    have HR : Hid (SameR (sameOut a b) w (.returned (.tuple #[.bool false, .slice none 0 0, errI x])) w2) := by
      rw [Hid, HSo.out]
      exact ⟨.slice none 0 0, by rw [HE.out], own_nil (HB.out.trans (hb.mono HB.out.size)), fun _ => rfl⟩
    clear hb hc0 hc1 hc2 hc3 hd0 hd1' hd2' hd3 HX HY HA HZ HC
    go_wp2
    go_ret3
    exact HR
end Go.Proofs.YtciopfiddfmckaaDoor.Mp
