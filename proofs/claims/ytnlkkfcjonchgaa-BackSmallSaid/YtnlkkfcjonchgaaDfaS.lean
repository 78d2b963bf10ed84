/- The walks of package dfa's Both, Either and But. -/
import Derived.Test.YtnlkkfcjonchgaaDfaR
namespace Go.Proofs.Ytnlkkfcjonchgaa.Df
open Go.RowKit Go.IntWalk Go.Proofs.Ytnlkkfcjonchgaa.Wd Go.Proofs.Ytnlkkfcjonchgaa.Wo

set_option maxRecDepth 100000 in
theorem both1_any (x y : Bool) (w : World) : Calls Try.prog 22 #[.bool x, .bool y] w fun e w' => e = .returned (.bool ((fun x y => x && y) x y)) ∧ w' = w := by
  rcases x with _ | _ <;> rcases y with _ | _
  all_goals
    go_enter Try.func22, Try.ntmps22
    go_wp2
    go_ret
    exact ⟨rfl, rfl⟩
theorem both1_call (args : Array Value) (W : World) : (callFunc 22 args).run Try.prog W = .ok (.enter 22 args) W := by
  have hn : ¬ Try.f22.name = "runtime.NumGoroutine" := of_decide_eq_false (by kernel_rfl)
  have hb : ¬ Try.f22.body = none := fun h => by
    have : Try.f22.body.isSome = true := by kernel_rfl
    rw [h] at this; cases this
  simp [callFunc, go_sem, hn, hb]
def bothF : Bool → Bool → Bool := fun x y => x && y
set_option maxRecDepth 100000 in
set_option maxHeartbeats 1000000 in
theorem both_any (v z : Value) (a b : Aut) (w : World) (ha : DfaAt w w.heap.size v a) (hb : DfaAt w w.heap.size z b) :
    Calls Try.prog 9 #[v, z] w fun e w' => Hid (∃ x, e = .returned (.tuple #[x, errV (prodOut bothF a b).2]) ∧ DfaOwn w w' x (prodOut bothF a b).1) := by
  have HA := ha
  have HZ := hb
  obtain ⟨L, s, A, c, F, cf, rfl, ha⟩ := ha
  obtain ⟨M, t, C, d, G, cg, rfl, hb⟩ := hb
  obtain ⟨wx, hwx, hBx, hX, hd1⟩ := box_dfa w ha
  obtain ⟨w1, hw1, hB1, hY, hd2⟩ := box_dfa wx (hb.on hBx)
  have hs1 : wx.heap.size = w.heap.size + 1 := by rw [hwx]; simp
  have hs2 : w1.heap.size = w.heap.size + 2 := by rw [hw1]; simp; omega
  rw [hs1] at hY
  have hres := below_alloc w1 (.cells #[.int .i64 0, .int .i64 0, .slice none 0 0, .slice none 0 0] 26)
  have HB := Lib.hid (hBx.trans (hB1.mono hBx.size))
  have HX := hX.on hB1
  have HO := Lib.hid ((own_start w1).dfa (.int .i64 0) (.int .i64 0) (.slice none 0 0) (.slice none 0 0))
  rw [hs2] at HO
  have HC := Lib.hid (prod_any 22 both1_call bothF (fun x y W => both1_any x y W) _ _ a b _ ((HA.on HB.out).on hres) ((HZ.on HB.out).on hres))
  have HX2 := HX.on hres
  have HY2 := hY.on hres
  have hc0 := HX2.c0
  have hc1 := HX2.c1
  have hc2 := HX2.c2
  have hc3 := HX2.c3
  have hd0 := HY2.c0
  have hd1' := HY2.c1
  have hd2' := HY2.c2
  have hd3 := HY2.c3
  have HW : Hid (w1 = (w.alloc (.cells #[.int .i64 L, .int .i64 s, .slice A a.next.length c, .slice F a.fin.length cf] 26)).alloc (.cells #[.int .i64 M, .int .i64 t, .slice C b.next.length d, .slice G b.fin.length cg] 26)) := by
    rw [← hwx]; exact hw1
  clear hwx hw1 hBx hB1 hX hY hd1 hd2 hs1 hs2 ha hb hres HX HX2 HY2 HA HZ
  generalize a.next.length = n1 at *
  generalize a.fin.length = n2 at *
  generalize b.next.length = n3 at *
  generalize b.fin.length = n4 at *
  generalize prodOut bothF a b = PO at *
  obtain ⟨po, en⟩ := PO
  simp only at HC ⊢
  generalize errV en = E at *
  go_enter Try.func9, Try.ntmps9
  go_wp2_with fail
  rw [← HW.out]
  refine HC.out.mono ?_
  rintro e w5 he
  obtain ⟨x, rfl, ho⟩ := he.out
  obtain ⟨nv, fv, A1, m1, c1, F1, m2, c2, rfl, rfl, rfl⟩ := ho.form
  have HH := Lib.hid (res_own HO.out ho rfl)
  have hO5 := HO.out.join (es1 := []) (fs1 := []) ((own_start _).on ho.below)
  obtain ⟨hr0, hf0⟩ := hO5.dcell (g := w.heap.size + 2) (l := zero4) (j := 0) (by simp) rfl
  obtain ⟨hr1, hf1⟩ := hO5.dcell (g := w.heap.size + 2) (l := zero4) (j := 1) (by simp) rfl
  obtain ⟨hr2, hf2⟩ := hO5.dcell (g := w.heap.size + 2) (l := zero4) (j := 2) (by simp) rfl
  obtain ⟨hr3, hf3⟩ := hO5.dcell (g := w.heap.size + 2) (l := zero4) (j := 3) (by simp) rfl
  clear he ho hO5 HC hc0 hc1 hc2 hc3 hd0 hd1' hd2' hd3
  go_wp2
  obtain ⟨k1, k3, k4, k5, k6⟩ := HH.out
  exact bodyPost_ret (results_dfa rfl _ rfl k3 k4 k5 k6) rfl ⟨_, rfl, k1.base HB.out⟩

set_option maxRecDepth 100000 in
theorem either1_any (x y : Bool) (w : World) : Calls Try.prog 23 #[.bool x, .bool y] w fun e w' => e = .returned (.bool ((fun x y => x || y) x y)) ∧ w' = w := by
  rcases x with _ | _ <;> rcases y with _ | _
  all_goals
    go_enter Try.func23, Try.ntmps23
    go_wp2
    go_ret
    exact ⟨rfl, rfl⟩
theorem either1_call (args : Array Value) (W : World) : (callFunc 23 args).run Try.prog W = .ok (.enter 23 args) W := by
  have hn : ¬ Try.f23.name = "runtime.NumGoroutine" := of_decide_eq_false (by kernel_rfl)
  have hb : ¬ Try.f23.body = none := fun h => by
    have : Try.f23.body.isSome = true := by kernel_rfl
    rw [h] at this; cases this
  simp [callFunc, go_sem, hn, hb]
def eitherF : Bool → Bool → Bool := fun x y => x || y
set_option maxRecDepth 100000 in
set_option maxHeartbeats 1000000 in
theorem either_any (v z : Value) (a b : Aut) (w : World) (ha : DfaAt w w.heap.size v a) (hb : DfaAt w w.heap.size z b) :
    Calls Try.prog 10 #[v, z] w fun e w' => Hid (∃ x, e = .returned (.tuple #[x, errV (prodOut eitherF a b).2]) ∧ DfaOwn w w' x (prodOut eitherF a b).1) := by
  have HA := ha
  have HZ := hb
  obtain ⟨L, s, A, c, F, cf, rfl, ha⟩ := ha
  obtain ⟨M, t, C, d, G, cg, rfl, hb⟩ := hb
  obtain ⟨wx, hwx, hBx, hX, hd1⟩ := box_dfa w ha
  obtain ⟨w1, hw1, hB1, hY, hd2⟩ := box_dfa wx (hb.on hBx)
  have hs1 : wx.heap.size = w.heap.size + 1 := by rw [hwx]; simp
  have hs2 : w1.heap.size = w.heap.size + 2 := by rw [hw1]; simp; omega
  rw [hs1] at hY
  have hres := below_alloc w1 (.cells #[.int .i64 0, .int .i64 0, .slice none 0 0, .slice none 0 0] 26)
  have HB := Lib.hid (hBx.trans (hB1.mono hBx.size))
  have HX := hX.on hB1
  have HO := Lib.hid ((own_start w1).dfa (.int .i64 0) (.int .i64 0) (.slice none 0 0) (.slice none 0 0))
  rw [hs2] at HO
  have HC := Lib.hid (prod_any 23 either1_call eitherF (fun x y W => either1_any x y W) _ _ a b _ ((HA.on HB.out).on hres) ((HZ.on HB.out).on hres))
  have HX2 := HX.on hres
  have HY2 := hY.on hres
  have hc0 := HX2.c0
  have hc1 := HX2.c1
  have hc2 := HX2.c2
  have hc3 := HX2.c3
  have hd0 := HY2.c0
  have hd1' := HY2.c1
  have hd2' := HY2.c2
  have hd3 := HY2.c3
  have HW : Hid (w1 = (w.alloc (.cells #[.int .i64 L, .int .i64 s, .slice A a.next.length c, .slice F a.fin.length cf] 26)).alloc (.cells #[.int .i64 M, .int .i64 t, .slice C b.next.length d, .slice G b.fin.length cg] 26)) := by
    rw [← hwx]; exact hw1
  clear hwx hw1 hBx hB1 hX hY hd1 hd2 hs1 hs2 ha hb hres HX HX2 HY2 HA HZ
  generalize a.next.length = n1 at *
  generalize a.fin.length = n2 at *
  generalize b.next.length = n3 at *
  generalize b.fin.length = n4 at *
  generalize prodOut eitherF a b = PO at *
  obtain ⟨po, en⟩ := PO
  simp only at HC ⊢
  generalize errV en = E at *
  go_enter Try.func10, Try.ntmps10
  go_wp2_with fail
  rw [← HW.out]
  refine HC.out.mono ?_
  rintro e w5 he
  obtain ⟨x, rfl, ho⟩ := he.out
  obtain ⟨nv, fv, A1, m1, c1, F1, m2, c2, rfl, rfl, rfl⟩ := ho.form
  have HH := Lib.hid (res_own HO.out ho rfl)
  have hO5 := HO.out.join (es1 := []) (fs1 := []) ((own_start _).on ho.below)
  obtain ⟨hr0, hf0⟩ := hO5.dcell (g := w.heap.size + 2) (l := zero4) (j := 0) (by simp) rfl
  obtain ⟨hr1, hf1⟩ := hO5.dcell (g := w.heap.size + 2) (l := zero4) (j := 1) (by simp) rfl
  obtain ⟨hr2, hf2⟩ := hO5.dcell (g := w.heap.size + 2) (l := zero4) (j := 2) (by simp) rfl
  obtain ⟨hr3, hf3⟩ := hO5.dcell (g := w.heap.size + 2) (l := zero4) (j := 3) (by simp) rfl
  clear he ho hO5 HC hc0 hc1 hc2 hc3 hd0 hd1' hd2' hd3
  go_wp2
  obtain ⟨k1, k3, k4, k5, k6⟩ := HH.out
  exact bodyPost_ret (results_dfa rfl _ rfl k3 k4 k5 k6) rfl ⟨_, rfl, k1.base HB.out⟩

def butF : Bool → Bool → Bool := fun x y => x && !y
end Go.Proofs.Ytnlkkfcjonchgaa.Df
