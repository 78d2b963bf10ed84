/- The walks of package safe's Prefixes, Rest, Always, Ever and Class, and their contracts for laws. -/
import Derived.Test.YtciopfiddfmckaaDoorSafeW
namespace Go.Proofs.YtciopfiddfmckaaDoor.Sa
open Go.RowKit Go.IntWalk Go.Proofs.YtciopfiddfmckaaDoor.Wd Go.Proofs.YtciopfiddfmckaaDoor.Wo Go.Proofs.YtciopfiddfmckaaDoor.Df Go.Proofs.YtciopfiddfmckaaDoor.Rc Go.Proofs.YtciopfiddfmckaaDoor.Sm Go.Proofs.YtciopfiddfmckaaDoor.Mp

/-! ### the function literals -/
set_option maxRecDepth 100000 in
theorem pre1_any (x y : Bool) (w : World) : Calls Tryd.prog 30 #[.bool x, .bool y] w fun e w' => e = .returned (.bool (preF x y)) ∧ w' = w := by
  rcases x with _ | _ <;> rcases y with _ | _
  all_goals
    go_enter Tryd.func30, Tryd.ntmps30
    go_wp2
    go_ret
    exact ⟨rfl, rfl⟩
theorem pre1_call (args : Array Value) (W : World) : (callFunc 30 args).run Tryd.prog W = .ok (.enter 30 args) W := by
  have hn : ¬ Tryd.f30.name = "runtime.NumGoroutine" := of_decide_eq_false (by kernel_rfl)
  have hb : ¬ Tryd.f30.body = none := fun h => by
    have : Tryd.f30.body.isSome = true := by kernel_rfl
    rw [h] at this; cases this
  simp [callFunc, go_sem, hn, hb]
set_option maxRecDepth 100000 in
theorem rest1_any (x y : Bool) (w : World) : Calls Tryd.prog 32 #[.bool x, .bool y] w fun e w' => e = .returned (.bool (restF x y)) ∧ w' = w := by
  rcases x with _ | _ <;> rcases y with _ | _
  all_goals
    go_enter Tryd.func32, Tryd.ntmps32
    go_wp2
    go_ret
    exact ⟨rfl, rfl⟩
theorem rest1_call (args : Array Value) (W : World) : (callFunc 32 args).run Tryd.prog W = .ok (.enter 32 args) W := by
  have hn : ¬ Tryd.f32.name = "runtime.NumGoroutine" := of_decide_eq_false (by kernel_rfl)
  have hb : ¬ Tryd.f32.body = none := fun h => by
    have : Tryd.f32.body.isSome = true := by kernel_rfl
    rw [h] at this; cases this
  simp [callFunc, go_sem, hn, hb]
set_option maxRecDepth 100000 in
set_option maxHeartbeats 1000000 in
theorem pre_any (v : Value) (d : Aut) (w : World) (h : DfaAt w w.heap.size v d) :
    Calls Tryd.prog 9 #[v] w fun e w' => Hid (∃ x, e = .returned (.tuple #[x, errV (mkO (judge preF) d).2]) ∧ DfaOwn w w' x (mkO (judge preF) d).1) := by
  have HA := h
  obtain ⟨L, s, A, c, F, cf, rfl, h⟩ := h
  obtain ⟨w1, hw1, hB1, hX, hd1⟩ := box_dfa w h
  have hs1 : w1.heap.size = w.heap.size + 1 := by rw [hw1]; simp
  have hres := below_alloc w1 (.cells #[.int .i64 0, .int .i64 0, .slice none 0 0, .slice none 0 0] 25)
  have HB := Lib.hid hB1
  have HO := Lib.hid ((own_start w1).dfa (.int .i64 0) (.int .i64 0) (.slice none 0 0) (.slice none 0 0))
  rw [hs1] at HO
  have HC := Lib.hid (judged_any 30 pre1_call preF pre1_any _ d _ ((HA.on hB1).on hres))
  have hX2 := hX.on hres
  have hc0 := hX2.c0
  have hc1 := hX2.c1
  have hc2 := hX2.c2
  have hc3 := hX2.c3
  have HW := Lib.hid hw1
  clear hw1 hB1 hX hd1 hs1 h hres hX2 HA
  generalize d.next.length = n1 at *
  generalize d.fin.length = n2 at *
  generalize mkO (judge preF) d = PO at *
  obtain ⟨po, en⟩ := PO
  simp only at HC ⊢
  generalize errV en = E at *
  go_enter Tryd.func9, Tryd.ntmps9
  go_wp2_with fail
  rw [← HW.out]
  refine HC.out.mono ?_
  rintro e w5 he
  obtain ⟨x, rfl, ho⟩ := he.out
  obtain ⟨nv, fv, A1, m1, c1, F1, m2, c2, rfl, rfl, rfl⟩ := ho.form
  have HH := Lib.hid (res_own HO.out ho rfl)
  have hO5 := HO.out.join (es1 := []) (fs1 := []) ((own_start _).on ho.below)
  obtain ⟨hr0, hf0⟩ := hO5.dcell (g := w.heap.size + 1) (l := zero4) (j := 0) (by simp) rfl
  obtain ⟨hr1, hf1⟩ := hO5.dcell (g := w.heap.size + 1) (l := zero4) (j := 1) (by simp) rfl
  obtain ⟨hr2, hf2⟩ := hO5.dcell (g := w.heap.size + 1) (l := zero4) (j := 2) (by simp) rfl
  obtain ⟨hr3, hf3⟩ := hO5.dcell (g := w.heap.size + 1) (l := zero4) (j := 3) (by simp) rfl
  clear he ho hO5 HC hc0 hc1 hc2 hc3
  go_wp2
  obtain ⟨k1, k3, k4, k5, k6⟩ := HH.out
  exact bodyPost_ret (results_dfa rfl _ rfl k3 k4 k5 k6) rfl ⟨_, rfl, k1.base HB.out⟩
set_option maxRecDepth 100000 in
set_option maxHeartbeats 1000000 in
theorem rest_any (v : Value) (d : Aut) (w : World) (h : DfaAt w w.heap.size v d) :
    Calls Tryd.prog 12 #[v] w fun e w' => Hid (∃ x, e = .returned (.tuple #[x, errV (mkO (judge restF) d).2]) ∧ DfaOwn w w' x (mkO (judge restF) d).1) := by
  have HA := h
  obtain ⟨L, s, A, c, F, cf, rfl, h⟩ := h
  obtain ⟨w1, hw1, hB1, hX, hd1⟩ := box_dfa w h
  have hs1 : w1.heap.size = w.heap.size + 1 := by rw [hw1]; simp
  have hres := below_alloc w1 (.cells #[.int .i64 0, .int .i64 0, .slice none 0 0, .slice none 0 0] 25)
  have HB := Lib.hid hB1
  have HO := Lib.hid ((own_start w1).dfa (.int .i64 0) (.int .i64 0) (.slice none 0 0) (.slice none 0 0))
  rw [hs1] at HO
  have HC := Lib.hid (judged_any 32 rest1_call restF rest1_any _ d _ ((HA.on hB1).on hres))
  have hX2 := hX.on hres
  have hc0 := hX2.c0
  have hc1 := hX2.c1
  have hc2 := hX2.c2
  have hc3 := hX2.c3
  have HW := Lib.hid hw1
  clear hw1 hB1 hX hd1 hs1 h hres hX2 HA
  generalize d.next.length = n1 at *
  generalize d.fin.length = n2 at *
  generalize mkO (judge restF) d = PO at *
  obtain ⟨po, en⟩ := PO
  simp only at HC ⊢
  generalize errV en = E at *
  go_enter Tryd.func12, Tryd.ntmps12
  go_wp2_with fail
  rw [← HW.out]
  refine HC.out.mono ?_
  rintro e w5 he
  obtain ⟨x, rfl, ho⟩ := he.out
  obtain ⟨nv, fv, A1, m1, c1, F1, m2, c2, rfl, rfl, rfl⟩ := ho.form
  have HH := Lib.hid (res_own HO.out ho rfl)
  have hO5 := HO.out.join (es1 := []) (fs1 := []) ((own_start _).on ho.below)
  obtain ⟨hr0, hf0⟩ := hO5.dcell (g := w.heap.size + 1) (l := zero4) (j := 0) (by simp) rfl
  obtain ⟨hr1, hf1⟩ := hO5.dcell (g := w.heap.size + 1) (l := zero4) (j := 1) (by simp) rfl
  obtain ⟨hr2, hf2⟩ := hO5.dcell (g := w.heap.size + 1) (l := zero4) (j := 2) (by simp) rfl
  obtain ⟨hr3, hf3⟩ := hO5.dcell (g := w.heap.size + 1) (l := zero4) (j := 3) (by simp) rfl
  clear he ho hO5 HC hc0 hc1 hc2 hc3
  go_wp2
  obtain ⟨k1, k3, k4, k5, k6⟩ := HH.out
  exact bodyPost_ret (results_dfa rfl _ rfl k3 k4 k5 k6) rfl ⟨_, rfl, k1.base HB.out⟩
set_option maxRecDepth 100000 in
set_option maxHeartbeats 1000000 in
theorem always_any (v : Value) (d : Aut) (w : World) (h : DfaAt w w.heap.size v d) :
    Calls Tryd.prog 10 #[v] w fun e w' => Hid (∃ x, e = .returned (.tuple #[x, errV (mkO (stopA false) d).2]) ∧ DfaOwn w w' x (mkO (stopA false) d).1) := by
  have HA := h
  obtain ⟨L, s, A, c, F, cf, rfl, h⟩ := h
  obtain ⟨w1, hw1, hB1, hX, hd1⟩ := box_dfa w h
  have hs1 : w1.heap.size = w.heap.size + 1 := by rw [hw1]; simp
  have hres := below_alloc w1 (.cells #[.int .i64 0, .int .i64 0, .slice none 0 0, .slice none 0 0] 25)
  have HB := Lib.hid hB1
  have HO := Lib.hid ((own_start w1).dfa (.int .i64 0) (.int .i64 0) (.slice none 0 0) (.slice none 0 0))
  rw [hs1] at HO
  have HC := Lib.hid (stopped_any false _ d _ ((HA.on hB1).on hres))
  have hX2 := hX.on hres
  have hc0 := hX2.c0
  have hc1 := hX2.c1
  have hc2 := hX2.c2
  have hc3 := hX2.c3
  have HW := Lib.hid hw1
  clear hw1 hB1 hX hd1 hs1 h hres hX2 HA
  generalize d.next.length = n1 at *
  generalize d.fin.length = n2 at *
  generalize mkO (stopA false) d = PO at *
  obtain ⟨po, en⟩ := PO
  simp only at HC ⊢
  generalize errV en = E at *
  go_enter Tryd.func10, Tryd.ntmps10
  go_wp2_with fail
  rw [← HW.out]
  refine HC.out.mono ?_
  rintro e w5 he
  obtain ⟨x, rfl, ho⟩ := he.out
  obtain ⟨nv, fv, A1, m1, c1, F1, m2, c2, rfl, rfl, rfl⟩ := ho.form
  have HH := Lib.hid (res_own HO.out ho rfl)
  have hO5 := HO.out.join (es1 := []) (fs1 := []) ((own_start _).on ho.below)
  obtain ⟨hr0, hf0⟩ := hO5.dcell (g := w.heap.size + 1) (l := zero4) (j := 0) (by simp) rfl
  obtain ⟨hr1, hf1⟩ := hO5.dcell (g := w.heap.size + 1) (l := zero4) (j := 1) (by simp) rfl
  obtain ⟨hr2, hf2⟩ := hO5.dcell (g := w.heap.size + 1) (l := zero4) (j := 2) (by simp) rfl
  obtain ⟨hr3, hf3⟩ := hO5.dcell (g := w.heap.size + 1) (l := zero4) (j := 3) (by simp) rfl
  clear he ho hO5 HC hc0 hc1 hc2 hc3
  go_wp2
  obtain ⟨k1, k3, k4, k5, k6⟩ := HH.out
  exact bodyPost_ret (results_dfa rfl _ rfl k3 k4 k5 k6) rfl ⟨_, rfl, k1.base HB.out⟩
set_option maxRecDepth 100000 in
set_option maxHeartbeats 1000000 in
theorem ever_any (v : Value) (d : Aut) (w : World) (h : DfaAt w w.heap.size v d) :
    Calls Tryd.prog 11 #[v] w fun e w' => Hid (∃ x, e = .returned (.tuple #[x, errV (mkO (stopA true) d).2]) ∧ DfaOwn w w' x (mkO (stopA true) d).1) := by
  have HA := h
  obtain ⟨L, s, A, c, F, cf, rfl, h⟩ := h
  obtain ⟨w1, hw1, hB1, hX, hd1⟩ := box_dfa w h
  have hs1 : w1.heap.size = w.heap.size + 1 := by rw [hw1]; simp
  have hres := below_alloc w1 (.cells #[.int .i64 0, .int .i64 0, .slice none 0 0, .slice none 0 0] 25)
  have HB := Lib.hid hB1
  have HO := Lib.hid ((own_start w1).dfa (.int .i64 0) (.int .i64 0) (.slice none 0 0) (.slice none 0 0))
  rw [hs1] at HO
  have HC := Lib.hid (stopped_any true _ d _ ((HA.on hB1).on hres))
  have hX2 := hX.on hres
  have hc0 := hX2.c0
  have hc1 := hX2.c1
  have hc2 := hX2.c2
  have hc3 := hX2.c3
  have HW := Lib.hid hw1
  clear hw1 hB1 hX hd1 hs1 h hres hX2 HA
  generalize d.next.length = n1 at *
  generalize d.fin.length = n2 at *
  generalize mkO (stopA true) d = PO at *
  obtain ⟨po, en⟩ := PO
  simp only at HC ⊢
  generalize errV en = E at *
  go_enter Tryd.func11, Tryd.ntmps11
  go_wp2_with fail
  rw [← HW.out]
  refine HC.out.mono ?_
  rintro e w5 he
  obtain ⟨x, rfl, ho⟩ := he.out
  obtain ⟨nv, fv, A1, m1, c1, F1, m2, c2, rfl, rfl, rfl⟩ := ho.form
  have HH := Lib.hid (res_own HO.out ho rfl)
  have hO5 := HO.out.join (es1 := []) (fs1 := []) ((own_start _).on ho.below)
  obtain ⟨hr0, hf0⟩ := hO5.dcell (g := w.heap.size + 1) (l := zero4) (j := 0) (by simp) rfl
  obtain ⟨hr1, hf1⟩ := hO5.dcell (g := w.heap.size + 1) (l := zero4) (j := 1) (by simp) rfl
  obtain ⟨hr2, hf2⟩ := hO5.dcell (g := w.heap.size + 1) (l := zero4) (j := 2) (by simp) rfl
  obtain ⟨hr3, hf3⟩ := hO5.dcell (g := w.heap.size + 1) (l := zero4) (j := 3) (by simp) rfl
  clear he ho hO5 HC hc0 hc1 hc2 hc3
  go_wp2
  obtain ⟨k1, k3, k4, k5, k6⟩ := HH.out
  exact bodyPost_ret (results_dfa rfl _ rfl k3 k4 k5 k6) rfl ⟨_, rfl, k1.base HB.out⟩
theorem pre_gives {W : World} {v : Value} {d : Aut} (h : DfaAt W W.heap.size v d) {E : Value} {r : Aut} {k : Nat} (hr : mkO preA d = (r, k)) (hE : errV k = E) : Gives 9 #[v] W E r :=
  gives_of (pre_any v d W h) (by rw [hr]; exact hE) (by rw [hr])
theorem rest_gives {W : World} {v : Value} {d : Aut} (h : DfaAt W W.heap.size v d) {E : Value} {r : Aut} {k : Nat} (hr : mkO restA d = (r, k)) (hE : errV k = E) : Gives 12 #[v] W E r :=
  gives_of (rest_any v d W h) (by rw [hr]; exact hE) (by rw [hr])
theorem always_gives {W : World} {v : Value} {d : Aut} (h : DfaAt W W.heap.size v d) {E : Value} {r : Aut} {k : Nat} (hr : mkO (stopA false) d = (r, k)) (hE : errV k = E) : Gives 10 #[v] W E r :=
  gives_of (always_any v d W h) (by rw [hr]; exact hE) (by rw [hr])
theorem ever_gives {W : World} {v : Value} {d : Aut} (h : DfaAt W W.heap.size v d) {E : Value} {r : Aut} {k : Nat} (hr : mkO (stopA true) d = (r, k)) (hE : errV k = E) : Gives 11 #[v] W E r :=
  gives_of (ever_any v d W h) (by rw [hr]; exact hE) (by rw [hr])
theorem preP_call (args : Array Value) (W : World) : (callFunc 9 args).run Tryd.prog W = .ok (.enter 9 args) W := by
  have hn : ¬ Tryd.f9.name = "runtime.NumGoroutine" := of_decide_eq_false (by kernel_rfl)
  have hb : ¬ Tryd.f9.body = none := fun h => by
    have : Tryd.f9.body.isSome = true := by kernel_rfl
    rw [h] at this; cases this
  simp [callFunc, go_sem, hn, hb]
theorem everE_call (args : Array Value) (W : World) : (callFunc 11 args).run Tryd.prog W = .ok (.enter 11 args) W := by
  have hn : ¬ Tryd.f11.name = "runtime.NumGoroutine" := of_decide_eq_false (by kernel_rfl)
  have hb : ¬ Tryd.f11.body = none := fun h => by
    have : Tryd.f11.body.isSome = true := by kernel_rfl
    rw [h] at this; cases this
  simp [callFunc, go_sem, hn, hb]

/-! ### the class -/
theorem same_out {a b : Aut} (g : Good2 a b) : sameOut a b = (same0 a b, (diffW a b a.s.toNat b.s.toNat).getD [], 0) := by
  unfold sameOut same0
  rw [if_pos (chkD2_iff.2 g)]
  rcases diffW a b a.s.toNat b.s.toNat with _ | u <;> rfl
/-- Same, the word left open. -/
theorem same_len0 {W : World} {v z : Value} {a b : Aut} (h : DfaAt W W.heap.size v a) (h2 : DfaAt W W.heap.size z b) {x : Bool} {l : List Int} {E : Value} (hr : sameOut a b = (x, l, 0)) (hE : errV 0 = E := by rfl) :
    Calls Tryd.prog 53 #[v, z] W fun e w' => ∃ A c, e = .returned (.tuple #[.bool x, .slice A l.length c, E]) ∧ True ∧ Below W.heap.size W w' :=
  (same_gives2 h h2 hr hE).mono fun _ _ ⟨A, c, h1, _, h3⟩ => ⟨A, c, h1, trivial, h3⟩
def stOut (K : Aut → Aut) (d : Aut) : Bool × Nat := if dchk d = 0 then (same0 d (K d), 0) else (false, dchk d)
set_option maxRecDepth 100000 in
set_option maxHeartbeats 2000000 in
theorem stays_any (f : Nat) (hcf : ∀ args W, (callFunc f args).run Tryd.prog W = .ok (.enter f args) W) (K : Aut → Aut) (hK : ∀ d, Df.Good d → Good2 d (K d))
    (hF : ∀ v d W, DfaAt W W.heap.size v d → Calls Tryd.prog f #[v] W fun e w' => Hid (∃ x, e = .returned (.tuple #[x, errV (mkO K d).2]) ∧ DfaOwn W w' x (mkO K d).1)) (v : Value) (d : Aut) (w : World) (h : DfaAt w w.heap.size v d) :
    Calls Tryd.prog 33 #[v, .func (.func f) #[] #[]] w fun e w' => Hid (e = .returned (.tuple #[.bool (stOut K d).1, errV (stOut K d).2])) ∧ Below w.heap.size w w' := by
  have HA := h
  obtain ⟨L, s, A, c, F, cf, rfl, h⟩ := h
  obtain ⟨w1, hw1, hB1, hX, hd1⟩ := box_dfa w h
  have HB := Lib.hid hB1
  have HX := Lib.hid hX
  have HV := Lib.hid (HA.on hB1)
  have HW := Lib.hid hw1
  have hc0 := hX.c0
  have hc1 := hX.c1
  have hc2 := hX.c2
  have hc3 := hX.c3
  have HC := Lib.hid (fun v W (hA : DfaAt W W.heap.size v d) => hF v d W hA)
  clear hF hw1 hB1 hX hd1 h HA
  rcases g1 : dchk d with _ | e0
  · have hg := dchk_iff.1 g1
    have hso := same_out (hK d hg)
    have HO : Hid (stOut K d = (same0 d (K d), 0)) := if_pos g1
    rw [mkO_ok hg] at HC
    have HS := Lib.hid (fun v z W (h : DfaAt W W.heap.size v d) (h2 : DfaAt W W.heap.size z (K d)) => same_len0 (E := .nilIface) h h2 hso)
    clear g1 hg hso hK
    generalize d.next.length = n1 at *
    generalize d.fin.length = n2 at *
    generalize K d = kd at *
    generalize same0 d kd = bb at *
    generalize (diffW d kd d.s.toNat kd.s.toNat).getD [] = U at *
    go_enter Tryd.func33, Tryd.ntmps33
    go_wp2_with fail
    rw [← HW.out]
    refine (HC.out _ _ HV.out).mono ?_
    rintro e w2 he
    obtain ⟨x, h1, ho⟩ := he.out
    obtain ⟨nv, fv, A1, m1, c1, F1, m2, c2, rfl, rfl, rfl⟩ := ho.form
    have h1 : e = .returned (.tuple #[.agg #[.int .i64 kd.L, .int .i64 kd.s, .slice A1 m1 c1, .slice F1 m2 c2], .nilIface]) := h1
    subst h1
    obtain ⟨w3, hw3, hbn, Vn⟩ := var_new w2 ho.at_
    have hb := ho.below
    have HX := Lib.hid ((HX.out.on hb).on hbn)
    have HV := Lib.hid ((HV.out.on hb).on hbn)
    have HB := Lib.hid (HB.out.trans ((hb.trans (hbn.mono hb.size)).mono HB.out.size))
    have HN := Lib.hid Vn
    have HW3 := Lib.hid hw3
    clear he ho hb hbn Vn HC hc0 hc1 hc2 hc3 hw3
    have hc0 := HX.out.c0
    have hc1 := HX.out.c1
    have hc2 := HX.out.c2
    have hc3 := HX.out.c3
    obtain ⟨q0, q1, q2, q3, q4⟩ := HN.out.box
    rw [HW3.out] at hc0 hc1 hc2 hc3 q1 q2 q3 q4
    go_wp2_with fail
    rw [← HW3.out]
    refine (HS.out _ _ _ HV.out HN.out.at_).mono ?_
    rintro e w4 ⟨Au, cu, rfl, _, hb⟩
    have HB := Lib.hid (HB.out.trans (hb.mono HB.out.size))
    clear hb HS hc0 hc1 hc2 hc3 q0 q1 q2 q3 q4
    go_wp2
    go_ret2
    exact ⟨by rw [HO.out]; rfl, HB.out⟩
  · have HO : Hid (stOut K d = (false, e0 + 1)) := by unfold Hid stOut; rw [if_neg (by omega), g1]
    rw [mkO_bad (by omega), g1] at HC
    clear g1 hK
    generalize d.next.length = n1 at *
    generalize d.fin.length = n2 at *
    simp only [errV_succ] at HC
    generalize hE : ((e0 + 1 : Nat) : Int) = E at *
    have HE := Lib.hid hE
    clear hE
    go_enter Tryd.func33, Tryd.ntmps33
    go_wp2_with fail
    rw [← HW.out]
    refine (HC.out _ _ HV.out).mono ?_
    rintro e w2 he
    obtain ⟨x, h1, ho⟩ := he.out
    obtain ⟨nv, fv, A1, m1, c1, F1, m2, c2, rfl, rfl, rfl⟩ := ho.form
    subst h1
    have HB := Lib.hid (HB.out.trans ((ho.below.trans ((below_alloc w2 (.cells #[.int .i64 zeroA.L, .int .i64 zeroA.s, .slice A1 m1 c1, .slice F1 m2 c2] 25)).mono ho.below.size)).mono HB.out.size))
    clear he ho HC hc0 hc1 hc2 hc3
    go_wp2
    go_ret2
    exact ⟨by rw [HO.out, errV_succ, HE.out]; rfl, HB.out⟩
def clsOut (d : Aut) : Nat × Nat := if dchk d = 0 then (classA d, 0) else (0, dchk d)
theorem clsOut_ok {d : Aut} (g : Df.Good d) : clsOut d = (classA d, 0) := if_pos (dchk_iff.2 g)
theorem clsOut_bad {d : Aut} (h : dchk d ≠ 0) : clsOut d = (0, dchk d) := if_neg h
set_option maxRecDepth 100000 in
set_option maxHeartbeats 2000000 in
theorem cls_any (v : Value) (d : Aut) (w : World) (h : DfaAt w w.heap.size v d) :
    Calls Tryd.prog 13 #[v] w fun e w' => Hid (e = .returned (.tuple #[.int .i64 ((clsOut d).1 : Int), errV (clsOut d).2])) ∧ Below w.heap.size w w' := by
  have HA := h
  obtain ⟨L, s, A, c, F, cf, rfl, h⟩ := h
  obtain ⟨w1, hw1, hB1, hX, hd1⟩ := box_dfa w h
  have HB := Lib.hid hB1
  have HX := Lib.hid hX
  have HV := Lib.hid (HA.on hB1)
  have HW := Lib.hid hw1
  have hc0 := hX.c0
  have hc1 := hX.c1
  have hc2 := hX.c2
  have hc3 := hX.c3
  have HP := Lib.hid (fun v W (hA : DfaAt W W.heap.size v d) => stays_any 9 preP_call (judge preF) (fun _ g => good2_judge g) pre_any v d W hA)
  have HE := Lib.hid (fun v W (hA : DfaAt W W.heap.size v d) => stays_any 11 everE_call (stopA true) (fun _ g => good2_stop g) ever_any v d W hA)
  clear hw1 hB1 hX hd1 h HA
  rcases g1 : dchk d with _ | e0
  · rw [show stOut (judge preF) d = (begunB d, 0) from if_pos g1] at HP
    rw [show stOut (stopA true) d = (goesB d, 0) from if_pos g1] at HE
    have HO : Hid (clsOut d = (clsN (begunB d) (goesB d), 0)) := if_pos g1
    clear g1
    generalize d.next.length = n1 at *
    generalize d.fin.length = n2 at *
    generalize begunB d = x at *
    generalize goesB d = y at *
    rcases x with _ | _ <;> rcases y with _ | _
    all_goals as_aux_lemma =>
      go_enter Tryd.func13, Tryd.ntmps13
      go_wp2_with fail
      rw [← HW.out]
      refine (HP.out _ _ HV.out).mono ?_
      rintro e w2 ⟨he, hb⟩
      have he := he.out
      simp only [errV] at he
      subst he
      have HX := Lib.hid (HX.out.on hb)
      have HV := Lib.hid (HV.out.on hb)
      have HB := Lib.hid (HB.out.trans (hb.mono HB.out.size))
      clear hb HP hc0 hc1 hc2 hc3
      have hc0 := HX.out.c0
      have hc1 := HX.out.c1
      have hc2 := HX.out.c2
      have hc3 := HX.out.c3
      go_wp2_with fail
      refine (HE.out _ _ HV.out).mono ?_
      rintro e w3 ⟨he, hb⟩
      have he := he.out
      simp only [errV] at he
      subst he
      have HB := Lib.hid (HB.out.trans (hb.mono HB.out.size))
      clear hb HE hc0 hc1 hc2 hc3
      go_wp2
      go_ret2
      exact ⟨by rw [HO.out]; rfl, HB.out⟩
  · rw [show stOut (judge preF) d = (false, e0 + 1) from by unfold stOut; rw [if_neg (by omega), g1]] at HP
    have HO : Hid (clsOut d = (0, e0 + 1)) := by unfold Hid; rw [clsOut_bad (by omega), g1]
    clear g1 HE
    simp only [errV_succ] at HP
    generalize d.next.length = n1 at *
    generalize d.fin.length = n2 at *
    generalize hE : ((e0 + 1 : Nat) : Int) = E at *
    have HE := Lib.hid hE
    clear hE
    go_enter Tryd.func13, Tryd.ntmps13
    go_wp2_with fail
    rw [← HW.out]
    refine (HP.out _ _ HV.out).mono ?_
    rintro e w2 ⟨he, hb⟩
    have he := he.out
    subst he
    have HB := Lib.hid (HB.out.trans (hb.mono HB.out.size))
    clear hb HP hc0 hc1 hc2 hc3
    go_wp2
    go_ret2
    exact ⟨by rw [HO.out, errV_succ, HE.out]; rfl, HB.out⟩
theorem cls_gives {W : World} {v : Value} {d : Aut} (h : DfaAt W W.heap.size v d) {n k : Nat} {E : Value} (hr : clsOut d = (n, k)) (hE : errV k = E) :
    Calls Tryd.prog 13 #[v] W fun e w' => e = .returned (.tuple #[.int .i64 (n : Int), E]) ∧ Below W.heap.size W w' :=
  (cls_any v d W h).mono fun e w' ⟨h1, h2⟩ => ⟨by rw [h1.out, hr, hE], h2⟩
end Go.Proofs.YtciopfiddfmckaaDoor.Sa
