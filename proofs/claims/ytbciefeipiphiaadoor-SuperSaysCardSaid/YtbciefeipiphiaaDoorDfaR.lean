/- The walk of package dfa's product. -/
import Derived.Test.YtbciefeipiphiaaDoorExpl
import Derived.Handy
import Derived.Deep.Light
namespace Go.Proofs.YtbciefeipiphiaaDoor.Df
open Go.RowKit Go.IntWalk Go.Proofs.YtbciefeipiphiaaDoor.Wd Go.Proofs.YtbciefeipiphiaaDoor.Wo

theorem chkD2_ok {v z : Value} {a b : Aut} {w : World} (ha : DfaAt w w.heap.size v a) (hb : DfaAt w w.heap.size z b) (g : chkD2 a b = 0) :
    Calls Tryd.prog 47 #[v, z] w fun e w' => e = .returned .nilIface ∧ Below w.heap.size w w' :=
  (chkD2_any v z a b w ha hb).mono fun e w' ⟨he, hw⟩ => ⟨by rw [he.out, g]; rfl, hw⟩
theorem chkD2_bad {v z : Value} {a b : Aut} {w : World} (ha : DfaAt w w.heap.size v a) (hb : DfaAt w w.heap.size z b) {e0 : Nat} (g : chkD2 a b = e0 + 1) {x : Int} (hx : x = ((e0 + 1 : Nat) : Int)) :
    Calls Tryd.prog 47 #[v, z] w fun e w' => e = .returned (errI x) ∧ Below w.heap.size w w' :=
  (chkD2_any v z a b w ha hb).mono fun e w' ⟨he, hw⟩ => ⟨by rw [he.out, g, hx]; rfl, hw⟩
/-- What a step of a state reads. -/
theorem DfaIs.step_at {w : World} {B : Nat} {L s : Int} {A F : Option Addr} {c cf : Nat} {d : Aut} (h : DfaIs w B L s A c F cf d) (g : Good d) {q i : Nat} (hq : q < d.next.length) (hi : (i : Int) < d.L) :
    ∃ ad ar m cr, A = some ad ∧ ad.block < B ∧ w.cell? (ad.add q) = some (.slice (some ar) m cr) ∧ i < m ∧ ar.block < B ∧ w.cell? (ar.add i) = some (.int .i64 ((step d q i : Nat) : Int)) := by
  obtain ⟨r, hr, _, hl, hra, _⟩ := g.at_ hq hi
  obtain ⟨ad, A', c', e, h1, h2, _, _, h5⟩ := h.rows q r hr
  obtain ⟨ar, e2, h6, h7, h8⟩ := h5.get hra
  subst e2
  exact ⟨ad, ar, r.length, c', e, h1, h2, h8, h6, h7⟩

/-- What a callee has made is laid into the result's own block. -/
theorem res_own {w W w5 w6 : World} {gr : Nat} {nv fv : Value} {L s : Int} {d : Aut} (h0 : Own w W [eDfa gr zero4] []) (h : DfaOwn W w5 (.agg #[.int .i64 L, .int .i64 s, nv, fv]) d)
    (hw : w6 = (((w5.setCell ⟨gr, 0, none⟩ (.int .i64 L)).setCell ⟨gr, 1, none⟩ (.int .i64 s)).setCell ⟨gr, 2, none⟩ nv).setCell ⟨gr, 3, none⟩ fv) :
    DfaOwn w w6 (.agg #[.int .i64 L, .int .i64 s, nv, fv]) d ∧
      w6.cell? ⟨gr, 0, none⟩ = some (.int .i64 L) ∧ w6.cell? ⟨gr, 1, none⟩ = some (.int .i64 s) ∧ w6.cell? ⟨gr, 2, none⟩ = some nv ∧ w6.cell? ⟨gr, 3, none⟩ = some fv := by
  subst hw
  obtain ⟨nv', fv', rs, e, h2, h3, h4⟩ := h
  have h5 := h0.join h3
  have h6 := (((h5.dset 0 (.int .i64 L)).dset 1 (.int .i64 s)).dset 2 nv).dset 3 fv
  refine ⟨⟨nv', fv', rs, e, h2, h6.tail.weak (fun e he => by simpa using he), h4⟩,
    (h6.dcell (g := gr) (l := [.int .i64 L, .int .i64 s, nv, fv]) (by simp) rfl).1, (h6.dcell (g := gr) (l := [.int .i64 L, .int .i64 s, nv, fv]) (by simp) rfl).1, (h6.dcell (g := gr) (l := [.int .i64 L, .int .i64 s, nv, fv]) (by simp) rfl).1, (h6.dcell (g := gr) (l := [.int .i64 L, .int .i64 s, nv, fv]) (by simp) rfl).1⟩
theorem res_own_new {w W w5 w6 : World} {gr : Nat} {nv fv : Value} {L s : Int} {d : Aut} (h0 : Own w W [eDfa gr zero4] []) (h : DfaNew W w5 (.agg #[.int .i64 L, .int .i64 s, nv, fv]) d)
    (hw : w6 = (((w5.setCell ⟨gr, 0, none⟩ (.int .i64 L)).setCell ⟨gr, 1, none⟩ (.int .i64 s)).setCell ⟨gr, 2, none⟩ nv).setCell ⟨gr, 3, none⟩ fv) :
    DfaNew w w6 (.agg #[.int .i64 L, .int .i64 s, nv, fv]) d ∧
      w6.cell? ⟨gr, 0, none⟩ = some (.int .i64 L) ∧ w6.cell? ⟨gr, 1, none⟩ = some (.int .i64 s) ∧ w6.cell? ⟨gr, 2, none⟩ = some nv ∧ w6.cell? ⟨gr, 3, none⟩ = some fv := by
  subst hw
  obtain ⟨nv', fv', rs, e, h2, h3, h4⟩ := h
  have h5 : Own w w5 (eDfa gr zero4 :: (eRows nv' (rs.map (·.1)) :: eBools fv' d.fin :: eEach rs)) [] := (h0.join h3).perm (List.perm_append_singleton _ _)
  have h6 := (((h5.dset 0 (.int .i64 L)).dset 1 (.int .i64 s)).dset 2 nv).dset 3 fv
  refine ⟨⟨nv', fv', rs, e, h2, h6.tail, h4⟩,
    (h6.dcell (g := gr) (l := [.int .i64 L, .int .i64 s, nv, fv]) (by simp) rfl).1, (h6.dcell (g := gr) (l := [.int .i64 L, .int .i64 s, nv, fv]) (by simp) rfl).1, (h6.dcell (g := gr) (l := [.int .i64 L, .int .i64 s, nv, fv]) (by simp) rfl).1, (h6.dcell (g := gr) (l := [.int .i64 L, .int .i64 s, nv, fv]) (by simp) rfl).1⟩
theorem DfaNew.at_ {w w' : World} {x : Value} {d : Aut} (h : DfaNew w w' x d) : DfaAt w' w'.heap.size x d := h.own.at_
theorem DfaNew.below {w w' : World} {x : Value} {d : Aut} (h : DfaNew w w' x d) : Below w.heap.size w w' := h.own.below
theorem DfaNew.on {w w' w2 : World} {x : Value} {d : Aut} (h : DfaNew w w' x d) (hb : Below w'.heap.size w' w2) : DfaNew w w2 x d := by
  obtain ⟨nv, fv, rs, h1, h2, h3, h4⟩ := h
  exact ⟨nv, fv, rs, h1, h2, h3.on hb, h4⟩
theorem DfaOwn.form {w w' : World} {x : Value} {d : Aut} (h : DfaOwn w w' x d) : ∃ nv fv A n c F m cf, x = .agg #[.int .i64 d.L, .int .i64 d.s, nv, fv] ∧ nv = .slice A n c ∧ fv = .slice F m cf := by
  have h7 := h.at_
  obtain ⟨nv, fv, rs, rfl, _⟩ := h
  obtain ⟨L, s, A, c, F, cf, e, _⟩ := h7
  simp only [Value.agg.injEq, Array.mk.injEq, List.cons.injEq, Value.int.injEq, true_and, and_true] at e
  exact ⟨nv, fv, A, _, c, F, _, cf, rfl, e.2.2.1, e.2.2.2⟩

/-! ### the steps and the flags of a product -/
theorem results_pair {fn : Func} {t : Tmp} (h : fn.results = #[.cell t 95]) (tmps : Array Value) {w : World} {g : Nat} {v0 v1 : Value} (hp : tmps.getD t undef = .pointer (some ⟨g, 0, none⟩))
    (c0 : w.cell? ⟨g, 0, none⟩ = some v0) (c1 : w.cell? ⟨g, 1, none⟩ = some v1) : (results fn tmps).run Tryd.prog w = .ok (.agg #[v0, v1]) w := by
  have hp' : tmps[t]?.getD undef = .pointer (some ⟨g, 0, none⟩) := by simpa using hp
  simp [results, h, hp', go_sem, c0, c1]
theorem next1_call (args : Array Value) (W : World) : (callFunc 59 args).run Tryd.prog W = .ok (.enter 59 args) W := by
  have hn : ¬ Tryd.f59.name = "runtime.NumGoroutine" := of_decide_eq_false (by kernel_rfl)
  have hb : ¬ Tryd.f59.body = none := fun h => by
    have : Tryd.f59.body.isSome = true := by kernel_rfl
    rw [h] at this; cases this
  simp [callFunc, go_sem, hn, hb]
theorem fin2_call (args : Array Value) (W : World) : (callFunc 61 args).run Tryd.prog W = .ok (.enter 61 args) W := by
  have hn : ¬ Tryd.f61.name = "runtime.NumGoroutine" := of_decide_eq_false (by kernel_rfl)
  have hb : ¬ Tryd.f61.body = none := fun h => by
    have : Tryd.f61.body.isSome = true := by kernel_rfl
    rw [h] at this; cases this
  simp [callFunc, go_sem, hn, hb]
set_option maxRecDepth 100000 in
set_option maxHeartbeats 2000000 in
theorem next1_any {w : World} {ga gb : Nat} {L s M t : Int} {A C F G : Option Addr} {ca cb cf cg na nb fa fb : Nat} {a b : Aut} (hX : Boxed w ga L s A na ca F fa cf) (hY : Boxed w gb M t C nb cb G fb cg) (hDA : DfaIs w w.heap.size L s A ca F cf a) (hDB : DfaIs w w.heap.size M t C cb G cg b)
    (hna : a.next.length = na) (hnb : b.next.length = nb) (hg : Good2 a b) (x y : Nat) (hx : x < a.next.length) (hy : y < b.next.length) (q : Nat) (hq : (q : Int) < a.L) :
    Calls Tryd.prog 59 #[.agg #[.int .i64 ((x : Nat) : Int), .int .i64 ((y : Nat) : Int)], .int .i64 ((q : Nat) : Int), .pointer (some ⟨ga, 0, none⟩), .pointer (some ⟨gb, 0, none⟩)] w
      fun e w' => e = .returned (.agg #[.int .i64 ((step a x q : Nat) : Int), .int .i64 ((step b y q : Nat) : Int)]) ∧ Below w.heap.size w w' := by
  obtain ⟨w1, hw1⟩ : ∃ w1, w1 = (w.alloc (.cells #[.int .i64 ((x : Nat) : Int), .int .i64 ((y : Nat) : Int)] 95)).alloc (.cells #[.int .i64 0, .int .i64 0] 95) := ⟨_, rfl⟩
  have hb1 : Below w.heap.size w w1 := by rw [hw1]; exact ((Below.refl _ _).alloc (Nat.le_refl _) _).alloc (by simp) _
  have ho : Own w w1 [⟨95, 2, .slice (some ⟨w.heap.size + 1, 0, none⟩) 1 1, 1, [.int .i64 0, .int .i64 0]⟩, ⟨95, 2, .slice (some ⟨w.heap.size, 0, none⟩) 1 1, 1, [.int .i64 ((x : Nat) : Int), .int .i64 ((y : Nat) : Int)]⟩] [] := by
    rw [hw1]
    have h2 := ((own_start w).lit 95 2 1 #[.int .i64 ((x : Nat) : Int), .int .i64 ((y : Nat) : Int)] rfl (by simp [maxLen])).lit 95 2 1 #[.int .i64 0, .int .i64 0] rfl (by simp [maxLen])
    simpa using h2
  obtain ⟨ada, ara, ma, cra, eA, ha0, ha1, ha2, ha3, ha4⟩ := (hDA.on hb1).step_at hg.ga (q := x) (i := q) hx hq
  obtain ⟨adb, arb, mb, crb, eB, hb0, hb1', hb2, hb3, hb4⟩ := (hDB.on hb1).step_at hg.gb (q := y) (i := q) hy (by rw [← hg.eL]; exact hq)
  subst eA
  subst eB
  have hX1 := hX.on hb1
  have hY1 := hY.on hb1
  have hc2 := hX1.c2
  have hd2 := hY1.c2
  obtain ⟨hp0, _⟩ := ho.cell (t := 95) (sz := 2) (n := 1) (cap := 1) (g := w.heap.size) (xs := [.int .i64 ((x : Nat) : Int), .int .i64 ((y : Nat) : Int)]) (j := 0) (by simp) rfl
  obtain ⟨hp1, _⟩ := ho.cell (t := 95) (sz := 2) (n := 1) (cap := 1) (g := w.heap.size) (xs := [.int .i64 ((x : Nat) : Int), .int .i64 ((y : Nat) : Int)]) (j := 1) (by simp) rfl
  obtain ⟨hr0, hf0⟩ := ho.cell (t := 95) (sz := 2) (n := 1) (cap := 1) (g := w.heap.size + 1) (xs := [.int .i64 0, .int .i64 0]) (j := 0) (by simp) rfl
  obtain ⟨hr1, hf1⟩ := ho.cell (t := 95) (sz := 2) (n := 1) (cap := 1) (g := w.heap.size + 1) (xs := [.int .i64 0, .int .i64 0]) (j := 1) (by simp) rfl
  have e1 : (x : Int) < (na : Int) := by omega
  have e2 : (y : Int) < (nb : Int) := by omega
  have e3 : (q : Int) < (ma : Int) := by omega
  have e4 : (q : Int) < (mb : Int) := by omega
  have HO := Lib.hid ho
  have HW := Lib.hid hw1
  clear hX hY hDA hDB hg hx hy hq hX1 hY1 hw1 hb1 ho hna hnb
  generalize step a x q = sa at *
  generalize step b y q = sb at *
  go_enter Tryd.func59, Tryd.ntmps59
  go_wp2_with fail
  rw [← HW.out]
  clear HW
  have h2 := Own.set (t := 95) (sz := 2) (n := 1) (cap := 1) (g := w.heap.size + 1) (xs := [.int .i64 0, .int .i64 0]) HO.out 0 (.int .i64 ((sa : Nat) : Int))
  have h3 := Own.set (t := 95) (sz := 2) (n := 1) (cap := 1) (g := w.heap.size + 1) h2 1 (.int .i64 ((sb : Nat) : Int))
  have H3 := Lib.hid (h3.on (Below.refl _ _).drew)
  clear h2 h3
  go_region
  all_goals
    obtain ⟨hr2, _⟩ := H3.out.cell (t := 95) (sz := 2) (n := 1) (cap := 1) (g := w.heap.size + 1) (xs := [.int .i64 ((sa : Nat) : Int), .int .i64 ((sb : Nat) : Int)]) (j := 0) (by simp) rfl
    obtain ⟨hr3, _⟩ := H3.out.cell (t := 95) (sz := 2) (n := 1) (cap := 1) (g := w.heap.size + 1) (xs := [.int .i64 ((sa : Nat) : Int), .int .i64 ((sb : Nat) : Int)]) (j := 1) (by simp) rfl
    try go_wp2
    exact bodyPost_ret (results_pair rfl _ rfl hr2 hr3) rfl ⟨rfl, H3.out.below⟩
set_option maxRecDepth 100000 in
set_option maxHeartbeats 2000000 in
theorem fin2_any (f : Nat) (hcf : ∀ args W, (callFunc f args).run Tryd.prog W = .ok (.enter f args) W) (h : Bool → Bool → Bool)
    (hF : ∀ x y W, Calls Tryd.prog f #[.bool x, .bool y] W fun e w' => e = .returned (.bool (h x y)) ∧ w' = W) {w : World} {gf ga gb : Nat} {L s M t : Int} {A C F G : Option Addr} {ca cb cf cg na nb fa fb : Nat} {a b : Aut}
    (hf : w.cell? ⟨gf, 0, none⟩ = some (.func (.func f) #[] #[])) (hX : Boxed w ga L s A na ca F fa cf) (hY : Boxed w gb M t C nb cb G fb cg) (hDA : DfaIs w w.heap.size L s A ca F cf a) (hDB : DfaIs w w.heap.size M t C cb G cg b)
    (hfa : a.fin.length = fa) (hfb : b.fin.length = fb) (hg : Good2 a b) (x y : Nat) (hx : x < a.next.length) (hy : y < b.next.length) :
    Calls Tryd.prog 61 #[.agg #[.int .i64 ((x : Nat) : Int), .int .i64 ((y : Nat) : Int)], .pointer (some ⟨gf, 0, none⟩), .pointer (some ⟨ga, 0, none⟩), .pointer (some ⟨gb, 0, none⟩)] w
      fun e w' => e = .returned (.bool (h (finA a x) (finA b y))) ∧ Below w.heap.size w w' := by
  obtain ⟨w1, hw1⟩ : ∃ w1, w1 = w.alloc (.cells #[.int .i64 ((x : Nat) : Int), .int .i64 ((y : Nat) : Int)] 95) := ⟨_, rfl⟩
  have hb1 : Below w.heap.size w w1 := by rw [hw1]; exact below_alloc _ _
  have hp0 : w1.cell? ⟨w.heap.size, 0, none⟩ = some (.int .i64 ((x : Nat) : Int)) := by rw [hw1]; exact box_cell w _ _ 0
  have hp1 : w1.cell? ⟨w.heap.size, 1, none⟩ = some (.int .i64 ((y : Nat) : Int)) := by rw [hw1]; exact box_cell w _ _ 1
  obtain ⟨adf, eF, hadf, hcf1, hfl1⟩ := (hDA.on hb1).fins.at_ (hg.ga.fin_at hx)
  obtain ⟨adg, eG, hadg, hcg1, hfl2⟩ := (hDB.on hb1).fins.at_ (hg.gb.fin_at hy)
  subst eF
  subst eG
  have hc3 := (hX.on hb1).c3
  have hd3 := (hY.on hb1).c3
  have hf1 := (hb1.cell (p := ⟨gf, 0, none⟩) (World.block_lt_of_cell? w _ hf)).trans hf
  have e1 : (x : Int) < (fa : Int) := by omega
  have e2 : (y : Int) < (fb : Int) := by omega
  have HF := Lib.hid hF
  have HW := Lib.hid hw1
  have HB := Lib.hid hb1
  clear hX hY hDA hDB hg hx hy hw1 hb1 hfa hfb hf
  generalize finA a x = ba at *
  generalize finA b y = bb at *
  go_enter Tryd.func61, Tryd.ntmps61
  go_wp2_with fail
  rw [← HW.out]
  clear HW
  go_quiet (first | with_reducible exact Calls.quiet_of_same (HF.out _ _ _))
  go_wp2
  go_ret
  exact ⟨rfl, below_drewN HB.out _⟩
set_option maxRecDepth 100000 in
set_option maxHeartbeats 4000000 in
theorem prod_new (f : Nat) (hcf : ∀ args W, (callFunc f args).run Tryd.prog W = .ok (.enter f args) W) (h : Bool → Bool → Bool)
    (hF : ∀ x y W, Calls Tryd.prog f #[.bool x, .bool y] W fun e w' => e = .returned (.bool (h x y)) ∧ w' = W) (v z : Value) (a b : Aut) (w : World) (ha : DfaAt w w.heap.size v a) (hb : DfaAt w w.heap.size z b) :
    Calls Tryd.prog 36 #[v, z, .func (.func f) #[] #[]] w fun e w' => Hid (∃ x, e = .returned (.tuple #[x, errV (prodOut h a b).2]) ∧ DfaNew w w' x (prodOut h a b).1) := by
  have HA := ha
  have HZ := hb
  obtain ⟨L, s, A, c, F, cf, rfl, ha⟩ := ha
  obtain ⟨M, t, C, d, G, cg, rfl, hb⟩ := hb
  obtain ⟨wx, hwx, hBx, hX, hd1⟩ := box_dfa w ha
  obtain ⟨wy, hwy, hBy, hY, hd2⟩ := box_dfa wx (hb.on hBx)
  obtain ⟨w1, hw1⟩ : ∃ w1, w1 = wy.alloc (.cells #[.func (.func f) #[] #[]] 68) := ⟨_, rfl⟩
  have hs1 : wx.heap.size = w.heap.size + 1 := by rw [hwx]; simp
  have hs2 : wy.heap.size = w.heap.size + 1 + 1 := by rw [hwy]; simp [hs1]
  have hs3 : w1.heap.size = w.heap.size + 1 + 1 + 1 := by rw [hw1]; simp [hs2]
  have hB1 : Below wy.heap.size wy w1 := by rw [hw1]; exact below_alloc _ _
  have hf1 : w1.cell? ⟨wy.heap.size, 0, none⟩ = some (.func (.func f) #[] #[]) := by rw [hw1]; exact box_cell wy _ _ 0
  rw [hs1] at hY
  rw [hs2] at hf1
  have hBw : Below w.heap.size w w1 := hBx.trans ((hBy.trans (hB1.mono hBy.size)).mono hBx.size)
  have hres := below_alloc w1 (.cells #[.int .i64 0, .int .i64 0, .slice none 0 0, .slice none 0 0] 25)
  have HB := Lib.hid hBw
  have HX := Lib.hid (((hX.on hBy).on hB1).on hres)
  have HY := Lib.hid ((hY.on hB1).on hres)
  have HDA := Lib.hid (((hd1.on hBy).on hB1).on hres)
  have HDB := Lib.hid ((hd2.on hB1).on hres)
  have HFc := Lib.hid ((hres.cell (p := ⟨w.heap.size + 1 + 1, 0, none⟩) (by show w.heap.size + 1 + 1 < _; omega)).trans hf1)
  have HA := Lib.hid ((HA.on HB.out).on hres)
  have HZ := Lib.hid ((HZ.on HB.out).on hres)
  have HW : Hid (w1 = ((w.alloc (.cells #[.int .i64 L, .int .i64 s, .slice A a.next.length c, .slice F a.fin.length cf] 25)).alloc (.cells #[.int .i64 M, .int .i64 t, .slice C b.next.length d, .slice G b.fin.length cg] 25)).alloc (.cells #[.func (.func f) #[] #[]] 68)) := by
    rw [← hwx, ← hwy]; exact hw1
  have HO := Lib.hid ((own_start w1).dfa (.int .i64 0) (.int .i64 0) (.slice none 0 0) (.slice none 0 0))
  rw [hs3] at HO
  have HL : Hid (a.L = L ∧ a.s = s ∧ b.L = M ∧ b.s = t) := ⟨ha.eL, ha.es, hb.eL, hb.es⟩
  have HSz : Hid (w1.heap.size = w.heap.size + 1 + 1 + 1) := hs3
  have hc0 := HX.out.c0
  have hc1 := HX.out.c1
  have hc2 := HX.out.c2
  have hc3 := HX.out.c3
  have hd0 := HY.out.c0
  have hd1' := HY.out.c1
  have hd2' := HY.out.c2
  have hd3 := HY.out.c3
  clear hwx hwy hw1 hBx hBy hB1 hX hY hd1 hd2 hs1 hs2 hs3 ha hb hres hf1 hBw
  rcases g1 : chkD2 a b with _ | e0
  · have HC := Lib.hid (chkD2_ok HA.out HZ.out g1)
    have hG : Good2 a b := chkD2_iff.1 g1
    obtain ⟨hL, hs, hM, ht⟩ := HL.out
    obtain ⟨n, hn⟩ := Int.eq_ofNat_of_zero_le (show 0 ≤ L by have := hG.ga.l1; omega)
    obtain ⟨p0, hp0⟩ := Int.eq_ofNat_of_zero_le (show 0 ≤ s by have := hG.ga.st.1; omega)
    obtain ⟨q0, hq0⟩ := Int.eq_ofNat_of_zero_le (show 0 ≤ t by have := hG.gb.st.1; omega)
    have HS0 : Hid (start2 a b = (p0, q0)) := by unfold start2 Hid; rw [hs, ht, hp0, hq0]; rfl
    have hn1 : 1 ≤ n := by have := hG.ga.l1; omega
    have hn6 : n ≤ 6 := by have := hG.ga.l6; omega
    have hN : a.L = (n : Int) := by rw [hL, hn]
    have HPO : Hid (prodOut h a b = explOut (n : Int) (S2 a b) (p0, q0) (fun p => h (finA a p.1) (finA b p.2))) := by rw [Hid, prodOut_expl g1, hN, HS0.out]
    have hlt : ∀ x, Rch (S2 a b) (p0, q0) x → x.1 < a.next.length ∧ x.2 < b.next.length := fun x hx => rch_lt hG (by rw [HS0.out]; exact hx)
    have hlen : ∀ x, (S2 a b x).length = n := fun x => by rw [S2_length, hN]; rfl
    have HE := Lib.hid (fun (W : World) (hW : Below (w1.alloc (.cells #[.int .i64 0, .int .i64 0, .slice none 0 0, .slice none 0 0] 25)).heap.size (w1.alloc (.cells #[.int .i64 0, .int .i64 0, .slice none 0 0, .slice none 0 0] 25)) W) =>
      explP_new 59 61 next1_call fin2_call (.pointer (some ⟨w.heap.size, 0, none⟩)) (.pointer (some ⟨w.heap.size + 1, 0, none⟩)) (.pointer (some ⟨w.heap.size + 1 + 1, 0, none⟩)) (.pointer (some ⟨w.heap.size, 0, none⟩)) (.pointer (some ⟨w.heap.size + 1, 0, none⟩))
        (S2 a b) (p0, q0) (fun p => h (finA a p.1) (finA b p.2)) n W hn1 hn6 hlen (fun x hx => by have := hlt x hx; have := hG.ga.n40; have := hG.gb.n40; omega)
        (fun x hx q y hy W2 hW2 => by
          have hq : (q : Int) < a.L := by
            have := (List.getElem?_eq_some_iff.1 hy).1
            rw [hlen] at this; omega
          rw [S2_get a b x hq] at hy
          obtain rfl := Option.some.inj hy
          have hlx := hlt x hx
          exact next1_any ((HX.out.on hW).on hW2) ((HY.out.on hW).on hW2) ((HDA.out.on hW).on hW2) ((HDB.out.on hW).on hW2) rfl rfl hG x.1 x.2 hlx.1 hlx.2 q hq)
        (fun x hx W2 hW2 => by
          have hlx := hlt x hx
          exact fin2_any f hcf h hF ((hW2.cell (p := ⟨w.heap.size + 1 + 1, 0, none⟩) (World.block_lt_of_cell? W _ ((hW.cell (p := ⟨w.heap.size + 1 + 1, 0, none⟩) (World.block_lt_of_cell? _ _ HFc.out)).trans HFc.out))).trans ((hW.cell (p := ⟨w.heap.size + 1 + 1, 0, none⟩) (World.block_lt_of_cell? _ _ HFc.out)).trans HFc.out)) ((HX.out.on hW).on hW2) ((HY.out.on hW).on hW2) ((HDA.out.on hW).on hW2) ((HDB.out.on hW).on hW2) rfl rfl hG x.1 x.2 hlx.1 hlx.2))
    clear hL hs hM ht g1 HL HA HZ hlt hlen hN hG HS0 hF
    subst hn hp0 hq0
    generalize a.next.length = n1 at *
    generalize a.fin.length = n2 at *
    generalize b.next.length = n3 at *
    generalize b.fin.length = n4 at *
    rw [← HPO.out] at HE
    clear HPO
    generalize prodOut h a b = PO at *
    obtain ⟨po, en⟩ := PO
    simp only at HE ⊢
    generalize errV en = E at *
    go_enter Tryd.func36, Tryd.ntmps36
    go_wp2_with fail
    rw [← HW.out]
    clear HW
    refine HC.out.mono ?_
    rintro e w2 ⟨rfl, hb⟩
    have HX3 := Lib.hid (HX.out.on hb)
    have HY3 := Lib.hid (HY.out.on hb)
    have HO2 := Lib.hid (HO.out.on hb)
    have HE2 := Lib.hid (HE.out _ hb)
    clear hc0 hc1 hc2 hc3 hd0 hd1' hd2' hd3 HX HY HO hb HC HE
    have hc0 := HX3.out.c0
    have hc1 := HX3.out.c1
    have hd1' := HY3.out.c1
    go_wp2_with fail
    refine HE2.out.mono ?_
    rintro e w5 he
    obtain ⟨x, rfl, ho⟩ := he.out
    obtain ⟨nv, fv, A1, m1, c1, F1, m2, c2, rfl, rfl, rfl⟩ := ho.own.form
    have HH := Lib.hid (res_own_new HO2.out ho rfl)
    have hO5 := HO2.out.join (es1 := []) (fs1 := []) ((own_start _).on ho.below)
    obtain ⟨hr0, hf0⟩ := hO5.dcell (g := w.heap.size + 1 + 1 + 1) (l := zero4) (j := 0) (by simp) rfl
    obtain ⟨hr1, hf1⟩ := hO5.dcell (g := w.heap.size + 1 + 1 + 1) (l := zero4) (j := 1) (by simp) rfl
    obtain ⟨hr2, hf2⟩ := hO5.dcell (g := w.heap.size + 1 + 1 + 1) (l := zero4) (j := 2) (by simp) rfl
    obtain ⟨hr3, hf3⟩ := hO5.dcell (g := w.heap.size + 1 + 1 + 1) (l := zero4) (j := 3) (by simp) rfl
    clear he ho hO5 hc0 hc1 hd1'
    go_wp2
    obtain ⟨k1, k3, k4, k5, k6⟩ := HH.out
    exact bodyPost_ret (results_dfa rfl _ rfl k3 k4 k5 k6) rfl ⟨_, rfl, k1.base HB.out⟩
  · have HC := Lib.hid (chkD2_bad HA.out HZ.out g1 rfl)
    have HNo : Hid (prodOut h a b = (zeroA, e0 + 1)) := by unfold Hid; rw [prodOut_bad (by omega), g1]
    clear g1 HL HX HY HDA HDB HA HZ HFc
    generalize a.next.length = na at *
    generalize a.fin.length = fa at *
    generalize b.next.length = nb at *
    generalize b.fin.length = fb at *
    generalize hE : ((e0 + 1 : Nat) : Int) = E at *
    have HE := Lib.hid hE
    clear hE
    go_enter Tryd.func36, Tryd.ntmps36
    go_wp2_with fail
    rw [← HW.out]
    refine HC.out.mono ?_
    rintro e w2 ⟨rfl, hb⟩
    have HO2 := Lib.hid (HO.out.on hb)
    obtain ⟨hr0, hf0⟩ := HO2.out.dcell (g := w.heap.size + 1 + 1 + 1) (l := zero4) (j := 0) (by simp) rfl
    obtain ⟨hr1, hf1⟩ := HO2.out.dcell (g := w.heap.size + 1 + 1 + 1) (l := zero4) (j := 1) (by simp) rfl
    obtain ⟨hr2, hf2⟩ := HO2.out.dcell (g := w.heap.size + 1 + 1 + 1) (l := zero4) (j := 2) (by simp) rfl
    obtain ⟨hr3, hf3⟩ := HO2.out.dcell (g := w.heap.size + 1 + 1 + 1) (l := zero4) (j := 3) (by simp) rfl
    clear hb HC hc0 hc1 hc2 hc3 hd0 hd1' hd2' hd3
    have HEnd := Lib.hid (res_bad HO2.out rfl)
    go_wp2
    obtain ⟨k2, k3, k4, k5, k6⟩ := HEnd.out
    refine bodyPost_ret (results_dfa rfl _ rfl k3 k4 k5 k6) rfl ⟨_, by rw [HNo.out, errV_succ, HE.out]; rfl, by rw [HNo.out]; exact dfaNew_zero (HB.out.trans (k2.mono HB.out.size))⟩
end Go.Proofs.YtbciefeipiphiaaDoor.Df
