/- The walk of package super's Kept. The walk of package super's whereProduced. -/
import Derived.Test.YtbciefeipiphiaaDoorSuperB
import Derived.Test.YtbciefeipiphiaaDoorSafeL

namespace Go.Proofs.YtbciefeipiphiaaDoor.Su
open Go.RowKit Go.IntWalk Go.Proofs.YtbciefeipiphiaaDoor.Wd Go.Proofs.YtbciefeipiphiaaDoor.Wo Go.Proofs.YtbciefeipiphiaaDoor.Df Go.Proofs.YtbciefeipiphiaaDoor.Rc Go.Proofs.YtbciefeipiphiaaDoor.Sm Go.Proofs.YtbciefeipiphiaaDoor.Sa Go.Proofs.YtbciefeipiphiaaDoor.Mp

theorem pre_ok {v : Value} {d : Aut} {w : World} (h : DfaAt w w.heap.size v d) (g : Df.Good d) :
    Calls Tryd.prog 27 #[v] w fun e w' => Hid (∃ x, e = .returned (.tuple #[x, .nilIface]) ∧ DfaOwn w w' x (preA d)) :=
  (pre_any v d w h).mono fun e w' he => by
    obtain ⟨x, h1, h2⟩ := he.out
    rw [mkO_ok g] at h1 h2
    exact ⟨x, h1, h2⟩
/-- Whether no free letter leads out; else the first word that does; the error. -/
noncomputable def keptO (P D : Aut) (free : Int) : Bool × List Int × Nat :=
  if plantE P D free = 0 then (match keptW P D free with | some u => (false, u, 0) | none => (true, [], 0)) else (false, [], plantE P D free)
theorem keptO_bad {P D : Aut} {free : Int} (h : plantE P D free ≠ 0) : keptO P D free = (false, [], plantE P D free) := if_neg h
theorem keptO_some {P D : Aut} {free : Int} (h : plantE P D free = 0) {u : List Int} (hu : keptW P D free = some u) : keptO P D free = (false, u, 0) := by unfold keptO; rw [if_pos h, hu]
theorem keptO_none {P D : Aut} {free : Int} (h : plantE P D free = 0) (hu : keptW P D free = none) : keptO P D free = (true, [], 0) := by unfold keptO; rw [if_pos h, hu]
/-- What Kept returns. -/
def KeptR (out : Bool × List Int × Nat) (w : World) (e : Ending) (w' : World) : Prop := ∃ wv, e = .returned (.tuple #[.bool out.1, wv, errV out.2.2]) ∧ Own w w' [] [eInts wv out.2.1]
set_option linter.unusedSimpArgs false in
set_option maxRecDepth 100000 in
set_option maxHeartbeats 4000000 in
theorem kept_any (v z : Value) (P D : Aut) (free : Int) (w : World) (ha : DfaAt w w.heap.size v P) (hb : DfaAt w w.heap.size z D) :
    Calls Tryd.prog 9 #[v, z, .int .i64 free] w fun e w' => Hid (KeptR (keptO P D free) w e w') := by
  have HA := Lib.hid ha
  have HZ := Lib.hid hb
  obtain ⟨L, s, A, c, F, cf, rfl, ha⟩ := ha
  obtain ⟨L', t, C, d, G, cg, rfl, hb⟩ := hb
  obtain ⟨wx, hwx, hBx, hX, hd1⟩ := box_dfa w ha
  obtain ⟨w1, hw1, hB1, hY, hd2⟩ := box_dfa wx (hb.on hBx)
  have hs1 : wx.heap.size = w.heap.size + 1 := by rw [hwx]; simp
  rw [hs1] at hY
  have hbb := hBx.trans (hB1.mono hBx.size)
  have HB := Lib.hid hbb
  have HX := Lib.hid (hX.on hB1)
  have HY := Lib.hid hY
  have HW : Hid (w1 = (w.alloc (.cells #[.int .i64 L, .int .i64 s, .slice A P.next.length c, .slice F P.fin.length cf] 25)).alloc (.cells #[.int .i64 L', .int .i64 t, .slice C D.next.length d, .slice G D.fin.length cg] 25)) := by
    rw [← hwx]; exact hw1
  have HA := Lib.hid (HA.out.on hbb)
  have HZ := Lib.hid (HZ.out.on hbb)
  have hc0 := HX.out.c0
  have hc1 := HX.out.c1
  have hc2 := HX.out.c2
  have hc3 := HX.out.c3
  have hd0 := HY.out.c0
  have hd1' := HY.out.c1
  have hd2' := HY.out.c2
  have hd3 := HY.out.c3
  clear hwx hw1 hBx hB1 hX hY hd1 hd2 hs1 ha hb hbb
  rcases g1 : plantE P D free with _ | e0
  · obtain ⟨hG, hf0, hf1⟩ := plantE_ok g1
    have HG := Lib.hid hG
    have HC := Lib.hid (scheck_ok HA.out HZ.out g1)
    have HSo : Hid (∀ u, keptW P D free = some u → keptO P D free = (false, u, 0)) := fun u hu => keptO_some g1 hu
    have HNo : Hid (keptW P D free = none → keptO P D free = (true, [], 0)) := fun hu => keptO_none g1 hu
    clear g1 hG
    generalize P.next.length = n1 at *
    generalize P.fin.length = n2 at *
    generalize D.next.length = n3 at *
    generalize D.fin.length = n4 at *
    go_enter Tryd.func9, Tryd.ntmps9
    go_wp2_with fail
    rw [← HW.out]
    clear HW
    refine HC.out.mono ?_
    rintro e w2 ⟨rfl, hb⟩
    have HB2 := Lib.hid (HB.out.trans (hb.mono HB.out.size))
    have HX2 := Lib.hid (HX.out.on hb)
    have HY2 := Lib.hid (HY.out.on hb)
    have HZ2 := Lib.hid (HZ.out.on hb)
    have HP := Lib.hid (pre_ok (HA.out.on hb) HG.out.ga)
    clear hb HC hc0 hc1 hc2 hc3 hd0 hd1' hd2' hd3 HX HY HA HZ HB
    have hc0 := HX2.out.c0
    have hc1 := HX2.out.c1
    have hc2 := HX2.out.c2
    have hc3 := HX2.out.c3
    go_wp2_with fail
    refine HP.out.mono ?_
    rintro e w3 he
    obtain ⟨x, rfl, ho⟩ := he.out
    obtain ⟨nv, fv, A1, m1, c1, F1, m2, c2, rfl, rfl, rfl⟩ := ho.form
    obtain ⟨w4, hw4⟩ : ∃ w4, w4 = w3.alloc (.cells #[.int .i64 (preA P).L, .int .i64 (preA P).s, .slice A1 m1 c1, .slice F1 m2 c2] 25) := ⟨_, rfl⟩
    have hb4 : Below w3.heap.size w3 w4 := by rw [hw4]; exact below_alloc _ _
    have HP4 := Lib.hid (ho.at_.on hb4)
    have HX4 : Hid (Boxed w4 w3.heap.size (preA P).L (preA P).s A1 m1 c1 F1 m2 c2) := by rw [hw4]; exact boxed_new _ _ _ _ _ _ _ _ _ _
    have hbb := ho.below.trans (hb4.mono ho.below.size)
    have HB4 := Lib.hid (HB2.out.trans (hbb.mono HB2.out.size))
    have HY4 := Lib.hid (HY2.out.on hbb)
    have HPD := Lib.hid (pre_ok (HZ2.out.on hbb) HG.out.gb)
    have hd0 := HY4.out.c0
    have hd1' := HY4.out.c1
    have hd2' := HY4.out.c2
    have hd3 := HY4.out.c3
    have HW4 := Lib.hid hw4
    rw [hw4] at hd0 hd1' hd2' hd3
    clear he ho HP hw4 hb4 hbb hc0 hc1 hc2 hc3 HX2 HY2 HZ2 HB2
    go_wp2_with fail
    rw [← HW4.out]
    clear hd0 hd1' hd2' hd3 HW4
    refine HPD.out.mono ?_
    rintro e w5 he
    obtain ⟨y, rfl, ho⟩ := he.out
    obtain ⟨nv5, fv5, A5, m5, c5, F5, m6, c6, rfl, rfl, rfl⟩ := ho.form
    obtain ⟨w6, hw6⟩ : ∃ w6, w6 = w5.alloc (.cells #[.int .i64 (preA D).L, .int .i64 (preA D).s, .slice A5 m5 c5, .slice F5 m6 c6] 25) := ⟨_, rfl⟩
    have hb6 : Below w5.heap.size w5 w6 := by rw [hw6]; exact below_alloc _ _
    have HD6 := Lib.hid (ho.at_.on hb6)
    have hY6 : Boxed w6 w5.heap.size (preA D).L (preA D).s A5 m5 c5 F5 m6 c6 := by rw [hw6]; exact boxed_new _ _ _ _ _ _ _ _ _ _
    have hbb := ho.below.trans (hb6.mono ho.below.size)
    have HB6 := Lib.hid (HB4.out.trans (hbb.mono HB4.out.size))
    have hX6 := HX4.out.on hbb
    have HES := Lib.hid (escape_any _ _ (preA P) (preA D) free w6 (HP4.out.on hbb) HD6.out (pre_good2 HG.out) (pre_preC HG.out.ga) (pre_preC HG.out.gb) hf0)
    have hc0 := hX6.c0
    have hc1 := hX6.c1
    have hc2 := hX6.c2
    have hc3 := hX6.c3
    have hd0 := hY6.c0
    have hd1' := hY6.c1
    have hd2' := hY6.c2
    have hd3 := hY6.c3
    have HW6 := Lib.hid hw6
    rw [hw6] at hc0 hc1 hc2 hc3 hd0 hd1' hd2' hd3
    clear he ho HPD hw6 hb6 hbb HX4 HY4 HP4 HD6 hX6 hY6
    go_wp2_with fail
    rw [← HW6.out]
    clear hc0 hc1 hc2 hc3 hd0 hd1' hd2' hd3 HW6
    refine HES.out.mono ?_
    rintro e w7 he
    obtain ⟨r, hr, hR⟩ := he.out
    have hk := esc_kept HG.out hr
    rcases r with _ | u
    · obtain ⟨rfl, hb7⟩ := hR
      have HR : Hid (KeptR (keptO P D free) w (.returned (.tuple #[.bool true, .slice none 0 0, .nilIface])) w7) := by
        rw [Hid, HNo.out hk]
        exact ⟨_, rfl, own_nil (HB6.out.trans (hb7.mono HB6.out.size))⟩
      clear he hr hk hb7 HES HNo HSo
      go_wp2
      go_ret3
      exact HR
    · obtain ⟨wv, rfl, ho⟩ := hR
      have HR : Hid (KeptR (keptO P D free) w (.returned (.tuple #[.bool false, wv, .nilIface])) w7) := by
        rw [Hid, HSo.out u hk]
        exact ⟨_, rfl, ho.base HB6.out⟩
      clear he hr hk ho HES HNo HSo
      go_wp2
      go_ret3
      exact HR
  · obtain ⟨x, hx⟩ : ∃ x : Int, x = ((e0 + 1 : Nat) : Int) := ⟨_, rfl⟩
    have HC := Lib.hid (scheck_bad HA.out HZ.out g1 hx)
    have HSo : Hid (keptO P D free = (false, [], e0 + 1)) := by rw [Hid, keptO_bad (by omega), g1]
    have HE : Hid (errV (e0 + 1) = errI x) := by rw [Hid, hx]; rfl
    clear g1 hx HA HZ
    generalize P.next.length = n1 at *
    generalize P.fin.length = n2 at *
    generalize D.next.length = n3 at *
    generalize D.fin.length = n4 at *
    go_enter Tryd.func9, Tryd.ntmps9
    go_wp2_with fail
    rw [← HW.out]
    refine HC.out.mono ?_
    rintro e w2 ⟨rfl, hb⟩
    have HR : Hid (KeptR (keptO P D free) w (.returned (.tuple #[.bool false, .slice none 0 0, errI x])) w2) := by
      rw [Hid, HSo.out]
      exact ⟨.slice none 0 0, by rw [HE.out], own_nil (HB.out.trans (hb.mono HB.out.size))⟩
    clear hb hc0 hc1 hc2 hc3 hd0 hd1' hd2' hd3 HX HY HC
    go_wp2
    go_ret3
    exact HR
end Go.Proofs.YtbciefeipiphiaaDoor.Su

namespace Go.Proofs.YtbciefeipiphiaaDoor.Su
open Go.RowKit Go.IntWalk Go.Proofs.YtbciefeipiphiaaDoor.Wd Go.Proofs.YtbciefeipiphiaaDoor.Wo Go.Proofs.YtbciefeipiphiaaDoor.Df Go.Proofs.YtbciefeipiphiaaDoor.Rc Go.Proofs.YtbciefeipiphiaaDoor.Sm Go.Proofs.YtbciefeipiphiaaDoor.Sa Go.Proofs.YtbciefeipiphiaaDoor.Mp

set_option maxRecDepth 100000 in
set_option maxHeartbeats 1000000 in
theorem both_new (v z : Value) (a b : Aut) (w : World) (ha : DfaAt w w.heap.size v a) (hb : DfaAt w w.heap.size z b) :
    Calls Tryd.prog 15 #[v, z] w fun e w' => Hid (∃ x, e = .returned (.tuple #[x, errV (prodOut bothF a b).2]) ∧ DfaNew w w' x (prodOut bothF a b).1) := by
  have HA := ha
  have HZ := hb
  obtain ⟨L, s, A, c, F, cf, rfl, ha⟩ := ha
  obtain ⟨M, t, C, d, G, cg, rfl, hb⟩ := hb
  obtain ⟨wx, hwx, hBx, hX, hd1⟩ := box_dfa w ha
  obtain ⟨w1, hw1, hB1, hY, hd2⟩ := box_dfa wx (hb.on hBx)
  have hs1 : wx.heap.size = w.heap.size + 1 := by rw [hwx]; simp
  have hs2 : w1.heap.size = w.heap.size + 2 := by rw [hw1]; simp; omega
  rw [hs1] at hY
  have hres := below_alloc w1 (.cells #[.int .i64 0, .int .i64 0, .slice none 0 0, .slice none 0 0] 25)
  have HB := Lib.hid (hBx.trans (hB1.mono hBx.size))
  have HX := hX.on hB1
  have HO := Lib.hid ((own_start w1).dfa (.int .i64 0) (.int .i64 0) (.slice none 0 0) (.slice none 0 0))
  rw [hs2] at HO
  have HC := Lib.hid (prod_new 37 both1_call bothF (fun x y W => both1_any x y W) _ _ a b _ ((HA.on HB.out).on hres) ((HZ.on HB.out).on hres))
  have HX2 := HX.on hres
  have HY2 := hY.on hres
  have hc0 := HX2.c0
  have hc1 := HX2.c1
  have hc2 := HX2.c2
  have hc3 := HX2.c3
  have hd0 := HY2.c0
  have hd1' := HY2.c1
  have hd2' := HY2.c2
  have hd3 := HY2.c3
  have HW : Hid (w1 = (w.alloc (.cells #[.int .i64 L, .int .i64 s, .slice A a.next.length c, .slice F a.fin.length cf] 25)).alloc (.cells #[.int .i64 M, .int .i64 t, .slice C b.next.length d, .slice G b.fin.length cg] 25)) := by
    rw [← hwx]; exact hw1
  clear hwx hw1 hBx hB1 hX hY hd1 hd2 hs1 hs2 ha hb hres HX HX2 HY2 HA HZ
  generalize a.next.length = n1 at *
  generalize a.fin.length = n2 at *
  generalize b.next.length = n3 at *
  generalize b.fin.length = n4 at *
  generalize prodOut bothF a b = PO at *
  obtain ⟨po, en⟩ := PO
  simp only at HC ⊢
  generalize errV en = E at *
  go_enter Tryd.func15, Tryd.ntmps15
  go_wp2_with fail
  rw [← HW.out]
  refine HC.out.mono ?_
  rintro e w5 he
  obtain ⟨x, rfl, ho⟩ := he.out
  obtain ⟨nv, fv, A1, m1, c1, F1, m2, c2, rfl, rfl, rfl⟩ := ho.own.form
  have HH := Lib.hid (res_own_new HO.out ho rfl)
  have hO5 := HO.out.join (es1 := []) (fs1 := []) ((own_start _).on ho.below)
  obtain ⟨hr0, hf0⟩ := hO5.dcell (g := w.heap.size + 2) (l := zero4) (j := 0) (by simp) rfl
  obtain ⟨hr1, hf1⟩ := hO5.dcell (g := w.heap.size + 2) (l := zero4) (j := 1) (by simp) rfl
  obtain ⟨hr2, hf2⟩ := hO5.dcell (g := w.heap.size + 2) (l := zero4) (j := 2) (by simp) rfl
  obtain ⟨hr3, hf3⟩ := hO5.dcell (g := w.heap.size + 2) (l := zero4) (j := 3) (by simp) rfl
  clear he ho hO5 HC hc0 hc1 hc2 hc3 hd0 hd1' hd2' hd3
  go_wp2
  obtain ⟨k1, k3, k4, k5, k6⟩ := HH.out
  exact bodyPost_ret (results_dfa rfl _ rfl k3 k4 k5 k6) rfl ⟨_, rfl, k1.base HB.out⟩
theorem both_ok {v z : Value} {a b : Aut} {w : World} (ha : DfaAt w w.heap.size v a) (hb : DfaAt w w.heap.size z b) (g : Good2 a b) {l : List Pr} (hf : found (S2 a b) (start2 a b) = some l) :
    Calls Tryd.prog 15 #[v, z] w fun e w' => Hid (∃ x, e = .returned (.tuple #[x, .nilIface]) ∧ DfaNew w w' x (autOf a.L (S2 a b) l (fun p => finA a p.1 && finA b p.2))) :=
  (both_new v z a b w ha hb).mono fun e w' he => by
    obtain ⟨x, h1, h2⟩ := he.out
    rw [prodOut_some (chkD2_iff.2 g) hf] at h1 h2
    exact ⟨x, h1, h2⟩
theorem both_full {v z : Value} {a b : Aut} {w : World} (ha : DfaAt w w.heap.size v a) (hb : DfaAt w w.heap.size z b) (g : Good2 a b) (hf : found (S2 a b) (start2 a b) = none) :
    Calls Tryd.prog 15 #[v, z] w fun e w' => Hid (∃ x, e = .returned (.tuple #[x, errI 4]) ∧ DfaNew w w' x zeroA) :=
  (both_new v z a b w ha hb).mono fun e w' he => by
    obtain ⟨x, h1, h2⟩ := he.out
    rw [prodOut_full (chkD2_iff.2 g) hf] at h1 h2
    exact ⟨x, h1, h2⟩
/-- All states final. -/
def allA (d : Aut) : Aut := ⟨d.L, d.s, d.next, List.replicate d.fin.length true⟩
theorem allA_good {d : Aut} (g : Df.Good d) : Df.Good (allA d) := ⟨g.l1, g.l6, g.n1, g.n40, by simpa [allA] using g.fin, g.row, g.st, g.go⟩
theorem allA_fin {d : Aut} (g : Df.Good d) {q : Nat} (hq : q < d.next.length) : finA (allA d) q = true := by
  unfold finA allA
  simp only
  rw [List.getElem?_replicate, if_pos (by rw [g.fin]; exact hq)]; rfl
/-- Where the plant can go, by the states of the product. -/
def prodP (P S : Aut) (l : List Pr) : List Bool := l.map fun p => finA (preA P) p.1 && finA (allA S) p.2
theorem prodP_at {P S : Aut} (g : Good2 P S) {l : List Pr} (h : Whole (S2 P S) (start2 P S) l) {x : Pr} (hx : x ∈ l) : flagAt (prodP P S l) (num l x) = isAlive P x.1 := by
  obtain ⟨h1, h2⟩ := rch_lt g (h.rch x hx)
  unfold flagAt prodP
  rw [List.getElem?_map, idx_get hx]
  show (finA (preA P) x.1 && finA (allA S) x.2) = _
  rw [pre_fin h1, allA_fin g.gb h2, Bool.and_true]
theorem allA_to (d : Aut) : flipTo (fun _ => true) d.fin d.fin.length = (allA d).fin := by
  unfold allA
  rw [flip_all (Nat.le_refl _), List.map_const', List.length_range]
/-- A copy in a variable at block g whose flags are changed; fs: what else is owned and done. -/
def CopyX (w1 wr : World) (g : Nat) (L s : Int) (nv fv : Value) (bs : List Bool) (rs : List (Value × List Int)) (fs : List Ent) : Prop :=
  Own w1 wr (eBools fv bs :: eDfa g [.int .i64 L, .int .i64 s, nv, fv] :: eRows nv (rs.map (·.1)) :: eEach rs) fs
set_option linter.unusedSimpArgs false in
set_option maxRecDepth 100000 in
set_option maxHeartbeats 4000000 in
theorem where_any (v z : Value) (P S : Aut) (w : World) (ha : DfaAt w w.heap.size v P) (hb : DfaAt w w.heap.size z S) (g : Good2 P S) {l : List Pr} (hfd : found (S2 P S) (start2 P S) = some l) :
    Calls Tryd.prog 30 #[v, z] w fun e w' => Hid (∃ pv, e = .returned (.tuple #[pv, .nilIface]) ∧ Own w w' [] [eBools pv (prodP P S l)]) := by
  have HA := Lib.hid ha
  have HZ := Lib.hid hb
  obtain ⟨L, s, A, c, F, cf, rfl, ha⟩ := ha
  obtain ⟨L', t, C, d, G, cg, rfl, hb⟩ := hb
  obtain ⟨wx, hwx, hBx, hX, hd1⟩ := box_dfa w ha
  obtain ⟨w1, hw1, hB1, hY, hd2⟩ := box_dfa wx (hb.on hBx)
  have hs1 : wx.heap.size = w.heap.size + 1 := by rw [hwx]; simp
  rw [hs1] at hY
  have hbb := hBx.trans (hB1.mono hBx.size)
  have HB := Lib.hid hbb
  have HY := Lib.hid hY
  have HW : Hid (w1 = (w.alloc (.cells #[.int .i64 L, .int .i64 s, .slice A P.next.length c, .slice F P.fin.length cf] 25)).alloc (.cells #[.int .i64 L', .int .i64 t, .slice C S.next.length d, .slice G S.fin.length cg] 25)) := by
    rw [← hwx]; exact hw1
  have HP := Lib.hid (pre_ok (HA.out.on hbb) g.ga)
  have HZ := Lib.hid (HZ.out.on hbb)
  have HG := Lib.hid g
  have HFd := Lib.hid hfd
  have hX1 := hX.on hB1
  have hc0 := hX1.c0
  have hc1 := hX1.c1
  have hc2 := hX1.c2
  have hc3 := hX1.c3
  rw [HW.out] at hc0 hc1 hc2 hc3
  have hn0 : 0 < S.fin.length := by have := g.gb.fin; have := g.gb.n1; omega
  have hn4 : S.fin.length ≤ 40 := by have := g.gb.fin; have := g.gb.n40; omega
  clear hwx hw1 hBx hB1 hX hY hd1 hd2 hs1 ha hb hbb g hfd hX1 HA
  obtain ⟨n, hn⟩ : ∃ n, S.fin.length = n := ⟨_, rfl⟩
  have HN := Lib.hid hn
  rw [hn] at hn0 hn4 HY HW hc0 hc1 hc2 hc3 HZ
  rw [hn]
  clear hn
  generalize P.next.length = n1 at *
  generalize P.fin.length = n2 at *
  generalize S.next.length = n3 at *
  go_enter Tryd.func30, Tryd.ntmps30
  go_wp2_with fail
  rw [← HW.out]
  clear HW hc0 hc1 hc2 hc3
  refine HP.out.mono ?_
  rintro e w3 he
  obtain ⟨x, rfl, ho⟩ := he.out
  obtain ⟨nv, fv, A1, m1, c1, F1, m2, c2, rfl, rfl, rfl⟩ := ho.form
  obtain ⟨w4, hw4⟩ : ∃ w4, w4 = w3.alloc (.cells #[.int .i64 (preA P).L, .int .i64 (preA P).s, .slice A1 m1 c1, .slice F1 m2 c2] 25) := ⟨_, rfl⟩
  have hb4 : Below w3.heap.size w3 w4 := by rw [hw4]; exact below_alloc _ _
  have HP4 := Lib.hid (ho.at_.on hb4)
  have HX4 : Hid (Boxed w4 w3.heap.size (preA P).L (preA P).s A1 m1 c1 F1 m2 c2) := by rw [hw4]; exact boxed_new _ _ _ _ _ _ _ _ _ _
  have hbb := ho.below.trans (hb4.mono ho.below.size)
  have HB4 := Lib.hid (HB.out.trans (hbb.mono HB.out.size))
  have hY4 := HY.out.on hbb
  have HCp := Lib.hid (copy_ok _ S _ (HZ.out.on hbb) (dchk_iff.2 HG.out.gb))
  have hd0 := hY4.c0
  have hd1' := hY4.c1
  have hd2' := hY4.c2
  have hd3 := hY4.c3
  have HW4 := Lib.hid hw4
  rw [hw4] at hd0 hd1' hd2' hd3
  clear he ho HP hw4 hb4 hbb HY HZ HB hY4
  go_wp2_with fail
  rw [← HW4.out]
  clear hd0 hd1' hd2' hd3 HW4
  refine HCp.out.mono ?_
  rintro e w5 he
  obtain ⟨x, rfl, nv5, fv5, rs, rfl, hrs, hown, hsm, hL, hS⟩ := he.out
  obtain ⟨gf, cap, hfv⟩ := owns_some (hown.each _ (List.mem_cons_of_mem _ List.mem_cons_self)) (by show 0 < S.fin.length; rw [HN.out]; exact hn0)
  change fv5 = .slice (some ⟨gf, 0, none⟩) S.fin.length cap at hfv
  rw [HN.out] at hfv
  subst hfv
  obtain ⟨A5, c5, hnv, q1, q2, q3⟩ := hown.form (e := eRows nv5 (rs.map (·.1))) (by simp)
  simp only [eRows, List.length_map] at hnv
  subst hnv
  obtain ⟨w6, hw6⟩ : ∃ w6, w6 = w5.alloc (.cells #[.int .i64 S.L, .int .i64 S.s, .slice A5 rs.length c5, .slice (some ⟨gf, 0, none⟩) n cap] 25) := ⟨_, rfl⟩
  have hcx : CopyX w4 w6 w5.heap.size S.L S.s (.slice A5 rs.length c5) (.slice (some ⟨gf, 0, none⟩) n cap) S.fin rs [] := by
    unfold CopyX
    rw [hw6]
    refine (hown.dfa (.int .i64 S.L) (.int .i64 S.s) (.slice A5 rs.length c5) (.slice (some ⟨gf, 0, none⟩) n cap)).perm ?_
    exact (((List.Perm.swap _ _ _).cons _).trans (List.Perm.swap _ _ _)).trans (List.Perm.refl _)
  have HS0 : Hid (CopyX w4 w6 w5.heap.size S.L S.s (.slice A5 rs.length c5) (.slice (some ⟨gf, 0, none⟩) n cap) (flipTo (fun _ => true) S.fin 0) rs []) := by
    rw [flip_zero]; exact hcx
  have hg3 := (Own.dcell hcx (g := w5.heap.size) (l := [.int .i64 S.L, .int .i64 S.s, .slice A5 rs.length c5, .slice (some ⟨gf, 0, none⟩) n cap]) (j := 3) (by simp) rfl).1
  have HW6 := Lib.hid hw6
  rw [hw6] at hg3
  have HRs := Lib.hid hrs
  have HSm := Lib.hid hsm
  have HLS := Lib.hid (And.intro hL hS)
  clear he hown hsm hL hS hrs hcx hw6 HCp q1 q2 q3
  go_wp2
  clear hg3
  rw [← HW6.out]
  clear HW6
  generalize w5.heap.size = gm at *
  go_loopw [30] (fun i wr => ∃ (k : Nat), k ≤ n ∧ i = .int .i64 k ∧ Hid (CopyX w4 wr gm S.L S.s (.slice A5 rs.length c5) (.slice (some ⟨gf, 0, none⟩) n cap) (flipTo (fun _ => true) S.fin k) rs [])) (fun i _ => n - (intOf i).toNat)
  case atStart => exact ⟨0, by omega, rfl, HS0⟩
  case round =>
    clear HS0
    obtain ⟨k, hk, rfl, HS⟩ := hrel
    by_cases hlt : k < n
    · as_aux_lemma =>
      have hkf : k < S.fin.length := by rw [HN.out]; exact hlt
      have hfl : (flipTo (fun _ => true) S.fin k).length = n := by rw [flip_length (by omega), HN.out]
      have hg3 := (Own.dcell HS.out (g := gm) (l := [.int .i64 S.L, .int .i64 S.s, .slice A5 rs.length c5, .slice (some ⟨gf, 0, none⟩) n cap]) (j := 3) (by simp) rfl).1
      obtain ⟨y, hy⟩ : ∃ y, (flipTo (fun _ => true) S.fin k)[k]? = some y := ⟨_, List.getElem?_eq_getElem (by rw [hfl]; exact hlt)⟩
      obtain ⟨hcf, hff⟩ := own_bools_cell HS.out (g := gf) (n := n) (cap := cap) (List.mem_append_left _ List.mem_cons_self) hfl hy
      have h2 := own_bools_set HS.out hfl k true
      rw [flip_set (f := fun _ => true) hkf] at h2
      have HN1 : Hid (CopyX w4 (wr.setCell ⟨gf, k, none⟩ (.bool true)) gm S.L S.s (.slice A5 rs.length c5) (.slice (some ⟨gf, 0, none⟩) n cap) (flipTo (fun _ => true) S.fin (k + 1)) rs []) := h2
      have e1 : (k : Int) < (n : Int) := by omega
      clear HS hfl h2 hy
      go_wp2
      go_roundw
      case rel => exact ⟨k + 1, by omega, by go_num, HN1⟩
      case measure => simp [intOf]; omega
    · as_aux_lemma =>
      obtain rfl : k = n := by omega
      have hcx := HS.out
      rw [← HN.out, allA_to, HN.out] at hcx
      have hall := Own.allDone hcx
      have hD : DfaAt wr wr.heap.size (.agg #[.int .i64 S.L, .int .i64 S.s, .slice A5 rs.length c5, .slice (some ⟨gf, 0, none⟩) k cap]) (allA S) := by
        have h7 := own_dfa (nv := .slice A5 rs.length c5) (fv := .slice (some ⟨gf, 0, none⟩) k cap) (rs := rs) (bs := (allA S).fin) (L := S.L) (s := S.s) hall (by simp) (fun e he => by simp [he]) (by simp) HSm.out HLS.out.1 HLS.out.2
        rw [← HRs.out] at h7
        exact h7
      have hbr := HS.out.below
      have hX4 := HX4.out.on hbr
      have hc0 := hX4.c0
      have hc1 := hX4.c1
      have hc2 := hX4.c2
      have hc3 := hX4.c3
      have hd0 := (Own.dcell hcx (g := gm) (l := [.int .i64 S.L, .int .i64 S.s, .slice A5 rs.length c5, .slice (some ⟨gf, 0, none⟩) k cap]) (j := 0) (by simp) rfl).1
      have hd1' := (Own.dcell hcx (g := gm) (l := [.int .i64 S.L, .int .i64 S.s, .slice A5 rs.length c5, .slice (some ⟨gf, 0, none⟩) k cap]) (j := 1) (by simp) rfl).1
      have hd2' := (Own.dcell hcx (g := gm) (l := [.int .i64 S.L, .int .i64 S.s, .slice A5 rs.length c5, .slice (some ⟨gf, 0, none⟩) k cap]) (j := 2) (by simp) rfl).1
      have hd3 := (Own.dcell hcx (g := gm) (l := [.int .i64 S.L, .int .i64 S.s, .slice A5 rs.length c5, .slice (some ⟨gf, 0, none⟩) k cap]) (j := 3) (by simp) rfl).1
      have HBo := Lib.hid (both_ok (HP4.out.on hbr) hD (show Good2 (preA P) (allA S) from ⟨judge_good HG.out.ga, allA_good HG.out.gb, HG.out.eL⟩) (l := l) HFd.out)
      have HBr := Lib.hid (HB4.out.trans (hbr.mono HB4.out.size))
      clear hcx hall hD hbr hX4 HS
      go_wp2_with fail
      refine HBo.out.mono ?_
      rintro e w7 he
      obtain ⟨x, rfl, ho⟩ := he.out
      obtain ⟨nv7, fv7, A7, m7, c7, F7, m8, c8, rfl, rfl, rfl⟩ := ho.own.form
      have hfl7 : Own wr w7 [] [eBools (.slice F7 m8 c8) (prodP P S l)] := by
        obtain ⟨nv', fv', rs', e7, _, h3, _⟩ := ho.own
        simp only [Value.agg.injEq, Array.mk.injEq, List.cons.injEq, Value.int.injEq, true_and, and_true] at e7
        rw [e7.2]
        exact h3.weak fun e he => by simp at he; subst he; exact List.mem_cons_of_mem _ List.mem_cons_self
      have HEnd : Hid (∃ pv, Ending.returned (.tuple #[.slice F7 m8 c8, .nilIface]) = .returned (.tuple #[pv, .nilIface]) ∧ Own w (w7.alloc (.cells #[.int .i64 (autOf (preA P).L (S2 (preA P) (allA S)) l (fun p => finA (preA P) p.1 && finA (allA S) p.2)).L, .int .i64 (autOf (preA P).L (S2 (preA P) (allA S)) l (fun p => finA (preA P) p.1 && finA (allA S) p.2)).s, .slice A7 m7 c7, .slice F7 m8 c8] 25)) [] [eBools pv (prodP P S l)]) :=
        ⟨_, rfl, (hfl7.alloc _).base HBr.out⟩
      have hg3 := box_cell w7 #[.int .i64 (autOf (preA P).L (S2 (preA P) (allA S)) l (fun p => finA (preA P) p.1 && finA (allA S) p.2)).L, .int .i64 (autOf (preA P).L (S2 (preA P) (allA S)) l (fun p => finA (preA P) p.1 && finA (allA S) p.2)).s, .slice A7 m7 c7, .slice F7 m8 c8] 25 3
      clear he ho hfl7 hc0 hc1 hc2 hc3 hd0 hd1' hd2' hd3 HBo
      go_wp2
      go_ret2
      exact HEnd
end Go.Proofs.YtbciefeipiphiaaDoor.Su
