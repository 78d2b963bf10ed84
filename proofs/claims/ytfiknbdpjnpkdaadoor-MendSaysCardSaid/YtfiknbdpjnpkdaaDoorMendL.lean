/- The walks of package mend's Cost and Mend, and their contracts for laws. -/
import Derived.Test.YtfiknbdpjnpkdaaDoorMendH
import Derived.Test.YtfiknbdpjnpkdaaDoorMendJ
import Derived.Deep.RegionHeld3
namespace Go.Proofs.YtfiknbdpjnpkdaaDoor.Me
open Go.RowKit Go.IntWalk Go.Proofs.YtfiknbdpjnpkdaaDoor.Wd Go.Proofs.YtfiknbdpjnpkdaaDoor.Wo Go.Proofs.YtfiknbdpjnpkdaaDoor.Df Go.Proofs.YtfiknbdpjnpkdaaDoor.Rc Go.Proofs.YtfiknbdpjnpkdaaDoor.Ne

theorem mown_nil {w w' : World} (h : Below w.heap.size w w') : Own w w' [] [eInts (.slice none 0 0) []] := (((own_start w).on h).nil 3 1).fin
/-- What is wrong with the arguments. -/
def aErr (d : Aut) (z : List Int) : Nat := if dchk d = 0 then chk d.L z else dchk d
theorem aErr_good {d : Aut} {z : List Int} (h : aErr d z = 0) : dchk d = 0 ∧ chk d.L z = 0 := by
  unfold aErr at h
  by_cases g : dchk d = 0
  · rw [if_pos g] at h; exact ⟨g, h⟩
  · rw [if_neg g] at h; exact absurd h g
noncomputable def costO2 (d : Aut) (z : List Int) : Nat × Nat := if aErr d z ≠ 0 then (0, aErr d z) else match mendW d z with
  | none => (0, 5)
  | some x => (x.1, 0)
noncomputable def mendO2 (d : Aut) (z : List Int) : List Int × Nat × Nat := if aErr d z ≠ 0 then ([], 0, aErr d z) else match mendW d z with
  | none => ([], 0, 5)
  | some x => if 80 < x.2.length then ([], 0, 4) else (x.2, x.1, 0)
theorem costO2_bad {d : Aut} {z : List Int} {e : Nat} (h : aErr d z = e + 1) : costO2 d z = (0, e + 1) := by unfold costO2; rw [if_pos (by omega), h]
theorem costO2_none {d : Aut} {z : List Int} (h : aErr d z = 0) (hx : mendW d z = none) : costO2 d z = (0, 5) := by unfold costO2; rw [if_neg (by omega), hx]
theorem costO2_some {d : Aut} {z : List Int} {x : Lb} (h : aErr d z = 0) (hx : mendW d z = some x) : costO2 d z = (x.1, 0) := by unfold costO2; rw [if_neg (by omega), hx]
theorem mendO2_bad {d : Aut} {z : List Int} {e : Nat} (h : aErr d z = e + 1) : mendO2 d z = ([], 0, e + 1) := by unfold mendO2; rw [if_pos (by omega), h]
theorem mendO2_none {d : Aut} {z : List Int} (h : aErr d z = 0) (hx : mendW d z = none) : mendO2 d z = ([], 0, 5) := by unfold mendO2; rw [if_neg (by omega), hx]
theorem mendO2_full {d : Aut} {z : List Int} {x : Lb} (h : aErr d z = 0) (hx : mendW d z = some x) (hl : 80 < x.2.length) : mendO2 d z = ([], 0, 4) := by unfold mendO2; rw [if_neg (by omega), hx]; simp only; rw [if_pos hl]
theorem mendO2_some {d : Aut} {z : List Int} {x : Lb} (h : aErr d z = 0) (hx : mendW d z = some x) (hl : ¬ 80 < x.2.length) : mendO2 d z = (x.2, x.1, 0) := by unfold mendO2; rw [if_neg (by omega), hx]; simp only; rw [if_neg hl]
set_option linter.unusedSimpArgs false in
set_option maxRecDepth 100000 in
set_option maxHeartbeats 4000000 in
theorem cost_any (v : Value) (d : Aut) (Z : Option Addr) (cz : Nat) (z : List Int) (w : World) (h : DfaAt w w.heap.size v d) (hZ : IntsAt w w.heap.size Z z) (hz : z.length ≤ 17592186044416) :
    Calls Tryd.prog 10 #[v, .slice Z z.length cz] w fun e w' => Hid (e = .returned (.tuple #[.int .i64 (((costO2 d z).1 : Nat) : Int), errV (costO2 d z).2])) ∧ Below w.heap.size w w' := by
  have hV := h
  obtain ⟨L, s, A, c, F, cf, rfl, h⟩ := h
  obtain ⟨w1, hw1, hB1, hX, hd1⟩ := box_dfa w h
  have hV1 := hV.on hB1
  have hZ1 := hZ.on hB1
  have HB := Lib.hid hB1
  have HW := Lib.hid hw1
  have hc0 := hX.c0
  have hc1 := hX.c1
  have hc2 := hX.c2
  have hc3 := hX.c3
  rcases ha : aErr d z with _ | e0
  · obtain ⟨g1, g2⟩ := aErr_good ha
    have gd := dchk_iff.1 g1
    have hC := newm_good _ d Z cz z w1 hV1 hZ1 g1 g2
    obtain ⟨_, h80, _⟩ := chk_iff.1 g2
    rcases hx : mendW d z with _ | x
    · rw [costO2_none ha hx]
      have HC : Hid (Calls Tryd.prog 24 #[.agg #[.int .i64 L, .int .i64 s, .slice A d.next.length c, .slice F d.fin.length cf], .slice Z z.length cz] w1 fun e w' => e = .returned (.tuple #[.agg #[.int .i64 0, .int .i64 0, .slice none 0 0, .slice none 0 0, .slice none 0 0, .slice none 0 0], .iface 60 (.int .i64 5)]) ∧ Below w1.heap.size w1 w') := hC.mono fun e w' ⟨h1, h2⟩ => ⟨h1.out.2 hx, h2⟩
      clear hC hV hV1 h hw1 hB1 hX hd1 hZ hZ1 g1 g2 gd ha hx h80
      generalize d.next.length = n at *
      generalize d.fin.length = nf at *
      generalize z.length = m at *
      go_enter Tryd.func10, Tryd.ntmps10
      go_wp2_with fail
      rw [← HW.out]
      refine HC.out.mono ?_
      rintro e w2 ⟨rfl, hb⟩
      have HB2 := Lib.hid (HB.out.trans (hb.mono HB.out.size))
      clear hb HC hc0 hc1 hc2 hc3
      go_wp2
      go_ret2
      exact ⟨rfl, HB2.out.alloc HB2.out.size _⟩
    · rw [costO2_some ha hx]
      have HC : Hid (Calls Tryd.prog 24 #[.agg #[.int .i64 L, .int .i64 s, .slice A d.next.length c, .slice F d.fin.length cf], .slice Z z.length cz] w1 fun e w' => (∃ L s A c F cf T ct, e = .returned (.tuple #[menV L s A d.next.length c F d.next.length cf Z z.length cz T ct, .nilIface]) ∧ Hid (MenIs w' w'.heap.size L s A c F cf Z cz T ct d z)) ∧ Below w1.heap.size w1 w') := hC.mono fun e w' ⟨h1, h2⟩ => ⟨h1.out.1 x hx, h2⟩
      have HE := Lib.hid fun (L s : Int) (A : Option Addr) (c : Nat) (F : Option Addr) (cf : Nat) (T : Option Addr) (ct : Nat) (W : World) (hW : MenIs W W.heap.size L s A c F cf Z cz T ct d z) => edits_any L s A d.next.length c F d.next.length cf Z z.length cz T ct d z W gd rfl rfl hW
      have hdv : cst d d.s.toNat z / 1000 = x.1 := by rw [cst_mend gd h80 hx]; have := (mend_far gd h80 hx).2; omega
      rw [hdv] at HE
      clear hC hV hV1 h hw1 hB1 hX hd1 hZ hZ1 g1 g2 gd ha hx h80 hdv
      generalize d.next.length = n at *
      generalize d.fin.length = nf at *
      generalize z.length = m at *
      go_enter Tryd.func10, Tryd.ntmps10
      go_wp2_with fail
      rw [← HW.out]
      refine HC.out.mono ?_
      rintro e w2 ⟨⟨L2, s2, A2, c2, F2, cf2, T2, ct2, rfl, HM⟩, hb⟩
      have HB2 := Lib.hid (HB.out.trans (hb.mono HB.out.size))
      have HM2 := Lib.hid (HM.out.on (below_alloc w2 (.cells #[.int .i64 L2, .int .i64 s2, .slice A2 n c2, .slice F2 n cf2, .slice Z m cz, .slice T2 (m + 1) ct2] 56)))
      have HB3 := Lib.hid (HB2.out.alloc HB2.out.size (.cells #[.int .i64 L2, .int .i64 s2, .slice A2 n c2, .slice F2 n cf2, .slice Z m cz, .slice T2 (m + 1) ct2] 56))
      clear hb HC hc0 hc1 hc2 hc3
      go_wp2_with fail
      refine (HE.out L2 s2 A2 c2 F2 cf2 T2 ct2 _ HM2.out).mono ?_
      rintro e w4 ⟨he, hb4⟩
      obtain rfl := he.out
      have HB4 := Lib.hid (HB3.out.trans (hb4.mono HB3.out.size))
      clear he hb4 HE HM2 HM
      go_wp2
      go_ret2
      exact ⟨rfl, HB4.out⟩
  · have HC := Lib.hid (newm_bad _ d Z cz z w1 hV1 hZ1 hz ha)
    rw [costO2_bad ha]
    rw [show errV (e0 + 1) = errI ((e0 + 1 : Nat) : Int) from rfl] at HC ⊢
    obtain ⟨E, hE⟩ : ∃ E, ((e0 + 1 : Nat) : Int) = E := ⟨_, rfl⟩
    rw [hE] at HC ⊢
    clear hV hV1 h hw1 hB1 hX hd1 hZ hZ1 ha hz hE
    generalize d.next.length = n at *
    generalize d.fin.length = nf at *
    generalize z.length = m at *
    go_enter Tryd.func10, Tryd.ntmps10
    go_wp2_with fail
    rw [← HW.out]
    refine HC.out.mono ?_
    rintro e w2 ⟨he, hb⟩
    obtain rfl := he.out
    have HB2 := Lib.hid (HB.out.trans (hb.mono HB.out.size))
    clear hb HC hc0 hc1 hc2 hc3 he
    go_wp2
    go_ret2
    exact ⟨rfl, HB2.out.alloc HB2.out.size _⟩
set_option linter.unusedSimpArgs false in
set_option maxRecDepth 100000 in
set_option maxHeartbeats 4000000 in
theorem mend_any (v : Value) (d : Aut) (Z : Option Addr) (cz : Nat) (z : List Int) (w : World) (h : DfaAt w w.heap.size v d) (hZ : IntsAt w w.heap.size Z z) (hz : z.length ≤ 17592186044416) :
    Calls Tryd.prog 12 #[v, .slice Z z.length cz] w fun e w' => Hid (∃ wv, e = .returned (.tuple #[wv, .int .i64 (((mendO2 d z).2.1 : Nat) : Int), errV (mendO2 d z).2.2]) ∧ Own w w' [] [eInts wv (mendO2 d z).1]) := by
  have hV := h
  obtain ⟨L, s, A, c, F, cf, rfl, h⟩ := h
  obtain ⟨w1, hw1, hB1, hX, hd1⟩ := box_dfa w h
  have hV1 := hV.on hB1
  have hZ1 := hZ.on hB1
  have HB := Lib.hid hB1
  have HW := Lib.hid hw1
  have hc0 := hX.c0
  have hc1 := hX.c1
  have hc2 := hX.c2
  have hc3 := hX.c3
  rcases ha : aErr d z with _ | e0
  · obtain ⟨g1, g2⟩ := aErr_good ha
    have gd := dchk_iff.1 g1
    have hC := newm_good _ d Z cz z w1 hV1 hZ1 g1 g2
    obtain ⟨_, h80, _⟩ := chk_iff.1 g2
    rcases hx : mendW d z with _ | x
    · rw [mendO2_none ha hx]
      have HC : Hid (Calls Tryd.prog 24 #[.agg #[.int .i64 L, .int .i64 s, .slice A d.next.length c, .slice F d.fin.length cf], .slice Z z.length cz] w1 fun e w' => e = .returned (.tuple #[.agg #[.int .i64 0, .int .i64 0, .slice none 0 0, .slice none 0 0, .slice none 0 0, .slice none 0 0], .iface 60 (.int .i64 5)]) ∧ Below w1.heap.size w1 w') := hC.mono fun e w' ⟨h1, h2⟩ => ⟨h1.out.2 hx, h2⟩
      clear hC hV hV1 h hw1 hB1 hX hd1 hZ hZ1 g1 g2 gd ha hx h80
      generalize d.next.length = n at *
      generalize d.fin.length = nf at *
      generalize z.length = m at *
      go_enter Tryd.func12, Tryd.ntmps12
      go_wp2_with fail
      rw [← HW.out]
      refine HC.out.mono ?_
      rintro e w2 ⟨rfl, hb⟩
      have HB2 := Lib.hid (HB.out.trans (hb.mono HB.out.size))
      clear hb HC hc0 hc1 hc2 hc3
      go_wp2
      go_ret3
      exact ⟨_, rfl, mown_nil (HB2.out.alloc HB2.out.size _)⟩
    · have HC : Hid (Calls Tryd.prog 24 #[.agg #[.int .i64 L, .int .i64 s, .slice A d.next.length c, .slice F d.fin.length cf], .slice Z z.length cz] w1 fun e w' => (∃ L s A c F cf T ct, e = .returned (.tuple #[menV L s A d.next.length c F d.next.length cf Z z.length cz T ct, .nilIface]) ∧ Hid (MenIs w' w'.heap.size L s A c F cf Z cz T ct d z)) ∧ Below w1.heap.size w1 w') := hC.mono fun e w' ⟨h1, h2⟩ => ⟨h1.out.1 x hx, h2⟩
      have HE := Lib.hid fun (L s : Int) (A : Option Addr) (c : Nat) (F : Option Addr) (cf : Nat) (T : Option Addr) (ct : Nat) (W : World) (hW : MenIs W W.heap.size L s A c F cf Z cz T ct d z) => edits_any L s A d.next.length c F d.next.length cf Z z.length cz T ct d z W gd rfl rfl hW
      have HLt := Lib.hid fun (L s : Int) (A : Option Addr) (c : Nat) (F : Option Addr) (cf : Nat) (T : Option Addr) (ct : Nat) (W : World) (hW : MenIs W W.heap.size L s A c F cf Z cz T ct d z) => letters_any L s A d.next.length c F d.next.length cf Z z.length cz T ct d z W gd rfl rfl hW
      have hf := mend_far gd h80 hx
      have hcm := cst_mend gd h80 hx
      have hdv : cst d d.s.toNat z / 1000 = x.1 := by rw [hcm]; omega
      have hmv : cst d d.s.toNat z % 1000 = x.2.length := by rw [hcm]; omega
      rw [hdv] at HE
      rw [hmv] at HLt
      by_cases hl : 80 < x.2.length
      · rw [mendO2_full ha hx hl]
        clear hC hV hV1 h hw1 hB1 hX hd1 hZ hZ1 g1 g2 gd ha hx h80 hdv hmv hcm hf HE
        obtain ⟨len, hlen⟩ : ∃ len, x.2.length = len := ⟨_, rfl⟩
        rw [hlen] at HLt hl
        clear hlen
        generalize d.next.length = n at *
        generalize d.fin.length = nf at *
        generalize z.length = m at *
        go_enter Tryd.func12, Tryd.ntmps12
        go_wp2_with fail
        rw [← HW.out]
        refine HC.out.mono ?_
        rintro e w2 ⟨⟨L2, s2, A2, c2, F2, cf2, T2, ct2, rfl, HM⟩, hb⟩
        have HB2 := Lib.hid (HB.out.trans (hb.mono HB.out.size))
        have HM2 := Lib.hid (HM.out.on (below_alloc w2 (.cells #[.int .i64 L2, .int .i64 s2, .slice A2 n c2, .slice F2 n cf2, .slice Z m cz, .slice T2 (m + 1) ct2] 56)))
        have HB3 := Lib.hid (HB2.out.alloc HB2.out.size (.cells #[.int .i64 L2, .int .i64 s2, .slice A2 n c2, .slice F2 n cf2, .slice Z m cz, .slice T2 (m + 1) ct2] 56))
        clear hb HC hc0 hc1 hc2 hc3
        go_wp2_with fail
        refine (HLt.out L2 s2 A2 c2 F2 cf2 T2 ct2 _ HM2.out).mono ?_
        rintro e w4 ⟨he, hb4⟩
        obtain rfl := he.out
        have HB4 := Lib.hid (HB3.out.trans (hb4.mono HB3.out.size))
        have hl2 : (80 : Int) < (len : Int) := by omega
        clear he hb4 HLt HM2 HM
        go_wp2
        go_ret3
        exact ⟨_, rfl, mown_nil HB4.out⟩
      · rw [mendO2_some ha hx hl]
        have HF := Lib.hid fun (L s : Int) (A : Option Addr) (c : Nat) (F : Option Addr) (cf : Nat) (T : Option Addr) (ct : Nat) (W : World) (hW : MenIs W W.heap.size L s A c F cf Z cz T ct d z) => mfirst_any L s A d.next.length c F d.next.length cf Z z.length cz T ct d z x W gd rfl rfl h80 hW hx (by omega)
        clear hC hV hV1 h hw1 hB1 hX hd1 hZ hZ1 g1 g2 gd ha hx h80 hdv hmv hcm hf
        obtain ⟨len, hlen⟩ : ∃ len, x.2.length = len := ⟨_, rfl⟩
        rw [hlen] at HLt hl
        clear hlen
        generalize d.next.length = n at *
        generalize d.fin.length = nf at *
        generalize z.length = m at *
        go_enter Tryd.func12, Tryd.ntmps12
        go_wp2_with fail
        rw [← HW.out]
        refine HC.out.mono ?_
        rintro e w2 ⟨⟨L2, s2, A2, c2, F2, cf2, T2, ct2, rfl, HM⟩, hb⟩
        have HB2 := Lib.hid (HB.out.trans (hb.mono HB.out.size))
        have hx3 := men_soon w2 L2 s2 A2 n c2 F2 n cf2 Z m cz T2 ct2
        have HM2 := Lib.hid (HM.out.on (below_alloc w2 (.cells #[.int .i64 L2, .int .i64 s2, .slice A2 n c2, .slice F2 n cf2, .slice Z m cz, .slice T2 (m + 1) ct2] 56)))
        have HB3 := Lib.hid (HB2.out.alloc HB2.out.size (.cells #[.int .i64 L2, .int .i64 s2, .slice A2 n c2, .slice F2 n cf2, .slice Z m cz, .slice T2 (m + 1) ct2] 56))
        have HX3 := Lib.hid hx3
        clear hb HC hc0 hc1 hc2 hc3 hx3
        go_wp2_with fail
        refine (HLt.out L2 s2 A2 c2 F2 cf2 T2 ct2 _ HM2.out).mono ?_
        rintro e w4 ⟨he, hb4⟩
        obtain rfl := he.out
        have HB4 := Lib.hid (HB3.out.trans (hb4.mono HB3.out.size))
        have HM4 := Lib.hid (HM2.out.on hb4)
        have hx4 := HX3.out.on hb4
        have hl2 : ¬ (80 : Int) < (len : Int) := by omega
        have hc0 := hx4.c0
        have hc1 := hx4.c1
        have hc2 := hx4.c2
        have hc3 := hx4.c3
        have hc4 := hx4.c4
        have hc5 := hx4.c5
        have HK : Hid (∀ W, Below w4.heap.size w4 W → W.cell? ⟨w2.heap.size, 0, none⟩ = some (.int .i64 L2) ∧ W.cell? ⟨w2.heap.size, 1, none⟩ = some (.int .i64 s2) ∧ W.cell? ⟨w2.heap.size, 2, none⟩ = some (.slice A2 n c2) ∧ W.cell? ⟨w2.heap.size, 3, none⟩ = some (.slice F2 n cf2) ∧ W.cell? ⟨w2.heap.size, 4, none⟩ = some (.slice Z m cz) ∧ W.cell? ⟨w2.heap.size, 5, none⟩ = some (.slice T2 (m + 1) ct2)) := fun W hW => by
          have h := hx4.on hW
          exact ⟨h.c0, h.c1, h.c2, h.c3, h.c4, h.c5⟩
        have HE4 := Lib.hid fun W (hW : Below w4.heap.size w4 W) => HE.out L2 s2 A2 c2 F2 cf2 T2 ct2 W (HM4.out.on hW)
        have HF4 := Lib.hid fun W (hW : Below w4.heap.size w4 W) => HF.out L2 s2 A2 c2 F2 cf2 T2 ct2 W (HM4.out.on hW)
        have HD4 : Hid (Below w4.heap.size w4 w4.drew) := (Below.refl _ _).drew
        clear he hb4 HLt HM2 HM HE HF hx4 HX3
        go_wp2_with fail
        go_region_held3 (fun W => W.cell? ⟨w2.heap.size, 0, none⟩ = some (.int .i64 L2) ∧ W.cell? ⟨w2.heap.size, 1, none⟩ = some (.int .i64 s2) ∧ W.cell? ⟨w2.heap.size, 2, none⟩ = some (.slice A2 n c2) ∧ W.cell? ⟨w2.heap.size, 3, none⟩ = some (.slice F2 n cf2) ∧ W.cell? ⟨w2.heap.size, 4, none⟩ = some (.slice Z m cz) ∧ W.cell? ⟨w2.heap.size, 5, none⟩ = some (.slice T2 (m + 1) ct2))
          (first | exact HK.out _ HB6.out | exact HK.out _ HB5.out | exact HK.out _ HD4.out)
          (first | (go_at_call 25; refine (HE4.out _ HB5.out).mono ?_; rintro e w6 ⟨he, hb⟩; obtain rfl := he.out; have HB6 := Lib.hid (HB5.out.trans (hb.mono HB5.out.size)); have HO6 := Lib.hid (HO5.out.on hb); clear he hb) | (go_at_call 28; refine (HF4.out _ HB5.out).mono ?_; rintro e w6 he; obtain ⟨v', rfl, ho⟩ := he.out; have HB6 := Lib.hid (HB5.out.trans (ho.below.mono HB5.out.size)); have HO6 := Lib.hid (ho.base HB5.out); clear he ho) | (go_at_call 25; refine (HE4.out _ HD4.out).mono ?_; rintro e w5 ⟨he, hb⟩; obtain rfl := he.out; have HB5 := Lib.hid (HD4.out.trans (hb.mono HD4.out.size)); clear he hb) | (go_at_call 28; refine (HF4.out _ HD4.out).mono ?_; rintro e w5 he; obtain ⟨v', rfl, ho⟩ := he.out; have HB5 := Lib.hid (HD4.out.trans (ho.below.mono HD4.out.size)); have HO5 := Lib.hid (ho.base HD4.out); clear he ho))
        all_goals
          have HEnd := Lib.hid (HO6.out.base HB4.out).fin
          clear HE4 HF4 HK
          go_wp2
          go_ret3
          exact ⟨_, rfl, HEnd.out⟩
  · have HC := Lib.hid (newm_bad _ d Z cz z w1 hV1 hZ1 hz ha)
    rw [mendO2_bad ha]
    rw [show errV (e0 + 1) = errI ((e0 + 1 : Nat) : Int) from rfl] at HC ⊢
    obtain ⟨E, hE⟩ : ∃ E, ((e0 + 1 : Nat) : Int) = E := ⟨_, rfl⟩
    rw [hE] at HC ⊢
    clear hV hV1 h hw1 hB1 hX hd1 hZ hZ1 ha hz hE
    generalize d.next.length = n at *
    generalize d.fin.length = nf at *
    generalize z.length = m at *
    go_enter Tryd.func12, Tryd.ntmps12
    go_wp2_with fail
    rw [← HW.out]
    refine HC.out.mono ?_
    rintro e w2 ⟨he, hb⟩
    obtain rfl := he.out
    have HB2 := Lib.hid (HB.out.trans (hb.mono HB.out.size))
    clear hb HC hc0 hc1 hc2 hc3 he
    go_wp2
    go_ret3
    exact ⟨_, rfl, mown_nil (HB2.out.alloc HB2.out.size _)⟩
end Go.Proofs.YtfiknbdpjnpkdaaDoor.Me
