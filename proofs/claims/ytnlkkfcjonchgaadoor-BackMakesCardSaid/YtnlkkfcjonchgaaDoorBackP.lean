/- The walk of package back's Back. -/
import Derived.Test.YtnlkkfcjonchgaaDoorBackR
import Derived.Test.YtnlkkfcjonchgaaDoorDfaV

namespace Go.Proofs.YtnlkkfcjonchgaaDoor.Fm
open Go.RowKit Go.IntWalk Go.Proofs.YtnlkkfcjonchgaaDoor.Wd Go.Proofs.YtnlkkfcjonchgaaDoor.Wo Go.Proofs.YtnlkkfcjonchgaaDoor.Mp Go.Proofs.YtnlkkfcjonchgaaDoor.Df

/-- What Back gives. -/
def bkOut (L : Int) (f : List Nd) : Aut × Nat := if fchk L f = 0 then backOut L f else (zeroA, fchk L f)
theorem bkOut_bad {L : Int} {f : List Nd} (h : fchk L f ≠ 0) : bkOut L f = (zeroA, fchk L f) := by unfold bkOut; rw [if_neg h]
theorem bkOut_ok {L : Int} {f : List Nd} (h : fchk L f = 0) : bkOut L f = backOut L f := by unfold bkOut; rw [if_pos h]
theorem back1_call (args : Array Value) (W : World) : (callFunc 26 args).run Tryd.prog W = .ok (.enter 26 args) W := by
  have hn : ¬ Tryd.f26.name = "runtime.NumGoroutine" := of_decide_eq_false (by kernel_rfl)
  have hb : ¬ Tryd.f26.body = none := fun h => by
    have : Tryd.f26.body.isSome = true := by kernel_rfl
    rw [h] at this; cases this
  simp [callFunc, go_sem, hn, hb]
theorem back2_call (args : Array Value) (W : World) : (callFunc 29 args).run Tryd.prog W = .ok (.enter 29 args) W := by
  have hn : ¬ Tryd.f29.name = "runtime.NumGoroutine" := of_decide_eq_false (by kernel_rfl)
  have hb : ¬ Tryd.f29.body = none := fun h => by
    have : Tryd.f29.body.isSome = true := by kernel_rfl
    rw [h] at this; cases this
  simp [callFunc, go_sem, hn, hb]
set_option maxRecDepth 100000 in
set_option maxHeartbeats 4000000 in
theorem back_any (L : Int) (A : Option Addr) (c : Nat) (f : List Nd) (w : World) (hL : Small L) (hA : NodesAt w w.heap.size A f) (hlen : f.length ≤ 9223372036854775807) :
    Calls Tryd.prog 9 #[.int .i64 L, .slice A f.length c] w fun e w' => Hid (∃ x, e = .returned (.tuple #[x, errV (bkOut L f).2]) ∧ DfaOwn w w' x (bkOut L f).1) := by
  obtain ⟨w1, hw1⟩ : ∃ w1, w1 = w.alloc (.cells #[.slice A f.length c] 22) := ⟨_, rfl⟩
  have hB1 : Below w.heap.size w w1 := by rw [hw1]; exact bel_alloc _ _
  have hs1 : w1.heap.size = w.heap.size + 1 := by rw [hw1]; simp
  have hc1 : w1.cell? ⟨w.heap.size, 0, none⟩ = some (.slice A f.length c) := by rw [hw1]; exact box_at w _ _ 0
  obtain ⟨w2, hw2⟩ : ∃ w2, w2 = w1.alloc (.cells #[.int .i64 0, .int .i64 0, .slice none 0 0, .slice none 0 0] 27) := ⟨_, rfl⟩
  have hO : Own w1 w2 [eDfa w1.heap.size zero4] [] := by rw [hw2]; exact (own_start w1).dfa (.int .i64 0) (.int .i64 0) (.slice none 0 0) (.slice none 0 0)
  have hb2 := hO.below
  have hc2 : w2.cell? ⟨w.heap.size, 0, none⟩ = some (.slice A f.length c) := (hb2.cell (p := ⟨w.heap.size, 0, none⟩) (World.block_lt_of_cell? w1 _ hc1)).trans hc1
  have hB2 := hB1.trans (hb2.mono hB1.size)
  have hA2 := hA.on hB2
  have HC := Lib.hid (fcheck_any L A c f w2 hL hA2 hlen)
  have HW : Hid (w2 = (w.alloc (.cells #[.slice A f.length c] 22)).alloc (.cells #[.int .i64 0, .int .i64 0, .slice none 0 0, .slice none 0 0] 27)) := by rw [Hid, hw2, hw1]
  rw [hs1] at hO
  have HO := Lib.hid hO
  have HB := Lib.hid hB1
  have HK : Hid (∀ W, Below w2.heap.size w2 W → W.cell? ⟨w.heap.size, 0, none⟩ = some (.slice A f.length c)) := fun W hW => (hW.cell (p := ⟨w.heap.size, 0, none⟩) (World.block_lt_of_cell? w2 _ hc2)).trans hc2
  clear hw1 hw2 hB1 hs1 hc1 hO hb2 hB2
  by_cases g1 : fchk L f = 0
  · have hg : FGood L f := fchk_iff.1 g1
    have hn6 := hg.l6
    have hn1 := hg.l1
    obtain ⟨p0, hp0⟩ := Int.eq_ofNat_of_zero_le (show 0 ≤ L by omega)
    subst hp0
    have HPO : Hid (bkOut (p0 : Int) f = explOut (p0 : Int) (backP (p0 : Int) f) (padB (vec f [])) (backFP f)) := by rw [Hid, bkOut_ok g1, backP_out hg]
    have HEn := Lib.hid (fun (W : World) (hb : Below w2.heap.size w2 W) => mend_any A c f W (hA2.on hb) hg)
    have HVo : Hid (∀ W0 W g2, Own W0 W [eBools (.slice (some ⟨g2, 0, none⟩) f.length f.length) (vec f [])] [] → Calls Tryd.prog 27 #[.slice (some ⟨g2, 0, none⟩) f.length f.length] W fun e w' => e = .returned (KV (padB (vec f []))) ∧ Below W.heap.size W w') := fun W0 W g2 hW => by
      obtain ⟨A2, c2, e2, _, _, hB⟩ := Df.own_bools hW (fv := .slice (some ⟨g2, 0, none⟩) f.length f.length) (bs := vec f []) (by simp)
      have h3 := valuesOf_any A2 c2 (vec f []) W hB (vec_le hg _) (by rw [vec_length]; exact hg.ne)
      rw [← e2] at h3
      exact h3
    have HE := Lib.hid (fun (W : World) (hb : Below w2.heap.size w2 W) =>
      explV_any 26 29 back1_call back2_call (.pointer (some ⟨w.heap.size, 0, none⟩)) (.pointer (some ⟨w.heap.size, 0, none⟩)) (backP (p0 : Int) f) (padB (vec f [])) (backFP f) p0 W (by omega) (by omega) (fun x => by rw [backP_length]; rfl)
        (fun x hx => by obtain ⟨u, rfl⟩ := rch_pad hg hx; exact padB_length (vec_le hg u))
        (fun x hx q t ht W2 hW2 => by
          obtain ⟨u, rfl⟩ := rch_pad hg hx
          obtain ⟨rfl, hq⟩ := backP_get hg u ht
          have hb3 := hb.trans (hW2.mono hb.size)
          exact back1_any (HK.out W2 hb3) (hA2.on hb3) hg u (q : Int) (by omega) (by omega))
        (fun x hx W2 hW2 => by
          obtain ⟨u, rfl⟩ := rch_pad hg hx
          exact back2_any (HK.out W2 (hb.trans (hW2.mono hb.size))) hg u))
    rw [← HPO.out] at HE
    rw [g1] at HC
    clear HPO g1 hA2 hA hg hn6 hn1
    generalize bkOut (p0 : Int) f = PO at *
    obtain ⟨po, en⟩ := PO
    simp only at HE ⊢
    generalize errV en = E at *
    obtain ⟨kv, hkv⟩ : ∃ kv, kv = KV (padB (vec f [])) := ⟨_, rfl⟩
    rw [← hkv] at HE HVo
    clear hkv
    generalize f.length = n at *
    go_enter Tryd.func9, Tryd.ntmps9
    go_wp2_with fail
    rw [← HW.out]
    clear HW
    refine HC.out.mono ?_
    rintro e w3 ⟨he, hb3⟩
    obtain rfl := he.out
    have HB3 := Lib.hid hb3
    have hc3 := HK.out w3 hb3
    clear HC he hb3 hc2
    simp only [errV]
    go_wp2_with fail
    refine (HEn.out w3 HB3.out).mono ?_
    rintro e w4 he
    obtain ⟨g4, rfl, ho4⟩ := he.out
    have HO4 := Lib.hid ho4
    have HB4 := Lib.hid (HB3.out.trans (ho4.below.mono HB3.out.size))
    clear he ho4 HEn hc3
    go_wp2_with fail
    refine (HVo.out w3 w4 g4 HO4.out).mono ?_
    rintro e w5 ⟨rfl, hb5⟩
    have HB5 := Lib.hid (HB4.out.trans (hb5.mono HB4.out.size))
    clear hb5 HVo HO4 HB4 HB3
    go_wp2_with fail
    refine (HE.out w5 HB5.out).mono ?_
    rintro e w6 he
    obtain ⟨x, h6, ho6⟩ := he.out
    subst h6
    have HO6 := Lib.hid ho6
    have HB6 := Lib.hid (HB5.out.trans (ho6.below.mono HB5.out.size))
    obtain ⟨nv, fv, A5, n5, c5, F5, m5, k5, e6, e7, e8⟩ := ho6.form
    generalize po.L = L5 at *
    generalize po.s = s5 at *
    subst e6 e7 e8
    obtain ⟨k1, k3, k4, k5', k6⟩ := res_own (HO.out.on HB5.out) HO6.out rfl
    have HEnd := Lib.hid (k1.base HB.out)
    have hr := HO.out.on HB6.out
    obtain ⟨hr0, hf0⟩ := hr.dcell (g := w.heap.size + 1) (l := zero4) (j := 0) (by simp) rfl
    obtain ⟨hr1, hf1⟩ := hr.dcell (g := w.heap.size + 1) (l := zero4) (j := 1) (by simp) rfl
    obtain ⟨hr2, hf2⟩ := hr.dcell (g := w.heap.size + 1) (l := zero4) (j := 2) (by simp) rfl
    obtain ⟨hr3, hf3⟩ := hr.dcell (g := w.heap.size + 1) (l := zero4) (j := 3) (by simp) rfl
    have K3 := Lib.hid k3
    have K4 := Lib.hid k4
    have K5 := Lib.hid k5'
    have K6 := Lib.hid k6
    clear he ho6 hr k1 k3 k4 k5' k6 HE HO6 HO HB5 HB6 HK
    go_wp2
    refine bodyPost_ret (results_dfa rfl _ rfl K3.out K4.out K5.out K6.out) rfl ⟨_, rfl, HEnd.out⟩
  · have HNo : Hid (bkOut L f = (zeroA, fchk L f)) := bkOut_bad g1
    obtain ⟨e0, he0⟩ : ∃ e0, fchk L f = e0 + 1 := ⟨fchk L f - 1, by omega⟩
    rw [he0] at HC HNo
    rw [show errV (e0 + 1) = errI ((e0 + 1 : Nat) : Int) from rfl] at HC
    generalize hE : ((e0 + 1 : Nat) : Int) = E at *
    have HE := Lib.hid hE
    clear hE he0 g1 hA hA2
    generalize f.length = n at *
    go_enter Tryd.func9, Tryd.ntmps9
    go_wp2_with fail
    rw [← HW.out]
    clear HW
    refine HC.out.mono ?_
    rintro e w3 ⟨he, hb⟩
    obtain rfl : e = .returned (errI E) := he.out
    have HO2 := Lib.hid (HO.out.on hb)
    obtain ⟨hr0, hf0⟩ := HO2.out.dcell (g := w.heap.size + 1) (l := zero4) (j := 0) (by simp) rfl
    obtain ⟨hr1, hf1⟩ := HO2.out.dcell (g := w.heap.size + 1) (l := zero4) (j := 1) (by simp) rfl
    obtain ⟨hr2, hf2⟩ := HO2.out.dcell (g := w.heap.size + 1) (l := zero4) (j := 2) (by simp) rfl
    obtain ⟨hr3, hf3⟩ := HO2.out.dcell (g := w.heap.size + 1) (l := zero4) (j := 3) (by simp) rfl
    clear hb HC he HK hc2
    have HEnd := Lib.hid (res_bad HO2.out rfl)
    go_wp2
    obtain ⟨k2, k3, k4, k5, k6⟩ := HEnd.out
    refine bodyPost_ret (results_dfa rfl _ rfl k3 k4 k5 k6) rfl ⟨_, by rw [HNo.out, errV_succ, HE.out]; rfl, by rw [HNo.out]; exact dfaOwn_zero (HB.out.trans (k2.mono HB.out.size))⟩
end Go.Proofs.YtnlkkfcjonchgaaDoor.Fm
