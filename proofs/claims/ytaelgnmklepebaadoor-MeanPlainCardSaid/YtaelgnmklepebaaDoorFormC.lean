/- The walk of form.Check. -/
import Derived.Test.YtaelgnmklepebaaDoorFormW
namespace Go.Proofs.YtaelgnmklepebaaDoor.Fm
open Go.RowKit Go.IntWalk Go.Proofs.YtaelgnmklepebaaDoor.Wd Go.Proofs.YtaelgnmklepebaaDoor.Wo

theorem letters_any (L : Int) (w : World) (hL : Small L) (ev : Value) (he : errV (if L < 1 ∨ 6 < L then 1 else 0) = ev) :
    Calls Tryd.prog 26 #[.int .i64 L] w fun e w' => e = .returned ev ∧ w' = w := by
  have h0 := (check_any L none 0 [] w hL (IntsAt.nil _ _ _) (by simp)).mono (R' := fun e w' => e = .returned ev ∧ w' = w) fun e w' ⟨h1, h2⟩ => by
    refine ⟨?_, h2.symm⟩
    rw [h1.out, ← he]
    rfl
  have H := Lib.hid h0
  clear h0 he hL
  go_enter Tryd.func26, Tryd.ntmps26
  go_wp2_with fail
  refine H.out.mono ?_
  rintro e w2 ⟨rfl, rfl⟩
  clear H
  go_wp2
  go_ret
  exact ⟨rfl, rfl⟩
theorem fchk_letters {L : Int} {f : List Nd} (h : L < 1 ∨ 6 < L) : fchk L f = 1 := by unfold fchk; rw [if_pos h]
theorem fchk_none {L : Int} {f : List Nd} (h : ¬ (L < 1 ∨ 6 < L)) (h2 : f.length = 0) : fchk L f = 3 := by unfold fchk; rw [if_neg h, if_pos h2]
theorem fchk_many {L : Int} {f : List Nd} (h : ¬ (L < 1 ∨ 6 < L)) (h2 : 40 < f.length) : fchk L f = 4 := by unfold fchk; rw [if_neg h, if_neg (by omega), if_pos h2]
theorem fchk_scan {L : Int} {f : List Nd} (h : ¬ (L < 1 ∨ 6 < L)) (h2 : f.length ≠ 0) (h3 : ¬ 40 < f.length) : fchk L f = fscan L 0 (f.drop 0) := by unfold fchk; rw [if_neg h, if_neg h2, if_neg h3]; rfl
theorem nerr_range {L : Int} {i : Nat} {n : Nd} (h : inR L n = false) : nerr L i n = 1 := by unfold nerr; rw [h]; rfl
theorem nerr_shape {L : Int} {i : Nat} {n : Nd} (h : inR L n = true) (h2 : shp i n = false) : nerr L i n = 3 := by unfold nerr; rw [h, h2]; rfl
theorem nerr_none {L : Int} {i : Nat} {n : Nd} (h : inR L n = true) (h2 : shp i n = true) : nerr L i n = 0 := by unfold nerr; rw [h, h2]; rfl
set_option maxRecDepth 100000 in
set_option maxHeartbeats 4000000 in
theorem fcheck_any (L : Int) (A : Option Addr) (c : Nat) (f : List Nd) (w : World) (hL : Small L) (hA : NodesAt w w.heap.size A f) (hlen : f.length ≤ 9223372036854775807) :
    Calls Tryd.prog 21 #[.int .i64 L, .slice A f.length c] w fun e w' => Hid (e = .returned (errV (fchk L f))) ∧ Below w.heap.size w w' := by
  by_cases g : L < 1 ∨ 6 < L
  · have HL := Lib.hid (letters_any L w hL (.iface 61 (.int .i64 1)) (by rw [if_pos g]; rfl))
    have HR := Lib.hid (fchk_letters (f := f) g)
    clear g hA hlen
    generalize f.length = k at *
    go_enter Tryd.func21, Tryd.ntmps21
    go_wp2_with fail
    refine HL.out.mono ?_
    rintro e w2 ⟨rfl, rfl⟩
    clear HL
    go_wp2
    go_ret
    exact ⟨by rw [HR.out]; rfl, Below.refl _ _⟩
  have HL := Lib.hid (letters_any L w hL .nilIface (by rw [if_neg g]; rfl))
  by_cases g2 : f.length = 0
  · have HR := Lib.hid (fchk_none g g2)
    rw [g2]
    clear g hA hlen g2
    go_enter Tryd.func21, Tryd.ntmps21
    go_wp2_with fail
    refine HL.out.mono ?_
    rintro e w2 ⟨rfl, rfl⟩
    clear HL
    go_wp2
    go_ret
    exact ⟨by rw [HR.out]; rfl, Below.refl _ _⟩
  by_cases g3 : 40 < f.length
  · have HR := Lib.hid (fchk_many g g3)
    clear g hA g2
    generalize f.length = k at *
    go_enter Tryd.func21, Tryd.ntmps21
    go_wp2_with fail
    refine HL.out.mono ?_
    rintro e w2 ⟨rfl, rfl⟩
    clear HL
    go_wp2
    go_ret
    exact ⟨by rw [HR.out]; rfl, Below.refl _ _⟩
  have HS := Lib.hid (fchk_scan g g2 g3)
  have l1 : 1 ≤ L := by omega
  have l6 : L ≤ 6 := by omega
  have h0 : 0 < f.length := by omega
  have q1 : ((f.length : Int) == 0) = false := beq_eq_false_iff_ne.2 (by omega)
  have q2 : decide ((40 : Int) < (f.length : Int)) = false := decide_eq_false (by omega)
  have HA := Lib.hid hA
  have HB0 : Hid (Below w.heap.size w w) := Below.refl _ _
  clear g g2 hA hL
  go_enter Tryd.func21, Tryd.ntmps21
  go_wp2_with fail
  refine HL.out.mono ?_
  rintro e w2 ⟨rfl, rfl⟩
  clear HL
  go_wp2
  go_loopw [23] (fun i wr => ∃ (k : Nat), k ≤ f.length ∧ i = .int .i64 k ∧ Hid (Below w2.heap.size w2 wr) ∧ Hid (fscan L 0 (f.drop 0) = fscan L k (f.drop k))) (fun i _ => f.length - (intOf i).toNat)
  case atStart => exact ⟨0, by omega, rfl, HB0, (rfl : fscan L 0 (f.drop 0) = fscan L 0 (f.drop 0))⟩
  case round =>
    clear HB0
    obtain ⟨k, hk, rfl, HB, HE⟩ := hrel
    by_cases hlt : k < f.length
    · obtain ⟨n, hn⟩ : ∃ n, f[k]? = some n := ⟨_, List.getElem?_eq_getElem hlt⟩
      obtain ⟨ad, e, hadb, c0, c1, c2⟩ := (HA.out.on HB.out).at_ hn
      subst e
      have HN := Lib.hid (fscan_at (L := L) hn)
      obtain ⟨x, y, z⟩ := n
      obtain ⟨W1, hW1⟩ : ∃ W1, W1 = wr.alloc (.cells #[.int .i64 x, .int .i64 y, .int .i64 z] 29) := ⟨_, rfl⟩
      have HW1 := Lib.hid hW1
      have hb1 : Below wr.heap.size wr W1 := by rw [hW1]; exact bel_alloc _ _
      have HB1 := Lib.hid (HB.out.trans (hb1.mono HB.out.size))
      have hlt1 : wr.heap.size < W1.heap.size := by rw [hW1]; simp
      have d0 : W1.cell? ⟨wr.heap.size, 0, none⟩ = some (.int .i64 x) := by rw [hW1]; exact box_at wr _ _ 0
      have d1 : W1.cell? ⟨wr.heap.size, 1, none⟩ = some (.int .i64 y) := by rw [hW1]; exact box_at wr _ _ 1
      have d2 : W1.cell? ⟨wr.heap.size, 2, none⟩ = some (.int .i64 z) := by rw [hW1]; exact box_at wr _ _ 2
      have hR := inR_any L (x, y, z) l1 l6 W1
      have hS := fun W => shape_any (x, y, z) k W
      simp only at c0 c1 c2 hR hS
      clear hW1 hb1
      rcases hr : inR L (x, y, z) with _ | _
      · rw [hr] at hR
        have HR := Lib.hid hR
        have HX : Hid (fchk L f = 1) := by rw [Hid, HS.out, HE.out, HN.out, nerr_range hr]; rfl
        clear hr hR hS hn HN d0 d1 d2 hlt1
        go_wp2_with fail
        rw [← HW1.out]
        refine HR.out.mono ?_
        rintro e w3 ⟨rfl, hb⟩
        have HB3 := Lib.hid (HB1.out.trans (hb.mono HB1.out.size))
        clear hb HR
        go_wp2
        go_ret
        exact ⟨by rw [HX.out]; rfl, HB3.out⟩
      · rw [hr] at hR
        have HR := Lib.hid hR
        rcases hs : shp k (x, y, z) with _ | _
        · have HX : Hid (fchk L f = 3) := by rw [Hid, HS.out, HE.out, HN.out, nerr_shape hr hs]; rfl
          rw [hs] at hS
          clear hr hR hn HN hs
          go_wp2_with fail
          rw [← HW1.out]
          refine HR.out.mono ?_
          rintro e w3 ⟨rfl, hb⟩
          have HB3 := Lib.hid (HB1.out.trans (hb.mono HB1.out.size))
          have e0 := (hb.cell (p := ⟨wr.heap.size, 0, none⟩) hlt1).trans d0
          have e1 := (hb.cell (p := ⟨wr.heap.size, 1, none⟩) hlt1).trans d1
          have e2 := (hb.cell (p := ⟨wr.heap.size, 2, none⟩) hlt1).trans d2
          have HSS := Lib.hid (hS w3)
          clear hb HR d0 d1 d2 hS
          go_wp2_with fail
          refine HSS.out.mono ?_
          rintro e w4 ⟨rfl, hb⟩
          have HB4 := Lib.hid (HB3.out.trans (hb.mono HB3.out.size))
          clear hb HSS e0 e1 e2
          go_wp2
          go_ret
          exact ⟨by rw [HX.out]; rfl, HB4.out⟩
        · have HX : Hid (fscan L 0 (f.drop 0) = fscan L (k + 1) (f.drop (k + 1))) := by rw [Hid, HE.out, HN.out, nerr_none hr hs]; rfl
          rw [hs] at hS
          clear hr hR hn HN hs
          go_wp2_with fail
          rw [← HW1.out]
          refine HR.out.mono ?_
          rintro e w3 ⟨rfl, hb⟩
          have HB3 := Lib.hid (HB1.out.trans (hb.mono HB1.out.size))
          have e0 := (hb.cell (p := ⟨wr.heap.size, 0, none⟩) hlt1).trans d0
          have e1 := (hb.cell (p := ⟨wr.heap.size, 1, none⟩) hlt1).trans d1
          have e2 := (hb.cell (p := ⟨wr.heap.size, 2, none⟩) hlt1).trans d2
          have HSS := Lib.hid (hS w3)
          clear hb HR d0 d1 d2 hS
          go_wp2_with fail
          refine HSS.out.mono ?_
          rintro e w4 ⟨rfl, hb⟩
          have HB4 := Lib.hid (HB3.out.trans (hb.mono HB3.out.size))
          clear hb HSS e0 e1 e2 c0 c1 c2
          go_wp2
          go_roundw
          case rel => exact ⟨k + 1, by omega, by go_num, HB4, HX⟩
          case measure => simp [intOf]; omega
    · obtain rfl : k = f.length := by omega
      have HX : Hid (fchk L f = 0) := by rw [Hid, HS.out, HE.out, fscan_end]
      go_wp2
      go_ret
      exact ⟨by rw [HX.out]; rfl, HB.out⟩
end Go.Proofs.YtaelgnmklepebaaDoor.Fm
