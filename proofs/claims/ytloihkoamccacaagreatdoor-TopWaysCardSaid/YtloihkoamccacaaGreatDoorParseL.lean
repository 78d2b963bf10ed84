/- The walks of package form: lasting. -/
import Derived.Test.YtloihkoamccacaaGreatDoorParse
import Derived.Deep.RegionWith
namespace Go.Proofs.YtloihkoamccacaaGreatDoor.Fm
open Go.RowKit Go.IntWalk Go.PlainAid Go.Proofs.YtloihkoamccacaaGreatDoor.Wd Go.Proofs.YtloihkoamccacaaGreatDoor.Wo

/-- One more row that is only read. -/
def eLit (g : Nat) : Ent := ⟨3, 1, .slice (some ⟨g, 0, none⟩) 2 2, 2, [.int .i64 8, .int .i64 9]⟩
theorem Pr.lit {w0 w : World} {g : Nat} {T : ByteArray} {L : Int} {fs : List Ent} {k : Nat} {f : List Nd} (h : Pr w0 g T L fs w k f) : Pr w0 g T L (eLit w.heap.size :: fs) (w.alloc (.cells #[.int .i64 8, .int .i64 9] 3)) k f := by
  obtain ⟨v, h⟩ := h
  exact ⟨v, (h.lit 3 1 2 #[.int .i64 8, .int .i64 9] rfl (by simp [maxLen])).fin⟩
theorem Pr.litCell {w0 w : World} {g g2 : Nat} {T : ByteArray} {L : Int} {fs : List Ent} {k : Nat} {f : List Nd} (h : Pr w0 g T L (eLit g2 :: fs) w k f) : w.cell? ⟨g2, 0, none⟩ = some (.int .i64 8) ∧ w.cell? ⟨g2, 1, none⟩ = some (.int .i64 9) := by
  obtain ⟨v, h⟩ := h
  have hm : eLit g2 ∈ [ePar g [.string T, .int .i64 (k : Int), v, .int .i64 L], eNodes v f] ++ (eLit g2 :: fs) := by simp
  exact ⟨(h.cell (j := 0) hm rfl).1, (h.cell (j := 1) hm rfl).1⟩
theorem Pr.less {w0 w : World} {g : Nat} {T : ByteArray} {L : Int} {fs fs' : List Ent} {k : Nat} {f : List Nd} (h : Pr w0 g T L fs w k f) (p : ∀ e ∈ fs', e ∈ fs) : Pr w0 g T L fs' w k f := by
  obtain ⟨v, h⟩ := h
  exact ⟨v, h.weak p⟩
theorem lit_mem {x : Ent} {fs : List Ent} : ∀ e ∈ fs, e ∈ x :: fs := fun _ h => List.mem_cons_of_mem _ h
set_option maxRecDepth 100000 in
set_option maxHeartbeats 1000000 in
theorem lasting_bad {T : ByteArray} {L : Int} {w0 w : World} {g : Nat} {fs : List Ent} {k : Nat} {f : List Nd} (h : Pr w0 g T L fs w k f) (hk : k ≤ T.size) {s : List UInt8} (hs : T.data.toList.drop k = s) (hf : f.length + s.length ≤ 600) (hp : Ps L.toNat .sg s none)
    (hS : Does 99 .sg L T s) : Calls Tryz.prog 92 #[.pointer (some ⟨g, 0, none⟩)] w (Res w0 g T L fs f none) := by
  have HX := Lib.hid (hS w0 w g fs k f _ h hk hs hf hp)
  clear h hk hs hf hp hS
  go_enter Tryz.func92, Tryz.ntmps92
  go_wp2_with fail
  refine HX.out.mono ?_
  rintro e w2 ⟨rfl, h2⟩
  exact ⟨rfl, rfl, h2⟩
set_option maxRecDepth 100000 in
set_option maxHeartbeats 1000000 in
theorem lasting_one {T : ByteArray} {L : Int} {w0 w : World} {g : Nat} {fs : List Ent} {k : Nat} {f : List Nd} (h : Pr w0 g T L fs w k f) (hk : k ≤ T.size) {s r : List UInt8} {t : Tree} (hs : T.data.toList.drop k = s) (hf : f.length + s.length ≤ 600) (hp : Ps L.toNat .sg s (some (t, r)))
    (hS : Does 99 .sg L T s) (h85 : ∀ r', r ≠ 85 :: r') (h82 : ∀ r', r ≠ 82 :: r') : Calls Tryz.prog 92 #[.pointer (some ⟨g, 0, none⟩)] w (Res w0 g T L fs f (some (t, r))) := by
  have HX := Lib.hid (hS w0 w g fs k f _ h hk hs hf hp)
  clear h hk hs hf hp hS
  go_enter Tryz.func92, Tryz.ntmps92
  go_wp2_with fail
  refine HX.out.mono ?_
  rintro e w2 ⟨k2, hk2, hd2, rfl, h2⟩
  have H2 := Lib.hid h2.out.lit
  have HU := Lib.hid (drop_not (fun r' e => h85 r' (hd2.symm.trans e)))
  have HV := Lib.hid (drop_not (fun r' e => h82 r' (hd2.symm.trans e)))
  have HD := Lib.hid hd2
  clear HX h2 h85 h82 hd2
  go_wp2
  go_loopw [11] (fun i wr => ∃ j : Nat, j ≤ 2 ∧ i = .int .i64 (j : Int) ∧ Hid (Pr w0 g T L (eLit w2.heap.size :: fs) wr k2 (flat t f))) (fun i _ => 2 - (intOf i).toNat)
  case atStart => exact ⟨0, by omega, rfl, H2⟩
  case round =>
    clear H2
    obtain ⟨j, hj, rfl, HP⟩ := hrel
    by_cases h0 : j = 0
    · subst h0
      have HS := Lib.hid (skip_no (HP.out.on (below_drewN (Below.refl _ _) 1)) hk2 85 85 rfl HU.out)
      obtain ⟨c0, c1⟩ := HP.out.litCell
      clear HP
      go_wp2_with fail
      go_region_with ((go_at_call 90; refine HS.out.mono ?_; rintro e w5 ⟨rfl, h5⟩))
      clear HS c0 c1
      go_wp2
      go_roundw
      case rel => exact ⟨1, by omega, by go_num, h5⟩
      case measure => simp [intOf]
    by_cases h1 : j = 1
    · subst h1
      have HS := Lib.hid (skip_no (HP.out.on (below_drewN (Below.refl _ _) 1)) hk2 82 82 rfl HV.out)
      obtain ⟨c0, c1⟩ := HP.out.litCell
      clear HP
      go_wp2_with fail
      go_region_with ((go_at_call 90; refine HS.out.mono ?_; rintro e w5 ⟨rfl, h5⟩))
      clear HS c0 c1
      go_wp2
      go_roundw
      case rel => exact ⟨2, by omega, by go_num, h5⟩
      case measure => simp [intOf]
    · obtain rfl : j = 2 := by omega
      have HN := Lib.hid (HP.out.less lit_mem)
      clear HP
      go_wp2
      go_ret
      exact ⟨k2, hk2, HD.out, rfl, HN⟩
set_option maxRecDepth 100000 in
set_option maxHeartbeats 1000000 in
theorem lasting_two8 {T : ByteArray} {L : Int} {w0 w : World} {g : Nat} {fs : List Ent} {k : Nat} {f : List Nd} (hT : T.size ≤ 300) (h : Pr w0 g T L fs w k f) (hk : k ≤ T.size) {s r : List UInt8} {t : Tree} (hs : T.data.toList.drop k = s) (hf : f.length + s.length ≤ 600) (hp : Ps L.toNat .sg s (some (t, 85 :: r)))
    (hS : Does 99 .sg L T s) {y : Option (Tree × List UInt8)} (hq : Ps L.toNat .la r y) (hL : Does 92 .la L T r) : Calls Tryz.prog 92 #[.pointer (some ⟨g, 0, none⟩)] w (Res w0 g T L fs f (y.map fun p => (.bin 8 t p.1, p.2))) := by
  have HX := Lib.hid (hS w0 w g fs k f _ h hk hs hf hp)
  have hb1 := (fits_sg hp f).1
  have hb2 : (flat t f).length + (85 :: r).length ≤ 600 := by omega
  clear hb1
  have hb1 := hb2
  clear h hk hs hf hp hS
  go_enter Tryz.func92, Tryz.ntmps92
  go_wp2_with fail
  refine HX.out.mono ?_
  rintro e w2 ⟨k2, hk2, hd2, rfl, h2⟩
  have H2 := Lib.hid h2.out.lit
  have HLL := fun W (hW : Pr w0 g T L (eLit w2.heap.size :: fs) W (k2 + 1) (flat t f)) => hL w0 W g _ (k2 + 1) (flat t f) _ hW (data_bt (drop_get hd2).1).2 (drop_get hd2).2 (by simp at hb1; omega) hq
  have HB : Hid (∀ t2 r2, y = some (t2, r2) → (flat t2 (flat t f)).length ≤ 1000) := fun t2 r2 e => by
    subst e
    have := Ps_size hq _ _ rfl
    simp only [Szd] at this
    rw [flat_length]
    simp at hb1; omega
  have HU := Lib.hid (drop_get hd2).1
  clear HX h2 hd2 hL hq hb1 hb2
  go_wp2
  go_loopw [11] (fun i wr => ∃ j : Nat, j ≤ 0 ∧ i = .int .i64 (j : Int) ∧ Hid (Pr w0 g T L (eLit w2.heap.size :: fs) wr k2 (flat t f))) (fun i _ => 2 - (intOf i).toNat)
  case atStart => exact ⟨0, by omega, rfl, H2⟩
  case round =>
    clear H2
    obtain ⟨j, hj, rfl, HP⟩ := hrel
    obtain rfl : j = 0 := by omega
    have HS := Lib.hid (skip_yes (HP.out.on (below_drewN (Below.refl _ _) 1)) hT 85 85 rfl HU.out)
    obtain ⟨c0, c1⟩ := HP.out.litCell
    clear HP
    go_wp2_with fail
    go_region_with ((go_at_call 90; refine HS.out.mono ?_; rintro e w5 ⟨rfl, h5⟩))
    clear HS c0 c1
    have HX := Lib.hid (HLL w5 h5.out)
    clear HLL h5
    go_wp2_with fail
    refine HX.out.mono ?_
    clear HX
    rcases y with _ | ⟨t2, r2⟩
    · rintro e w6 ⟨rfl, h6⟩
      exact ⟨rfl, rfl, Lib.hid (h6.out.weak lit_mem)⟩
    · rintro e w6 ⟨k6, hk6, hd6, rfl, h6⟩
      have HR := Lib.hid hd6
      have HA := Lib.hid (add_any h6.out (HB.out _ _ rfl) (8, (((flat t f).length - 1 : Nat) : Int), (((flat t2 (flat t f)).length - 1 : Nat) : Int)))
      have HF : Hid (flat (.bin 8 t t2) f = flat t2 (flat t f) ++ [(8, (((flat t f).length - 1 : Nat) : Int), (((flat t2 (flat t f)).length - 1 : Nat) : Int))]) := rfl
      have HU2 : Hid (((flat (.bin 8 t t2) f).length - 1 : Nat) = (flat t2 (flat t f)).length) := by unfold Hid; simp [flat]
      clear h6 hd6
      generalize (flat t2 (flat t f)).length - 1 = q2 at *
      generalize (flat t f).length - 1 = q at *
      go_wp2_with fail
      refine HA.out.mono ?_
      rintro e w7 ⟨rfl, h7⟩
      clear HA
      go_wp2
      go_ret
      exact ⟨k6, hk6, HR.out, by show _ = Ending.returned (Value.int .i64 (((flat (.bin 8 t t2) f).length - 1 : Nat) : Int)); rw [HU2.out]; rfl, by show Hid (Pr w0 g T L fs w7 k6 (flat (.bin 8 t t2) f)); rw [HF.out]; exact Lib.hid (h7.out.less lit_mem)⟩
set_option maxRecDepth 100000 in
set_option maxHeartbeats 1000000 in
theorem lasting_two9 {T : ByteArray} {L : Int} {w0 w : World} {g : Nat} {fs : List Ent} {k : Nat} {f : List Nd} (hT : T.size ≤ 300) (h : Pr w0 g T L fs w k f) (hk : k ≤ T.size) {s r : List UInt8} {t : Tree} (hs : T.data.toList.drop k = s) (hf : f.length + s.length ≤ 600) (hp : Ps L.toNat .sg s (some (t, 82 :: r)))
    (hS : Does 99 .sg L T s) {y : Option (Tree × List UInt8)} (hq : Ps L.toNat .la r y) (hL : Does 92 .la L T r) : Calls Tryz.prog 92 #[.pointer (some ⟨g, 0, none⟩)] w (Res w0 g T L fs f (y.map fun p => (.bin 9 t p.1, p.2))) := by
  have HX := Lib.hid (hS w0 w g fs k f _ h hk hs hf hp)
  have hb1 := (fits_sg hp f).1
  have hb2 : (flat t f).length + (82 :: r).length ≤ 600 := by omega
  clear hb1
  have hb1 := hb2
  clear h hk hs hf hp hS
  go_enter Tryz.func92, Tryz.ntmps92
  go_wp2_with fail
  refine HX.out.mono ?_
  rintro e w2 ⟨k2, hk2, hd2, rfl, h2⟩
  have H2 := Lib.hid h2.out.lit
  have HLL := fun W (hW : Pr w0 g T L (eLit w2.heap.size :: fs) W (k2 + 1) (flat t f)) => hL w0 W g _ (k2 + 1) (flat t f) _ hW (data_bt (drop_get hd2).1).2 (drop_get hd2).2 (by simp at hb1; omega) hq
  have HB : Hid (∀ t2 r2, y = some (t2, r2) → (flat t2 (flat t f)).length ≤ 1000) := fun t2 r2 e => by
    subst e
    have := Ps_size hq _ _ rfl
    simp only [Szd] at this
    rw [flat_length]
    simp at hb1; omega
  have HU := Lib.hid (drop_get hd2).1
  have HV := Lib.hid (drop_other hd2 (show (82 : UInt8) ≠ 85 by decide))
  clear HX h2 hd2 hL hq hb1 hb2
  go_wp2
  go_loopw [11] (fun i wr => ∃ j : Nat, j ≤ 1 ∧ i = .int .i64 (j : Int) ∧ Hid (Pr w0 g T L (eLit w2.heap.size :: fs) wr k2 (flat t f))) (fun i _ => 2 - (intOf i).toNat)
  case atStart => exact ⟨0, by omega, rfl, H2⟩
  case round =>
    clear H2
    obtain ⟨j, hj, rfl, HP⟩ := hrel
    by_cases h0 : j = 0
    · subst h0
      clear HLL HB HU
      have HS := Lib.hid (skip_no (HP.out.on (below_drewN (Below.refl _ _) 1)) hk2 85 85 rfl HV.out)
      obtain ⟨c0, c1⟩ := HP.out.litCell
      clear HP
      go_wp2_with fail
      go_region_with ((go_at_call 90; refine HS.out.mono ?_; rintro e w5 ⟨rfl, h5⟩))
      clear HS c0 c1
      go_wp2
      go_roundw
      case rel => exact ⟨1, by omega, by go_num, h5⟩
      case measure => simp [intOf]
    · obtain rfl : j = 1 := by omega
      clear HV h0
      have HS := Lib.hid (skip_yes (HP.out.on (below_drewN (Below.refl _ _) 1)) hT 82 82 rfl HU.out)
      obtain ⟨c0, c1⟩ := HP.out.litCell
      clear HP
      go_wp2_with fail
      go_region_with ((go_at_call 90; refine HS.out.mono ?_; rintro e w5 ⟨rfl, h5⟩))
      clear HS c0 c1
      have HX := Lib.hid (HLL w5 h5.out)
      clear HLL h5
      go_wp2_with fail
      refine HX.out.mono ?_
      clear HX
      rcases y with _ | ⟨t2, r2⟩
      · rintro e w6 ⟨rfl, h6⟩
        exact ⟨rfl, rfl, Lib.hid (h6.out.weak lit_mem)⟩
      · rintro e w6 ⟨k6, hk6, hd6, rfl, h6⟩
        have HR := Lib.hid hd6
        have HA := Lib.hid (add_any h6.out (HB.out _ _ rfl) (9, (((flat t f).length - 1 : Nat) : Int), (((flat t2 (flat t f)).length - 1 : Nat) : Int)))
        have HF : Hid (flat (.bin 9 t t2) f = flat t2 (flat t f) ++ [(9, (((flat t f).length - 1 : Nat) : Int), (((flat t2 (flat t f)).length - 1 : Nat) : Int))]) := rfl
        have HU2 : Hid (((flat (.bin 9 t t2) f).length - 1 : Nat) = (flat t2 (flat t f)).length) := by unfold Hid; simp [flat]
        clear h6 hd6
        generalize (flat t2 (flat t f)).length - 1 = q2 at *
        generalize (flat t f).length - 1 = q at *
        go_wp2_with fail
        refine HA.out.mono ?_
        rintro e w7 ⟨rfl, h7⟩
        clear HA
        go_wp2
        go_ret
        exact ⟨k6, hk6, HR.out, by show _ = Ending.returned (Value.int .i64 (((flat (.bin 9 t t2) f).length - 1 : Nat) : Int)); rw [HU2.out]; rfl, by show Hid (Pr w0 g T L fs w7 k6 (flat (.bin 9 t t2) f)); rw [HF.out]; exact Lib.hid (h7.out.less lit_mem)⟩
end Go.Proofs.YtloihkoamccacaaGreatDoor.Fm
