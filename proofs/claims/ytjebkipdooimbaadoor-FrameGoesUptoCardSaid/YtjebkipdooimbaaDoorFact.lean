/- The walk of the laws' own closed fact on frames. -/
import Derived.Test.YtjebkipdooimbaaDoorScan
import Derived.Test.YtjebkipdooimbaaDoorSays
namespace Go.Proofs.YtjebkipdooimbaaDoor.Fr
open Go.RowKit Go.IntWalk Go.PlainAid Go.Proofs.YtjebkipdooimbaaDoor.Wd Go.Proofs.YtjebkipdooimbaaDoor.Pk Go.Proofs.YtjebkipdooimbaaDoor.Sm Go.Proofs.YtjebkipdooimbaaDoor.Er

theorem scan_one : scan [1, 0, 1] = ([[0]], 3, 0) := by decide +kernel
theorem scan_two : scan [1, 0, 2] = ([], 0, 7) := by decide +kernel
theorem texts_lit (w : World) (b : List UInt8) : TextsAt (w.alloc (.cells #[.string (str b)] 9)) (w.alloc (.cells #[.string (str b)] 9)).heap.size (some ⟨w.heap.size, 0, none⟩) [b] := by
  intro k u hk
  rcases k with _ | k
  · simp at hk; subst hk
    exact ⟨_, rfl, by simp, by simp [Addr.add, tx]⟩
  · simp at hk
set_option maxRecDepth 100000 in
set_option maxHeartbeats 1000000 in
theorem fact_ok (w : World) (hg : w.cell? ⟨0, 0, none⟩ = some (.iface 78 (.agg #[.pointer (some ⟨1, 23, none⟩)]))) :
    Calls Tryd.prog 16 #[] w fun e w' => e = .returned (.bool true) ∧ Below w.heap.size w w' := by
  have H1 := Lib.hid (fun W => scan_ok ⟨#[1, 0, 1]⟩ W (by decide) [[0]] 3 0 scan_one (by simp))
  have H2 := Lib.hid (fun W => scan_ok ⟨#[1, 0, 2]⟩ W (by decide) [] 0 7 scan_two (by simp))
  have HE := Lib.hid (fun W => says 7 hg W)
  have hn : errV 0 = .nilIface := rfl
  clear hg
  generalize errV 7 = E at *
  go_enter Tryd.func16, Tryd.ntmps16
  go_wp2_with fail
  refine (H1.out _).mono ?_
  rintro e w1 ⟨A1, c1, rfl, ht, hb⟩
  have HT1 := Lib.hid ht
  have HB1 := Lib.hid hb
  clear hb ht H1
  go_wp2_with fail
  refine (H2.out _).mono ?_
  rintro e w2 ⟨A2, c2, rfl, ht, hb⟩
  have HT2 := Lib.hid (HT1.out.on hb)
  have HB2 := Lib.hid (HB1.out.trans (hb.mono HB1.out.size))
  clear hb ht H2 HT1 HB1
  have HB3 := Lib.hid (HB2.out.trans ((Below.refl w2.heap.size w2).alloc (Nat.le_refl _) (.cells #[.string (str [0])] 9) |>.mono HB2.out.size))
  have HQ := Lib.hid (texts_same A1 (some ⟨w2.heap.size, 0, none⟩) c1 1 [[0]] [[0]] (w2.alloc (.cells #[.string (str [0])] 9)) rfl (HT2.out.on ((Below.refl _ _).alloc (Nat.le_refl _) _)) (texts_lit w2 [0]) (by simp))
  go_wp2_with fail
  refine HQ.out.mono ?_
  rintro e w3 ⟨rfl, hb⟩
  have HB4 := Lib.hid (HB3.out.trans (hb.mono HB3.out.size))
  clear hb HQ HB3 HT2
  go_wp2_with fail
  refine (HE.out _ HB4.out).mono ?_
  rintro e w4 ⟨rfl, hb⟩
  have HB5 := Lib.hid (HB4.out.trans (hb.mono HB4.out.size))
  clear hb HB4 HE
  go_wp2
  go_ret
  exact ⟨rfl, HB5.out⟩
end Go.Proofs.YtjebkipdooimbaaDoor.Fr
