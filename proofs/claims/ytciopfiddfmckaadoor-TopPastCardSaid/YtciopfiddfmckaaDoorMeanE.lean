/- The walks of package mean's End and Ahead. -/
import Derived.Test.YtciopfiddfmckaaDoorMeanW
import Derived.Test.YtciopfiddfmckaaDoorFormW
namespace Go.Proofs.YtciopfiddfmckaaDoor.Fm
open Go.RowKit Go.IntWalk Go.Proofs.YtciopfiddfmckaaDoor.Wd Go.Proofs.YtciopfiddfmckaaDoor.Wo

theorem good_six {L : Int} {f : List Nd} (g : FGood L f) : FGood 6 f := by
  have h6 := g.l6
  have h1 := g.l1
  refine ⟨by omega, by omega, g.ne, g.le, fun j n hj => ?_⟩
  have q := g.nd j n hj
  refine ⟨q.k0, q.k9, fun e => ?_, q.a0, q.a1, q.b0, q.b2⟩
  have hs := q.set e
  rcases (show L = 1 ∨ L = 2 ∨ L = 3 ∨ L = 4 ∨ L = 5 ∨ L = 6 by omega) with rfl | rfl | rfl | rfl | rfl | rfl <;> exact ⟨hs.1, Int.lt_of_lt_of_le hs.2 (by decide)⟩
set_option maxRecDepth 100000 in
set_option maxHeartbeats 1000000 in
theorem isForm_any {L : Int} (A : Option Addr) (c : Nat) (f : List Nd) (w : World) (hA : NodesAt w w.heap.size A f) (hg : FGood L f) :
    Calls Tryd.prog 62 #[.slice A f.length c] w fun e w' => e = .returned (.bool true) ∧ Below w.heap.size w w' := by
  have HC := fcheck_any 6 A c f w ⟨by omega, by omega⟩ hA (by have := hg.le; omega)
  rw [fchk_iff.2 (good_six hg)] at HC
  have HC := Lib.hid HC
  clear hA hg
  generalize f.length = N at *
  go_enter Tryd.func62, Tryd.ntmps62
  go_wp2_with fail
  refine HC.out.mono ?_
  rintro e w2 ⟨he, hb2⟩
  obtain rfl := he.out
  have HB2 := Lib.hid hb2
  clear HC he hb2
  simp only [errV]
  go_wp2
  go_ret
  exact ⟨rfl, HB2.out⟩
set_option maxRecDepth 100000 in
set_option maxHeartbeats 1000000 in
theorem mend_any {L : Int} (A : Option Addr) (c : Nat) (f : List Nd) (w : World) (hA : NodesAt w w.heap.size A f) (hg : FGood L f) :
    Calls Tryd.prog 50 #[.slice A f.length c] w fun e w' => Hid (∃ g, e = .returned (.slice (some ⟨g, 0, none⟩) f.length f.length) ∧ Own w w' [eBools (.slice (some ⟨g, 0, none⟩) f.length f.length) (vec f [])] []) := by
  have HI := Lib.hid (isForm_any A c f w hA hg)
  have HE := Lib.hid (fun (W : World) (hb : Below w.heap.size w W) => end_any A c f W (hA.on hb) hg)
  clear hA hg
  generalize f.length = N at *
  go_enter Tryd.func50, Tryd.ntmps50
  go_wp2_with fail
  refine HI.out.mono ?_
  rintro e w2 ⟨rfl, hb2⟩
  have HB2 := Lib.hid hb2
  clear HI hb2
  go_wp2_with fail
  refine (HE.out w2 HB2.out).mono ?_
  rintro e w3 he
  obtain ⟨g, rfl, ho⟩ := he.out
  have HO := Lib.hid (ho.base HB2.out)
  clear HE he ho HB2
  go_wp2
  go_ret
  exact ⟨g, rfl, HO.out⟩
set_option maxRecDepth 100000 in
set_option maxHeartbeats 1000000 in
theorem mnah_any {L : Int} (A : Option Addr) (c : Nat) (f : List Nd) (B : Option Addr) (cb : Nat) (T : List Bool) (a : Int) (w : World) (hA : NodesAt w w.heap.size A f) (hg : FGood L f) (hT : T.length = f.length) (hB : Df.BoolsAt w w.heap.size B T) (ha0 : 0 ≤ a) (ha6 : a < 6) :
    Calls Tryd.prog 47 #[.slice A f.length c, .slice B f.length cb, .int .i64 a] w fun e w' => Hid (∃ g, e = .returned (.slice (some ⟨g, 0, none⟩) f.length f.length) ∧ Own w w' [eBools (.slice (some ⟨g, 0, none⟩) f.length f.length) (nxt f T a)] []) := by
  have HI := Lib.hid (isForm_any A c f w hA hg)
  have HE := Lib.hid (fun (W : World) (hb : Below w.heap.size w W) => nah_any (L := L) A c f B cb T a W (hA.on hb) hg hT (hB.on hb) ha0 (by omega))
  have hn40 := hg.le
  clear hA hg hB hT
  generalize f.length = N at *
  go_enter Tryd.func47, Tryd.ntmps47
  go_wp2_with fail
  refine HI.out.mono ?_
  rintro e w2 ⟨rfl, hb2⟩
  have HB2 := Lib.hid hb2
  clear HI hb2
  go_wp2_with fail
  refine (HE.out w2 HB2.out).mono ?_
  rintro e w3 he
  obtain ⟨g, rfl, ho⟩ := he.out
  have HO := Lib.hid (ho.base HB2.out)
  clear HE he ho HB2
  go_wp2
  go_ret
  exact ⟨g, rfl, HO.out⟩

theorem mahead_any {L : Int} (A : Option Addr) (c : Nat) (f : List Nd) (B : Option Addr) (cb : Nat) (u : List Int) (a : Int) (w : World) (hA : NodesAt w w.heap.size A f) (hg : FGood L f) (hB : Df.BoolsAt w w.heap.size B (vec f u)) (ha0 : 0 ≤ a) (ha6 : a < 6) :
    Calls Tryd.prog 47 #[.slice A f.length c, .slice B f.length cb, .int .i64 a] w fun e w' => Hid (∃ g, e = .returned (.slice (some ⟨g, 0, none⟩) f.length f.length) ∧ Own w w' [eBools (.slice (some ⟨g, 0, none⟩) f.length f.length) (vec f (a :: u))] []) := by
  have h := mnah_any A c f B cb (vec f u) a w hA hg (vec_length f u) hB ha0 ha6
  rwa [vec_next hg.nd] at h
end Go.Proofs.YtciopfiddfmckaaDoor.Fm
