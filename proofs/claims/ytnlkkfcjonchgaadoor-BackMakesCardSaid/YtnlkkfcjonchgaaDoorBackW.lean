/- The walks of package mean's End and Ahead, and of package back's valuesOf and of the two functions that Back hands on. -/
import Derived.Test.YtnlkkfcjonchgaaDoorMeanW
import Derived.Test.YtnlkkfcjonchgaaDoorFormW
import Derived.Test.YtnlkkfcjonchgaaDoorVals
import Derived.Test.YtnlkkfcjonchgaaDoorBackM
import Derived.Laws.CopyOwn

namespace Go.Proofs.YtnlkkfcjonchgaaDoor.Fm
open Go.RowKit Go.IntWalk Go.Proofs.YtnlkkfcjonchgaaDoor.Wd Go.Proofs.YtnlkkfcjonchgaaDoor.Wo Go.Proofs.YtnlkkfcjonchgaaDoor.Mp

theorem good_six {L : Int} {f : List Nd} (g : FGood L f) : FGood 6 f := by
  have h6 := g.l6
  have h1 := g.l1
  refine ⟨by omega, by omega, g.ne, g.le, fun j n hj => ?_⟩
  have q := g.nd j n hj
  refine ⟨q.k0, q.k9, fun e => ?_, q.a0, q.a1, q.b0, q.b2⟩
  have hs := q.set e
  rcases (show L = 1 ∨ L = 2 ∨ L = 3 ∨ L = 4 ∨ L = 5 ∨ L = 6 by omega) with rfl | rfl | rfl | rfl | rfl | rfl <;> exact ⟨hs.1, Int.lt_of_lt_of_le hs.2 (by decide)⟩
set_option maxRecDepth 100000 in
set_option maxHeartbeats 1000000 in
theorem isForm_any {L : Int} (A : Option Addr) (c : Nat) (f : List Nd) (w : World) (hA : NodesAt w w.heap.size A f) (hg : FGood L f) :
    Calls Tryd.prog 50 #[.slice A f.length c] w fun e w' => e = .returned (.bool true) ∧ Below w.heap.size w w' := by
  have HC := fcheck_any 6 A c f w ⟨by omega, by omega⟩ hA (by have := hg.le; omega)
  rw [fchk_iff.2 (good_six hg)] at HC
  have HC := Lib.hid HC
  clear hA hg
  generalize f.length = N at *
  go_enter Tryd.func50, Tryd.ntmps50
  go_wp2_with fail
  refine HC.out.mono ?_
  rintro e w2 ⟨he, hb2⟩
  obtain rfl := he.out
  have HB2 := Lib.hid hb2
  clear HC he hb2
  simp only [errV]
  go_wp2
  go_ret
  exact ⟨rfl, HB2.out⟩
set_option maxRecDepth 100000 in
set_option maxHeartbeats 1000000 in
theorem mend_any {L : Int} (A : Option Addr) (c : Nat) (f : List Nd) (w : World) (hA : NodesAt w w.heap.size A f) (hg : FGood L f) :
    Calls Tryd.prog 31 #[.slice A f.length c] w fun e w' => Hid (∃ g, e = .returned (.slice (some ⟨g, 0, none⟩) f.length f.length) ∧ Own w w' [eBools (.slice (some ⟨g, 0, none⟩) f.length f.length) (vec f [])] []) := by
  have HI := Lib.hid (isForm_any A c f w hA hg)
  have HE := Lib.hid (fun (W : World) (hb : Below w.heap.size w W) => end_any A c f W (hA.on hb) hg)
  clear hA hg
  generalize f.length = N at *
  go_enter Tryd.func31, Tryd.ntmps31
  go_wp2_with fail
  refine HI.out.mono ?_
  rintro e w2 ⟨rfl, hb2⟩
  have HB2 := Lib.hid hb2
  clear HI hb2
  go_wp2_with fail
  refine (HE.out w2 HB2.out).mono ?_
  rintro e w3 he
  obtain ⟨g, rfl, ho⟩ := he.out
  have HO := Lib.hid (ho.base HB2.out)
  clear HE he ho HB2
  go_wp2
  go_ret
  exact ⟨g, rfl, HO.out⟩
set_option maxRecDepth 100000 in
set_option maxHeartbeats 1000000 in
theorem mahead_any {L : Int} (A : Option Addr) (c : Nat) (f : List Nd) (B : Option Addr) (cb : Nat) (u : List Int) (a : Int) (w : World) (hA : NodesAt w w.heap.size A f) (hg : FGood L f) (hB : Df.BoolsAt w w.heap.size B (vec f u)) (ha0 : 0 ≤ a) (ha6 : a < 6) :
    Calls Tryd.prog 28 #[.slice A f.length c, .slice B f.length cb, .int .i64 a] w fun e w' => Hid (∃ g, e = .returned (.slice (some ⟨g, 0, none⟩) f.length f.length) ∧ Own w w' [eBools (.slice (some ⟨g, 0, none⟩) f.length f.length) (vec f (a :: u))] []) := by
  have HI := Lib.hid (isForm_any A c f w hA hg)
  have HE := Lib.hid (fun (W : World) (hb : Below w.heap.size w W) => ahead_any (L := L) A c f B cb u a W (hA.on hb) hg (hB.on hb) ha0 (by omega))
  have hn40 := hg.le
  clear hA hg hB
  generalize f.length = N at *
  go_enter Tryd.func28, Tryd.ntmps28
  go_wp2_with fail
  refine HI.out.mono ?_
  rintro e w2 ⟨rfl, hb2⟩
  have HB2 := Lib.hid hb2
  clear HI hb2
  go_wp2_with fail
  refine (HE.out w2 HB2.out).mono ?_
  rintro e w3 he
  obtain ⟨g, rfl, ho⟩ := he.out
  have HO := Lib.hid (ho.base HB2.out)
  clear HE he ho HB2
  go_wp2
  go_ret
  exact ⟨g, rfl, HO.out⟩

/-! ### package back -/
/-- The values of all nodes; the places behind them stay false. -/
def padB (l : List Bool) : List Bool := l ++ List.replicate (40 - l.length) false
theorem padB_length {l : List Bool} (h : l.length ≤ 40) : (padB l).length = 40 := by simp [padB]; omega
theorem padB_take (l : List Bool) : (padB l).take l.length = l := by simp [padB]
theorem padB_inj {l m : List Bool} (hl : l.length = m.length) (h : padB l = padB m) : l = m := by rw [← padB_take l, h, hl, padB_take]
theorem padB_splice (l : List Bool) : splice (Df.bv (List.replicate 40 false)) 0 (Df.bv l) = Df.bv (padB l) := by
  unfold splice padB Df.bv
  rw [List.take_zero, List.nil_append, Nat.zero_add, List.length_map, ← List.map_drop, List.drop_replicate, List.map_append]

theorem below_some {w : World} {B : Nat} (_h : B < w.heap.size) : Below B w w := ⟨rfl, rfl, rfl, Nat.le_refl _, fun _ _ => rfl⟩
/-- An array of zeros and what is laid over it. -/
def zV : List Bool := List.replicate 40 false
theorem zV_cells : (#[.bool false, .bool false, .bool false, .bool false, .bool false, .bool false, .bool false, .bool false, .bool false, .bool false, .bool false, .bool false, .bool false, .bool false, .bool false, .bool false, .bool false, .bool false, .bool false, .bool false, .bool false, .bool false, .bool false, .bool false, .bool false, .bool false, .bool false, .bool false, .bool false, .bool false, .bool false, .bool false, .bool false, .bool false, .bool false, .bool false, .bool false, .bool false, .bool false, .bool false] : Array Value) = (Df.bv zV).toArray := by rfl
set_option maxRecDepth 100000 in
set_option maxHeartbeats 1000000 in
theorem valuesOf_any (B : Option Addr) (c : Nat) (l : List Bool) (w : World) (hB : Df.BoolsAt w w.heap.size B l) (hl : l.length ≤ 40) (hp : 0 < l.length) :
    Calls Tryd.prog 27 #[.slice B l.length c] w fun e w' => e = .returned (Df.KV (padB l)) ∧ Below w.heap.size w w' := by
  obtain ⟨zv, hzv⟩ : ∃ zv : Array Value, zv = #[.bool false, .bool false, .bool false, .bool false, .bool false, .bool false, .bool false, .bool false, .bool false, .bool false, .bool false, .bool false, .bool false, .bool false, .bool false, .bool false, .bool false, .bool false, .bool false, .bool false, .bool false, .bool false, .bool false, .bool false, .bool false, .bool false, .bool false, .bool false, .bool false, .bool false, .bool false, .bool false, .bool false, .bool false, .bool false, .bool false, .bool false, .bool false, .bool false, .bool false] := ⟨_, rfl⟩
  have hzl : zv = (Df.bv zV).toArray := hzv.trans zV_cells
  have ho1 := Df.own_val_lit (own_start w) (l := zV) (by rfl) hzl
  have ho2 := Df.own_val_lit ho1 (l := zV) (by rfl) hzl
  obtain ⟨w2, hw2⟩ : ∃ w2, w2 = (w.alloc (.cells zv 61)).alloc (.cells zv 61) := ⟨_, rfl⟩
  rw [← hw2] at ho2
  have hsz : (w.alloc (.cells zv 61)).heap.size = w.heap.size + 1 := by simp
  rw [hsz] at ho2
  have hg2 := Df.val_block ho2 (g := w.heap.size + 1) (l := zV) (by simp) rfl
  have hg1 := Df.val_block ho2 (g := w.heap.size) (l := zV) (by simp) rfl
  have HB2 := hB.on ho2.below
  obtain ⟨ad, hAd, hadb⟩ := HB2.at_ (List.getElem?_eq_getElem hp)
  clear hadb hp
  have HSrc : Hid (∀ j v, (Df.bv l)[j]? = some v → w2.cell? (ad.add j) = some v) := fun j v hv => by
    obtain ⟨ad', e, _, h⟩ := HB2 j v hv
    rw [hAd] at e
    obtain rfl := Option.some.inj e
    exact h
  subst hAd
  have hPL := padB_length hl
  obtain ⟨cs, hcs⟩ : ∃ cs : Array Value, cs = (Df.bv (padB l)).toArray := ⟨_, rfl⟩
  have Hi : Hid ((Tryd.prog.info? 61).map (·.size) = some cs.size) := by rw [Hid, hcs, Df.sizeV]; simp [Df.bv_length, hPL]
  have Ho : Hid (cs.all (·.oneCell') = true) := by rw [Hid, hcs]; exact Df.bv_one _
  have Hz : Hid (zv.size = cs.size) := by rw [Hid, hcs, hzl]; simp [Df.bv_length, hPL, zV]
  have HKV : Hid (Df.KV (padB l) = .agg cs) := by rw [Hid, hcs]
  have HSp : Hid ((splice (Df.bv zV) 0 (Df.bv l)).toArray = cs) := by rw [Hid, hcs, zV, padB_splice l]
  have HG1 : Hid (∀ W, Below (w.heap.size + 1) w2 W → W.heap[w.heap.size]? = some (.cells zv 61 (0, 0))) := fun W hW => by
    rw [hW.block _ (by omega), hg1, hzl]
  have HB := Lib.hid ho2.below
  have HLc : Hid ((Df.bv l).length = Nat.min l.length 40) := by rw [Hid, Df.bv_length]; exact (Nat.min_eq_left hl).symm
  have HW2 : Hid (w2 = (w.alloc (.cells #[.bool false, .bool false, .bool false, .bool false, .bool false, .bool false, .bool false, .bool false, .bool false, .bool false, .bool false, .bool false, .bool false, .bool false, .bool false, .bool false, .bool false, .bool false, .bool false, .bool false, .bool false, .bool false, .bool false, .bool false, .bool false, .bool false, .bool false, .bool false, .bool false, .bool false, .bool false, .bool false, .bool false, .bool false, .bool false, .bool false, .bool false, .bool false, .bool false, .bool false] 61)).alloc (.cells #[.bool false, .bool false, .bool false, .bool false, .bool false, .bool false, .bool false, .bool false, .bool false, .bool false, .bool false, .bool false, .bool false, .bool false, .bool false, .bool false, .bool false, .bool false, .bool false, .bool false, .bool false, .bool false, .bool false, .bool false, .bool false, .bool false, .bool false, .bool false, .bool false, .bool false, .bool false, .bool false, .bool false, .bool false, .bool false, .bool false, .bool false, .bool false, .bool false, .bool false] 61)) := by rw [Hid, hw2, hzv]
  have HG2 := Lib.hid hg2
  have HLl := Lib.hid hl
  have HOne : Hid (∀ v ∈ Df.bv l, v.oneCell' = true) := Df.bv_cell l
  have HFit : Hid (0 + (Df.bv l).length ≤ (Df.bv zV).length) := by rw [Hid, Df.bv_length, Df.bv_length, zV, List.length_replicate]; omega
  have hi1 : (Tryd.prog.info? 4).map (·.size) = some 1 := by kernel_rfl
  have HI1 := Lib.hid hi1
  clear hi1
  have hlt2 := ho2.below.size
  have HSz2 : Hid (w.heap.size + 1 < w2.heap.size) := (ho2.lt (ad := ⟨w.heap.size + 1, 0, none⟩) (t := 61) (sz := 40) (n := 1) (cap := 1) (xs := Df.bv zV) (by simp [Df.eVal])).2
  rw [HKV.out]
  clear hB ho1 ho2 hw2 hzv hzl hg1 hg2 HB2 hcs hPL HKV hsz hl
  generalize Df.bv l = bl at *
  generalize l.length = n at *
  go_enter Tryd.func27, Tryd.ntmps27
  go_wp2_with (rw [← HW2.out]; refine wpList_copy_splice (by rfl) _ _ 25 25 (by rfl) 4 Tryd.underlying25 HI1.out (some ⟨w.heap.size + 1, 0, none⟩) (some ad) 40 40 n c (by rfl) (by rfl) (w.heap.size + 1) 0 (Df.bv zV) 61 HG2.out bl HLc.out (fun _ => ⟨rfl, ad, rfl, HSrc.out⟩) HFit.out HOne.out (w.heap.size + 1) w2 (below_some HSz2.out) (Nat.le_refl _) ?_)
  clear HW2
  intro w3 hg3 hb3
  have hg3 := hg3.out
  rw [HSp.out] at hg3
  have HG3 := Lib.hid hg3
  have hg4 := HG1.out w3 hb3
  have HG4 := Lib.hid hg4
  have HG5 : Hid ((w3.setRow w.heap.size cs).heap[w.heap.size]? = some (.cells cs 61 (0, 0))) := setRow_heap w3 w.heap.size _ _ 61 _ hg4
  have HB3 : Hid (Below w.heap.size w (w3.setRow w.heap.size cs)) := below_setRow (HB.out.trans (hb3.mono (Nat.le_succ _))) (Nat.le_refl _) _
  clear hg3 hg4 hb3 HG1 HG2 HSp HSrc HFit HOne HB HSz2 hlt2
  go_wp2_with (first | (refine wpList_load_row (by rfl) 61 _ (by rfl) (w.heap.size + 1) (by rfl) 61 cs (0, 0) _ HG3.out Tryd.underlying61 (by rfl) Hi.out ?_; simp only [Act.put, List.setIfInBounds_toArray, List.set_cons_zero, List.set_cons_succ]) | (refine wpList_store_row (by rfl) 61 _ _ (by rfl) w.heap.size cs (by rfl) (by rfl) 61 _ HG4.out Hi.out Hz.out Ho.out ?_; simp only [Act.put]))
  refine bodyPost_ret (results_cell_row (by rfl) _ _ w.heap.size 61 cs (0, 0) _ (by rfl) HG5.out Tryd.underlying61 (by rfl) Hi.out) rfl ?_
  exact ⟨rfl, HB3.out⟩
end Go.Proofs.YtnlkkfcjonchgaaDoor.Fm
