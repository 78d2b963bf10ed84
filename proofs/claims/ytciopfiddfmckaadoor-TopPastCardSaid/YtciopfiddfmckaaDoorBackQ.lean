/- The walks of package back's valuesOf and of the two functions that Back hands on. The walks of the two functions that package back's Back hands on. The walk of package back's Back. The walk of package back's Make; its contracts as the laws take them. -/
import Derived.Test.YtciopfiddfmckaaDoorMeanE
import Derived.Test.YtciopfiddfmckaaDoorExplV
import Derived.Test.YtciopfiddfmckaaDoorBackM
import Derived.Laws.CopyOwn
import Derived.Test.YtciopfiddfmckaaDoorDfaV
import Derived.Test.YtciopfiddfmckaaDoorNfaV

namespace Go.Proofs.YtciopfiddfmckaaDoor.Fm
open Go.RowKit Go.IntWalk Go.Proofs.YtciopfiddfmckaaDoor.Wd Go.Proofs.YtciopfiddfmckaaDoor.Wo Go.Proofs.YtciopfiddfmckaaDoor.Mp

/-! ### package back -/
/-- The values of all nodes; the places behind them stay false. -/
def padB (l : List Bool) : List Bool := l ++ List.replicate (40 - l.length) false
theorem padB_length {l : List Bool} (h : l.length ≤ 40) : (padB l).length = 40 := by simp [padB]; omega
theorem padB_take (l : List Bool) : (padB l).take l.length = l := by simp [padB]
theorem padB_inj {l m : List Bool} (hl : l.length = m.length) (h : padB l = padB m) : l = m := by rw [← padB_take l, h, hl, padB_take]
theorem padB_splice (l : List Bool) : splice (Df.bv (List.replicate 40 false)) 0 (Df.bv l) = Df.bv (padB l) := by
  unfold splice padB Df.bv
  rw [List.take_zero, List.nil_append, Nat.zero_add, List.length_map, ← List.map_drop, List.drop_replicate, List.map_append]

theorem below_some {w : World} {B : Nat} (_h : B < w.heap.size) : Below B w w := ⟨rfl, rfl, rfl, Nat.le_refl _, fun _ _ => rfl⟩
/-- An array of zeros and what is laid over it. -/
def zV : List Bool := List.replicate 40 false
theorem zV_cells : (#[.bool false, .bool false, .bool false, .bool false, .bool false, .bool false, .bool false, .bool false, .bool false, .bool false, .bool false, .bool false, .bool false, .bool false, .bool false, .bool false, .bool false, .bool false, .bool false, .bool false, .bool false, .bool false, .bool false, .bool false, .bool false, .bool false, .bool false, .bool false, .bool false, .bool false, .bool false, .bool false, .bool false, .bool false, .bool false, .bool false, .bool false, .bool false, .bool false, .bool false] : Array Value) = (Df.bv zV).toArray := by rfl
set_option maxRecDepth 100000 in
set_option maxHeartbeats 1000000 in
theorem valuesOf_any (B : Option Addr) (c : Nat) (l : List Bool) (w : World) (hB : Df.BoolsAt w w.heap.size B l) (hl : l.length ≤ 40) (hp : 0 < l.length) :
    Calls Tryd.prog 46 #[.slice B l.length c] w fun e w' => e = .returned (Df.KV (padB l)) ∧ Below w.heap.size w w' := by
  obtain ⟨zv, hzv⟩ : ∃ zv : Array Value, zv = #[.bool false, .bool false, .bool false, .bool false, .bool false, .bool false, .bool false, .bool false, .bool false, .bool false, .bool false, .bool false, .bool false, .bool false, .bool false, .bool false, .bool false, .bool false, .bool false, .bool false, .bool false, .bool false, .bool false, .bool false, .bool false, .bool false, .bool false, .bool false, .bool false, .bool false, .bool false, .bool false, .bool false, .bool false, .bool false, .bool false, .bool false, .bool false, .bool false, .bool false] := ⟨_, rfl⟩
  have hzl : zv = (Df.bv zV).toArray := hzv.trans zV_cells
  have ho1 := Df.own_val_lit (own_start w) (l := zV) (by rfl) hzl
  have ho2 := Df.own_val_lit ho1 (l := zV) (by rfl) hzl
  obtain ⟨w2, hw2⟩ : ∃ w2, w2 = (w.alloc (.cells zv 81)).alloc (.cells zv 81) := ⟨_, rfl⟩
  rw [← hw2] at ho2
  have hsz : (w.alloc (.cells zv 81)).heap.size = w.heap.size + 1 := by simp
  rw [hsz] at ho2
  have hg2 := Df.val_block ho2 (g := w.heap.size + 1) (l := zV) (by simp) rfl
  have hg1 := Df.val_block ho2 (g := w.heap.size) (l := zV) (by simp) rfl
  have HB2 := hB.on ho2.below
  obtain ⟨ad, hAd, hadb⟩ := HB2.at_ (List.getElem?_eq_getElem hp)
  clear hadb hp
  have HSrc : Hid (∀ j v, (Df.bv l)[j]? = some v → w2.cell? (ad.add j) = some v) := fun j v hv => by
    obtain ⟨ad', e, _, h⟩ := HB2 j v hv
    rw [hAd] at e
    obtain rfl := Option.some.inj e
    exact h
  subst hAd
  have hPL := padB_length hl
  obtain ⟨cs, hcs⟩ : ∃ cs : Array Value, cs = (Df.bv (padB l)).toArray := ⟨_, rfl⟩
  have Hi : Hid ((Tryd.prog.info? 81).map (·.size) = some cs.size) := by rw [Hid, hcs, Df.sizeV]; simp [Df.bv_length, hPL]
  have Ho : Hid (cs.all (·.oneCell') = true) := by rw [Hid, hcs]; exact Df.bv_one _
  have Hz : Hid (zv.size = cs.size) := by rw [Hid, hcs, hzl]; simp [Df.bv_length, hPL, zV]
  have HKV : Hid (Df.KV (padB l) = .agg cs) := by rw [Hid, hcs]
  have HSp : Hid ((splice (Df.bv zV) 0 (Df.bv l)).toArray = cs) := by rw [Hid, hcs, zV, padB_splice l]
  have HG1 : Hid (∀ W, Below (w.heap.size + 1) w2 W → W.heap[w.heap.size]? = some (.cells zv 81 (0, 0))) := fun W hW => by
    rw [hW.block _ (by omega), hg1, hzl]
  have HB := Lib.hid ho2.below
  have HLc : Hid ((Df.bv l).length = Nat.min l.length 40) := by rw [Hid, Df.bv_length]; exact (Nat.min_eq_left hl).symm
  have HW2 : Hid (w2 = (w.alloc (.cells #[.bool false, .bool false, .bool false, .bool false, .bool false, .bool false, .bool false, .bool false, .bool false, .bool false, .bool false, .bool false, .bool false, .bool false, .bool false, .bool false, .bool false, .bool false, .bool false, .bool false, .bool false, .bool false, .bool false, .bool false, .bool false, .bool false, .bool false, .bool false, .bool false, .bool false, .bool false, .bool false, .bool false, .bool false, .bool false, .bool false, .bool false, .bool false, .bool false, .bool false] 81)).alloc (.cells #[.bool false, .bool false, .bool false, .bool false, .bool false, .bool false, .bool false, .bool false, .bool false, .bool false, .bool false, .bool false, .bool false, .bool false, .bool false, .bool false, .bool false, .bool false, .bool false, .bool false, .bool false, .bool false, .bool false, .bool false, .bool false, .bool false, .bool false, .bool false, .bool false, .bool false, .bool false, .bool false, .bool false, .bool false, .bool false, .bool false, .bool false, .bool false, .bool false, .bool false] 81)) := by rw [Hid, hw2, hzv]
  have HG2 := Lib.hid hg2
  have HLl := Lib.hid hl
  have HOne : Hid (∀ v ∈ Df.bv l, v.oneCell' = true) := Df.bv_cell l
  have HFit : Hid (0 + (Df.bv l).length ≤ (Df.bv zV).length) := by rw [Hid, Df.bv_length, Df.bv_length, zV, List.length_replicate]; omega
  have hi1 : (Tryd.prog.info? 4).map (·.size) = some 1 := by kernel_rfl
  have HI1 := Lib.hid hi1
  clear hi1
  have hlt2 := ho2.below.size
  have HSz2 : Hid (w.heap.size + 1 < w2.heap.size) := (ho2.lt (ad := ⟨w.heap.size + 1, 0, none⟩) (t := 81) (sz := 40) (n := 1) (cap := 1) (xs := Df.bv zV) (by simp [Df.eVal])).2
  rw [HKV.out]
  clear hB ho1 ho2 hw2 hzv hzl hg1 hg2 HB2 hcs hPL HKV hsz hl
  generalize Df.bv l = bl at *
  generalize l.length = n at *
  go_enter Tryd.func46, Tryd.ntmps46
  go_wp2_with (rw [← HW2.out]; refine wpList_copy_splice (by rfl) _ _ 23 23 (by rfl) 4 Tryd.underlying23 HI1.out (some ⟨w.heap.size + 1, 0, none⟩) (some ad) 40 40 n c (by rfl) (by rfl) (w.heap.size + 1) 0 (Df.bv zV) 81 HG2.out bl HLc.out (fun _ => ⟨rfl, ad, rfl, HSrc.out⟩) HFit.out HOne.out (w.heap.size + 1) w2 (below_some HSz2.out) (Nat.le_refl _) ?_)
  clear HW2
  intro w3 hg3 hb3
  have hg3 := hg3.out
  rw [HSp.out] at hg3
  have HG3 := Lib.hid hg3
  have hg4 := HG1.out w3 hb3
  have HG4 := Lib.hid hg4
  have HG5 : Hid ((w3.setRow w.heap.size cs).heap[w.heap.size]? = some (.cells cs 81 (0, 0))) := setRow_heap w3 w.heap.size _ _ 81 _ hg4
  have HB3 : Hid (Below w.heap.size w (w3.setRow w.heap.size cs)) := below_setRow (HB.out.trans (hb3.mono (Nat.le_succ _))) (Nat.le_refl _) _
  clear hg3 hg4 hb3 HG1 HG2 HSp HSrc HFit HOne HB HSz2 hlt2
  go_wp2_with (first | (refine wpList_load_row (by rfl) 81 _ (by rfl) (w.heap.size + 1) (by rfl) 81 cs (0, 0) _ HG3.out Tryd.underlying81 (by rfl) Hi.out ?_; simp only [Act.put, List.setIfInBounds_toArray, List.set_cons_zero, List.set_cons_succ]) | (refine wpList_store_row (by rfl) 81 _ _ (by rfl) w.heap.size cs (by rfl) (by rfl) 81 _ HG4.out Hi.out Hz.out Ho.out ?_; simp only [Act.put]))
  refine bodyPost_ret (results_cell_row (by rfl) _ _ w.heap.size 81 cs (0, 0) _ (by rfl) HG5.out Tryd.underlying81 (by rfl) Hi.out) rfl ?_
  exact ⟨rfl, HB3.out⟩
end Go.Proofs.YtciopfiddfmckaaDoor.Fm

namespace Go.Proofs.YtciopfiddfmckaaDoor.Fm
open Go.RowKit Go.IntWalk Go.Proofs.YtciopfiddfmckaaDoor.Wd Go.Proofs.YtciopfiddfmckaaDoor.Wo Go.Proofs.YtciopfiddfmckaaDoor.Mp Go.Proofs.YtciopfiddfmckaaDoor.Df

theorem rch_vec {L : Int} {f : List Nd} (g : FGood L f) {x : List Bool} (h : Rch (backS L f) (vec f []) x) : ∃ u, x = vec f u := by
  induction h with
  | base => exact ⟨[], rfl⟩
  | next _ ht ih =>
    obtain ⟨u, rfl⟩ := ih
    obtain ⟨a, _, rfl⟩ := List.mem_map.1 ht
    exact ⟨(a : Int) :: u, vec_next g.nd _ _⟩
/-- The next states as the program keeps them. -/
def backP (L : Int) (f : List Nd) (x : List Bool) : List (List Bool) := (List.range L.toNat).map fun (a : Nat) => padB (nxt f (x.take f.length) a)
def backFP (f : List Nd) (x : List Bool) : Bool := x.getD (f.length - 1) false
theorem padB_vec (f : List Nd) (u : List Int) : (padB (vec f u)).take f.length = vec f u := by
  have := padB_take (vec f u)
  rwa [vec_length] at this
theorem padB_get {l : List Bool} {i : Nat} (h : i < l.length) : (padB l)[i]? = l[i]? := by unfold padB; rw [List.getElem?_append_left h]
theorem backP_length (L : Int) (f : List Nd) (x : List Bool) : (backP L f x).length = L.toNat := by simp [backP]
theorem backP_get {L : Int} {f : List Nd} (g : FGood L f) (u : List Int) {c : Nat} {t : List Bool} (h : (backP L f (padB (vec f u)))[c]? = some t) : t = padB (vec f ((c : Int) :: u)) ∧ (c : Int) < L := by
  unfold backP at h
  rw [padB_vec] at h
  have hc : c < L.toNat := by have := (List.getElem?_eq_some_iff.1 h).1; simpa using this
  rw [List.getElem?_map, List.getElem?_range hc] at h
  have h := Option.some.inj h
  simp only at h
  rw [vec_next g.nd] at h
  exact ⟨h.symm, by omega⟩
theorem rch_pad {L : Int} {f : List Nd} (g : FGood L f) {x : List Bool} (h : Rch (backP L f) (padB (vec f [])) x) : ∃ u, x = padB (vec f u) := by
  induction h with
  | base => exact ⟨[], rfl⟩
  | next _ ht ih =>
    obtain ⟨u, rfl⟩ := ih
    obtain ⟨c, hc, e⟩ := List.mem_iff_getElem.1 ht
    obtain ⟨rfl, _⟩ := backP_get g u (List.getElem?_eq_some_iff.2 ⟨hc, e⟩)
    exact ⟨_, rfl⟩
theorem vec_le {L : Int} {f : List Nd} (g : FGood L f) (u : List Int) : (vec f u).length ≤ 40 := by rw [vec_length]; exact g.le
theorem backFP_at {L : Int} {f : List Nd} (g : FGood L f) (u : List Int) : backFP f (padB (vec f u)) = backF f (vec f u) := by
  have h0 := g.ne
  unfold backFP backF
  rw [List.getD_eq_getElem?_getD, List.getD_eq_getElem?_getD, padB_get (by rw [vec_length]; omega)]
theorem backP_out {L : Int} {f : List Nd} (g : FGood L f) : explOut L (backP L f) (padB (vec f [])) (backFP f) = backOut L f :=
  Nf.explOut_as (fun x y hx hy e => by
    obtain ⟨u, rfl⟩ := rch_vec g hx
    obtain ⟨v, rfl⟩ := rch_vec g hy
    exact padB_inj (by rw [vec_length, vec_length]) e) (fun x hx => by
    obtain ⟨u, rfl⟩ := rch_vec g hx
    unfold backP backS
    rw [padB_vec, List.map_map]; rfl) (fun x hx => by
    obtain ⟨u, rfl⟩ := rch_vec g hx
    exact backFP_at g u)
/-- The cells of an array's block. -/
theorem block_bool {w : World} {g : Nat} {l : List Bool} {cs : Array Value} (h : w.heap[g]? = some (.cells cs 81 (0, 0))) (hcs : cs = (bv (padB l)).toArray) {j : Nat} {b : Bool} (hj : l[j]? = some b) : w.cell? ⟨g, j, none⟩ = some (.bool b) := by
  rw [cell_of_row w g j cs _ _ h, hcs]
  have hlt := (List.getElem?_eq_some_iff.1 hj).1
  simp only [bv, List.getElem?_toArray, List.getElem?_map, padB_get hlt, hj, Option.map_some]
theorem block_bools {w : World} {g : Nat} {l : List Bool} {cs : Array Value} (h : w.heap[g]? = some (.cells cs 81 (0, 0))) (hcs : cs = (bv (padB l)).toArray) (hg : g < w.heap.size) : Df.BoolsAt w w.heap.size (some ⟨g, 0, none⟩) l := fun k u hk => by
  rw [List.getElem?_map] at hk
  rcases hj : l[k]? with _ | b
  · rw [hj] at hk; cases hk
  · rw [hj] at hk
    obtain rfl := Option.some.inj hk
    exact ⟨_, rfl, hg, by rw [Addr.add_mid, Nat.zero_add]; exact block_bool h hcs hj⟩
set_option linter.unusedSimpArgs false in
set_option maxRecDepth 100000 in
set_option maxHeartbeats 2000000 in
theorem back1_any {L : Int} {w : World} {g : Nat} {A : Option Addr} {c : Nat} {f : List Nd} (hcell : w.cell? ⟨g, 0, none⟩ = some (.slice A f.length c)) (hA : NodesAt w w.heap.size A f) (hg : FGood L f) (u : List Int) (a : Int) (ha0 : 0 ≤ a) (ha6 : a < 6) :
    Calls Tryd.prog 45 #[KV (padB (vec f u)), .int .i64 a, .pointer (some ⟨g, 0, none⟩)] w fun e w' => e = .returned (KV (padB (vec f (a :: u)))) ∧ Below w.heap.size w w' := by
  have hl1 := padB_length (vec_le hg u)
  have hl2 := padB_length (vec_le hg (a :: u))
  obtain ⟨cs, hcs⟩ : ∃ c : Array Value, c = (bv (padB (vec f u))).toArray := ⟨_, rfl⟩
  have Hcs := Lib.hid hcs
  have Hics : Hid ((Tryd.prog.info? 81).map (·.size) = some cs.size) := by rw [Hid, hcs, sizeV]; simp [bv_length, hl1]
  have Hocs : Hid (cs.all (·.oneCell') = true) := by rw [Hid, hcs]; exact bv_one _
  have Hzcs : Hid ((#[.bool false, .bool false, .bool false, .bool false, .bool false, .bool false, .bool false, .bool false, .bool false, .bool false, .bool false, .bool false, .bool false, .bool false, .bool false, .bool false, .bool false, .bool false, .bool false, .bool false, .bool false, .bool false, .bool false, .bool false, .bool false, .bool false, .bool false, .bool false, .bool false, .bool false, .bool false, .bool false, .bool false, .bool false, .bool false, .bool false, .bool false, .bool false, .bool false, .bool false] : Array Value).size = cs.size) := by rw [Hid, hcs]; simp [bv_length, hl1]
  obtain ⟨ct, hct⟩ : ∃ c : Array Value, c = (bv (padB (vec f (a :: u)))).toArray := ⟨_, rfl⟩
  have Hct := Lib.hid hct
  have Hict : Hid ((Tryd.prog.info? 81).map (·.size) = some ct.size) := by rw [Hid, hct, sizeV]; simp [bv_length, hl2]
  have Hoct : Hid (ct.all (·.oneCell') = true) := by rw [Hid, hct]; exact bv_one _
  have Hzct : Hid ((#[.bool false, .bool false, .bool false, .bool false, .bool false, .bool false, .bool false, .bool false, .bool false, .bool false, .bool false, .bool false, .bool false, .bool false, .bool false, .bool false, .bool false, .bool false, .bool false, .bool false, .bool false, .bool false, .bool false, .bool false, .bool false, .bool false, .bool false, .bool false, .bool false, .bool false, .bool false, .bool false, .bool false, .bool false, .bool false, .bool false, .bool false, .bool false, .bool false, .bool false] : Array Value).size = ct.size) := by rw [Hid, hct]; simp [bv_length, hl2]
  have hk1 : KV (padB (vec f u)) = .agg cs := by rw [hcs]
  have hk2 : KV (padB (vec f (a :: u))) = .agg ct := by rw [hct]
  obtain ⟨zv, hzv⟩ : ∃ zv : Array Value, zv = #[.bool false, .bool false, .bool false, .bool false, .bool false, .bool false, .bool false, .bool false, .bool false, .bool false, .bool false, .bool false, .bool false, .bool false, .bool false, .bool false, .bool false, .bool false, .bool false, .bool false, .bool false, .bool false, .bool false, .bool false, .bool false, .bool false, .bool false, .bool false, .bool false, .bool false, .bool false, .bool false, .bool false, .bool false, .bool false, .bool false, .bool false, .bool false, .bool false, .bool false] := ⟨_, rfl⟩
  have hzl : zv = (bv zV).toArray := hzv.trans zV_cells
  have ho1 := own_val_lit (own_start w) hl1 hcs
  have ho2 := own_val_lit ho1 (l := zV) (by rfl) hzl
  have hsz : (w.alloc (.cells cs 81)).heap.size = w.heap.size + 1 := by simp
  rw [hsz] at ho2
  obtain ⟨w2, hw2⟩ : ∃ w2, w2 = (w.alloc (.cells cs 81)).alloc (.cells zv 81) := ⟨_, rfl⟩
  rw [← hw2] at ho2
  have HW2 : Hid (w2 = (w.alloc (.cells cs 81)).alloc (.cells #[.bool false, .bool false, .bool false, .bool false, .bool false, .bool false, .bool false, .bool false, .bool false, .bool false, .bool false, .bool false, .bool false, .bool false, .bool false, .bool false, .bool false, .bool false, .bool false, .bool false, .bool false, .bool false, .bool false, .bool false, .bool false, .bool false, .bool false, .bool false, .bool false, .bool false, .bool false, .bool false, .bool false, .bool false, .bool false, .bool false, .bool false, .bool false, .bool false, .bool false] 81)) := by rw [Hid, hw2, hzv]
  have HOwn := Lib.hid ho2
  have HK : Hid (∀ W, Below w2.heap.size w2 W → W.cell? ⟨g, 0, none⟩ = some (.slice A f.length c)) := fun W hW => ((ho2.below.trans (hW.mono ho2.below.size)).cell (p := ⟨g, 0, none⟩) (World.block_lt_of_cell? w _ hcell)).trans hcell
  have HAh : Hid (∀ W, Below w2.heap.size w2 W → Calls Tryd.prog 47 #[.slice A f.length c, .slice (some ⟨w.heap.size, 0, none⟩) f.length 40, .int .i64 a] W fun e w' => Hid (∃ g, e = .returned (.slice (some ⟨g, 0, none⟩) f.length f.length) ∧ Own W w' [eBools (.slice (some ⟨g, 0, none⟩) f.length f.length) (vec f (a :: u))] [])) := fun W hW =>
    mahead_any A c f (some ⟨w.heap.size, 0, none⟩) 40 u a W (hA.on (ho2.below.trans (hW.mono ho2.below.size))) hg (block_bools (val_block (ho2.on hW) (g := w.heap.size) (l := padB (vec f u)) (by simp) hcs) hcs (by have h8 := ho2.below.size; have h9 := hW.size; have := (ho2.lt (ad := ⟨w.heap.size + 1, 0, none⟩) (t := 81) (sz := 40) (n := 1) (cap := 1) (xs := bv zV) (by simp [eVal])).2; simp only at this; omega)) ha0 ha6
  have HVo : Hid (∀ W g2, Own w2 W [eBools (.slice (some ⟨g2, 0, none⟩) f.length f.length) (vec f (a :: u))] [] → Calls Tryd.prog 46 #[.slice (some ⟨g2, 0, none⟩) f.length f.length] W fun e w' => e = .returned (.agg ct) ∧ Below W.heap.size W w') := fun W g2 hW => by
    obtain ⟨A2, c2, e2, _, _, hB⟩ := Df.own_bools hW (fv := .slice (some ⟨g2, 0, none⟩) f.length f.length) (bs := vec f (a :: u)) (by simp)
    have h3 := valuesOf_any A2 c2 (vec f (a :: u)) W hB (vec_le hg _) (by rw [vec_length]; exact hg.ne)
    rw [← e2, hk2] at h3
    exact h3
  have HB := Lib.hid ho2.below
  have HZo := Lib.hid hzl
  have hn40 := hg.le
  have hn0 := hg.ne
  have hlen : ((f.length : Nat) : Int) ≤ 40 := by omega
  rw [hk1, hk2]
  clear hcell hA hg hl1 hl2 hcs hct hk1 hk2 ho1 ho2 hsz hw2
  generalize f.length = n at *
  go_enter Tryd.func45, Tryd.ntmps45
  go_wp2_with fail
  rw [← HW2.out]
  clear HW2
  refine wp_region_Z ((fun W => W.cell? ⟨g, 0, none⟩ = some (.slice A n c))) 7 (by kernel_rfl) (HK.out _ (Below.refl _ _).drew) (fun hHeld => ?_)
  refine wpZ_take (i := 0) (v := ?_) rfl (by kernel_rfl) (by kernel_rfl) (by kernel_rfl) (by kernel_rfl) (fun _ _ _ h => h) (Or.inl ⟨by rfl, ?_⟩) hHeld ?_
  rotate_left
  · (go_light; intro w9 hSw; (try dsimp only at hSw); go_simp; try with_reducible rfl)
  try simp only [Act.put, List.setIfInBounds_toArray, List.set_cons_zero, List.set_cons_succ]
  refine wpZ_take (i := 1) (v := ?_) rfl (by kernel_rfl) (by kernel_rfl) (by kernel_rfl) (by kernel_rfl) (fun _ _ _ h => h) (Or.inl ⟨by rfl, ?_⟩) hHeld ?_
  rotate_left
  · (go_light; intro w9 hSw; (try dsimp only at hSw); go_simp; try with_reducible rfl)
  try simp only [Act.put, List.setIfInBounds_toArray, List.set_cons_zero, List.set_cons_succ]
  refine wpZ_take (i := 2) (v := ?_) rfl (by kernel_rfl) (by kernel_rfl) (by kernel_rfl) (by kernel_rfl) (fun _ _ _ h => h) (Or.inl ⟨by rfl, ?_⟩) hHeld ?_
  rotate_left
  · (go_light; intro w9 hSw; (try dsimp only at hSw); go_simp; try with_reducible rfl)
  try simp only [Act.put, List.setIfInBounds_toArray, List.set_cons_zero, List.set_cons_succ]
  refine wpZ_take (i := 3) (v := ?_) rfl (by kernel_rfl) (by kernel_rfl) (by kernel_rfl) (by kernel_rfl) (fun _ _ _ h => h) (Or.inl ⟨by rfl, ?_⟩) hHeld ?_
  rotate_left
  · (go_light; intro w9 hSw; (try dsimp only at hSw); go_simp; try with_reducible rfl)
  try simp only [Act.put, List.setIfInBounds_toArray, List.set_cons_zero, List.set_cons_succ]
  refine wpZ_take (i := 4) (v := ?_) rfl (by kernel_rfl) (by kernel_rfl) (by kernel_rfl) (by kernel_rfl) (fun _ _ _ h => h) (Or.inl ⟨by rfl, ?_⟩) hHeld ?_
  rotate_left
  · (go_light; intro w9 hSw; (try dsimp only at hSw); go_simp; try with_reducible rfl)
  try simp only [Act.put, List.setIfInBounds_toArray, List.set_cons_zero, List.set_cons_succ]
  refine wpZ_one (i := 5) rfl (by kernel_rfl) (fun K hK => ?_)
  go_simp
  refine (HAh.out _ (Below.refl _ _).drew).mono ?_
  rintro e w5 he
  obtain ⟨g5, rfl, ho5⟩ := he.out
  have HO5 := Lib.hid (ho5.base (Below.refl _ _).drew)
  clear he ho5 HAh
  try simp only []
  refine hK.out _ _ (fun _ => HK.out _ HO5.out.below) (fun hHeld9 => ?_)
  replace hHeld := hHeld9 (by decide)
  clear hHeld9
  clear hK K
  try simp only [Act.put, List.setIfInBounds_toArray, List.set_cons_zero, List.set_cons_succ]
  refine wpZ_one (i := 6) rfl (by kernel_rfl) (fun K hK => ?_)
  go_simp
  refine (HVo.out _ g5 HO5.out).mono ?_
  rintro e w6 ⟨rfl, hb6⟩
  have HB6 := Lib.hid (HO5.out.below.trans (hb6.mono HO5.out.below.size))
  clear hb6 HVo
  try simp only []
  refine hK.out _ _ (fun _ => HK.out _ HB6.out) (fun hHeld9 => ?_)
  replace hHeld := hHeld9 (by decide)
  clear hHeld9
  clear hK K
  try simp only [Act.put, List.setIfInBounds_toArray, List.set_cons_zero, List.set_cons_succ]
  refine wpZ_one (i := 7) rfl (by kernel_rfl) (fun K hK => ?_)
  have hg7 := val_block (HOwn.out.on HB6.out) (g := w.heap.size + 1) (l := zV) (by simp) HZo.out
  rw [if_pos (by rfl)]
  refine wp_store_row 81 _ _ (by rfl) (w.heap.size + 1) ct (by rfl) (by rfl) 81 zv hg7 Hict.out (by rw [hzv]; exact Hzct.out) Hoct.out ?_
  refine hK.out _ _ (fun k => absurd rfl k) (fun _ => ?_)
  clear hK K
  try simp only [Act.put, List.setIfInBounds_toArray, List.set_cons_zero, List.set_cons_succ]
  refine wpZ_done (by kernel_rfl) ?_ _
  have HG7 : Hid ((w6.setRow (w.heap.size + 1) ct).heap[w.heap.size + 1]? = some (.cells ct 81 (0, 0))) := setRow_heap w6 (w.heap.size + 1) _ _ 81 _ hg7
  have HB7 : Hid (Below w.heap.size w (w6.setRow (w.heap.size + 1) ct)) := below_setRow (HB.out.trans (HB6.out.mono HB.out.size)) (Nat.le_succ _) _
  clear hHeld hg7 HK HO5 HB6 HB
  go_wp2
  refine bodyPost_ret (results_cell_row (by rfl) _ _ (w.heap.size + 1) 81 ct (0, 0) _ (by rfl) HG7.out Tryd.underlying81 (by rfl) Hict.out) rfl ?_
  exact ⟨rfl, HB7.out⟩
set_option maxRecDepth 100000 in
set_option maxHeartbeats 1000000 in
theorem back2_any {L : Int} {w : World} {g : Nat} {A : Option Addr} {c : Nat} {f : List Nd} (hcell : w.cell? ⟨g, 0, none⟩ = some (.slice A f.length c)) (hg : FGood L f) (u : List Int) :
    Calls Tryd.prog 48 #[KV (padB (vec f u)), .pointer (some ⟨g, 0, none⟩)] w fun e w' => e = .returned (.bool (backFP f (padB (vec f u)))) ∧ Below w.heap.size w w' := by
  have h0 := hg.ne
  have h4 := hg.le
  have hl1 := padB_length (vec_le hg u)
  obtain ⟨cs, hcs⟩ : ∃ c : Array Value, c = (bv (padB (vec f u))).toArray := ⟨_, rfl⟩
  have hk1 : KV (padB (vec f u)) = .agg cs := by rw [hcs]
  obtain ⟨b, hb⟩ : ∃ b, (vec f u)[f.length - 1]? = some b := ⟨_, List.getElem?_eq_getElem (by rw [vec_length]; omega)⟩
  have hF : backFP f (padB (vec f u)) = b := by rw [backFP_at hg, backF, List.getD_eq_getElem?_getD, hb]; rfl
  have ho1 := own_val_lit (own_start w) hl1 hcs
  have hc1 := block_bool (val_block ho1 (g := w.heap.size) (l := padB (vec f u)) (by simp) hcs) hcs hb
  have hc2 := (ho1.below.cell (p := ⟨g, 0, none⟩) (World.block_lt_of_cell? w _ hcell)).trans hcell
  have HB := Lib.hid ho1.below
  rw [hk1, hF]
  clear hk1 hcs hb hF ho1 hl1 hg hcell
  have e1 : IntKind.i64.wrap ((f.length : Int) - 1) = ((f.length - 1 : Nat) : Int) := by rw [IntWalk.i64_in _ ⟨by omega, by omega⟩]; omega
  generalize hm : f.length - 1 = m at *
  have e2 : (m : Int) < 40 := by omega
  generalize f.length = n at *
  clear hm h0 h4
  go_enter Tryd.func48, Tryd.ntmps48
  go_wp2
  go_ret
  exact ⟨rfl, HB.out⟩
end Go.Proofs.YtciopfiddfmckaaDoor.Fm

namespace Go.Proofs.YtciopfiddfmckaaDoor.Fm
open Go.RowKit Go.IntWalk Go.Proofs.YtciopfiddfmckaaDoor.Wd Go.Proofs.YtciopfiddfmckaaDoor.Wo Go.Proofs.YtciopfiddfmckaaDoor.Mp Go.Proofs.YtciopfiddfmckaaDoor.Df

/-- What Back gives. -/
def bkOut (L : Int) (f : List Nd) : Aut × Nat := if fchk L f = 0 then backOut L f else (zeroA, fchk L f)
theorem bkOut_bad {L : Int} {f : List Nd} (h : fchk L f ≠ 0) : bkOut L f = (zeroA, fchk L f) := by unfold bkOut; rw [if_neg h]
theorem bkOut_ok {L : Int} {f : List Nd} (h : fchk L f = 0) : bkOut L f = backOut L f := by unfold bkOut; rw [if_pos h]
theorem back1_call (args : Array Value) (W : World) : (callFunc 45 args).run Tryd.prog W = .ok (.enter 45 args) W := by
  have hn : ¬ Tryd.f45.name = "runtime.NumGoroutine" := of_decide_eq_false (by kernel_rfl)
  have hb : ¬ Tryd.f45.body = none := fun h => by
    have : Tryd.f45.body.isSome = true := by kernel_rfl
    rw [h] at this; cases this
  simp [callFunc, go_sem, hn, hb]
theorem back2_call (args : Array Value) (W : World) : (callFunc 48 args).run Tryd.prog W = .ok (.enter 48 args) W := by
  have hn : ¬ Tryd.f48.name = "runtime.NumGoroutine" := of_decide_eq_false (by kernel_rfl)
  have hb : ¬ Tryd.f48.body = none := fun h => by
    have : Tryd.f48.body.isSome = true := by kernel_rfl
    rw [h] at this; cases this
  simp [callFunc, go_sem, hn, hb]
set_option maxRecDepth 100000 in
set_option maxHeartbeats 4000000 in
theorem back_any (L : Int) (A : Option Addr) (c : Nat) (f : List Nd) (w : World) (hL : Small L) (hA : NodesAt w w.heap.size A f) (hlen : f.length ≤ 9223372036854775807) :
    Calls Tryd.prog 23 #[.int .i64 L, .slice A f.length c] w fun e w' => Hid (∃ x, e = .returned (.tuple #[x, errV (bkOut L f).2]) ∧ DfaOwn w w' x (bkOut L f).1) := by
  obtain ⟨w1, hw1⟩ : ∃ w1, w1 = w.alloc (.cells #[.slice A f.length c] 48) := ⟨_, rfl⟩
  have hB1 : Below w.heap.size w w1 := by rw [hw1]; exact bel_alloc _ _
  have hs1 : w1.heap.size = w.heap.size + 1 := by rw [hw1]; simp
  have hc1 : w1.cell? ⟨w.heap.size, 0, none⟩ = some (.slice A f.length c) := by rw [hw1]; exact box_at w _ _ 0
  obtain ⟨w2, hw2⟩ : ∃ w2, w2 = w1.alloc (.cells #[.int .i64 0, .int .i64 0, .slice none 0 0, .slice none 0 0] 25) := ⟨_, rfl⟩
  have hO : Own w1 w2 [eDfa w1.heap.size zero4] [] := by rw [hw2]; exact (own_start w1).dfa (.int .i64 0) (.int .i64 0) (.slice none 0 0) (.slice none 0 0)
  have hb2 := hO.below
  have hc2 : w2.cell? ⟨w.heap.size, 0, none⟩ = some (.slice A f.length c) := (hb2.cell (p := ⟨w.heap.size, 0, none⟩) (World.block_lt_of_cell? w1 _ hc1)).trans hc1
  have hB2 := hB1.trans (hb2.mono hB1.size)
  have hA2 := hA.on hB2
  have HC := Lib.hid (fcheck_any L A c f w2 hL hA2 hlen)
  have HW : Hid (w2 = (w.alloc (.cells #[.slice A f.length c] 48)).alloc (.cells #[.int .i64 0, .int .i64 0, .slice none 0 0, .slice none 0 0] 25)) := by rw [Hid, hw2, hw1]
  rw [hs1] at hO
  have HO := Lib.hid hO
  have HB := Lib.hid hB1
  have HK : Hid (∀ W, Below w2.heap.size w2 W → W.cell? ⟨w.heap.size, 0, none⟩ = some (.slice A f.length c)) := fun W hW => (hW.cell (p := ⟨w.heap.size, 0, none⟩) (World.block_lt_of_cell? w2 _ hc2)).trans hc2
  clear hw1 hw2 hB1 hs1 hc1 hO hb2 hB2
  by_cases g1 : fchk L f = 0
  · have hg : FGood L f := fchk_iff.1 g1
    have hn6 := hg.l6
    have hn1 := hg.l1
    obtain ⟨p0, hp0⟩ := Int.eq_ofNat_of_zero_le (show 0 ≤ L by omega)
    subst hp0
    have HPO : Hid (bkOut (p0 : Int) f = explOut (p0 : Int) (backP (p0 : Int) f) (padB (vec f [])) (backFP f)) := by rw [Hid, bkOut_ok g1, backP_out hg]
    have HEn := Lib.hid (fun (W : World) (hb : Below w2.heap.size w2 W) => mend_any A c f W (hA2.on hb) hg)
    have HVo : Hid (∀ W0 W g2, Own W0 W [eBools (.slice (some ⟨g2, 0, none⟩) f.length f.length) (vec f [])] [] → Calls Tryd.prog 46 #[.slice (some ⟨g2, 0, none⟩) f.length f.length] W fun e w' => e = .returned (KV (padB (vec f []))) ∧ Below W.heap.size W w') := fun W0 W g2 hW => by
      obtain ⟨A2, c2, e2, _, _, hB⟩ := Df.own_bools hW (fv := .slice (some ⟨g2, 0, none⟩) f.length f.length) (bs := vec f []) (by simp)
      have h3 := valuesOf_any A2 c2 (vec f []) W hB (vec_le hg _) (by rw [vec_length]; exact hg.ne)
      rw [← e2] at h3
      exact h3
    have HE := Lib.hid (fun (W : World) (hb : Below w2.heap.size w2 W) =>
      explV_any 45 48 back1_call back2_call (.pointer (some ⟨w.heap.size, 0, none⟩)) (.pointer (some ⟨w.heap.size, 0, none⟩)) (backP (p0 : Int) f) (padB (vec f [])) (backFP f) p0 W (by omega) (by omega) (fun x => by rw [backP_length]; rfl)
        (fun x hx => by obtain ⟨u, rfl⟩ := rch_pad hg hx; exact padB_length (vec_le hg u))
        (fun x hx q t ht W2 hW2 => by
          obtain ⟨u, rfl⟩ := rch_pad hg hx
          obtain ⟨rfl, hq⟩ := backP_get hg u ht
          have hb3 := hb.trans (hW2.mono hb.size)
          exact back1_any (HK.out W2 hb3) (hA2.on hb3) hg u (q : Int) (by omega) (by omega))
        (fun x hx W2 hW2 => by
          obtain ⟨u, rfl⟩ := rch_pad hg hx
          exact back2_any (HK.out W2 (hb.trans (hW2.mono hb.size))) hg u))
    rw [← HPO.out] at HE
    rw [g1] at HC
    clear HPO g1 hA2 hA hg hn6 hn1
    generalize bkOut (p0 : Int) f = PO at *
    obtain ⟨po, en⟩ := PO
    simp only at HE ⊢
    generalize errV en = E at *
    obtain ⟨kv, hkv⟩ : ∃ kv, kv = KV (padB (vec f [])) := ⟨_, rfl⟩
    rw [← hkv] at HE HVo
    clear hkv
    generalize f.length = n at *
    go_enter Tryd.func23, Tryd.ntmps23
    go_wp2_with fail
    rw [← HW.out]
    clear HW
    refine HC.out.mono ?_
    rintro e w3 ⟨he, hb3⟩
    obtain rfl := he.out
    have HB3 := Lib.hid hb3
    have hc3 := HK.out w3 hb3
    clear HC he hb3 hc2
    simp only [errV]
    go_wp2_with fail
    refine (HEn.out w3 HB3.out).mono ?_
    rintro e w4 he
    obtain ⟨g4, rfl, ho4⟩ := he.out
    have HO4 := Lib.hid ho4
    have HB4 := Lib.hid (HB3.out.trans (ho4.below.mono HB3.out.size))
    clear he ho4 HEn hc3
    go_wp2_with fail
    refine (HVo.out w3 w4 g4 HO4.out).mono ?_
    rintro e w5 ⟨rfl, hb5⟩
    have HB5 := Lib.hid (HB4.out.trans (hb5.mono HB4.out.size))
    clear hb5 HVo HO4 HB4 HB3
    go_wp2_with fail
    refine (HE.out w5 HB5.out).mono ?_
    rintro e w6 he
    obtain ⟨x, h6, ho6⟩ := he.out
    subst h6
    have HO6 := Lib.hid ho6
    have HB6 := Lib.hid (HB5.out.trans (ho6.below.mono HB5.out.size))
    obtain ⟨nv, fv, A5, n5, c5, F5, m5, k5, e6, e7, e8⟩ := ho6.form
    generalize po.L = L5 at *
    generalize po.s = s5 at *
    subst e6 e7 e8
    obtain ⟨k1, k3, k4, k5', k6⟩ := res_own (HO.out.on HB5.out) HO6.out rfl
    have HEnd := Lib.hid (k1.base HB.out)
    have hr := HO.out.on HB6.out
    obtain ⟨hr0, hf0⟩ := hr.dcell (g := w.heap.size + 1) (l := zero4) (j := 0) (by simp) rfl
    obtain ⟨hr1, hf1⟩ := hr.dcell (g := w.heap.size + 1) (l := zero4) (j := 1) (by simp) rfl
    obtain ⟨hr2, hf2⟩ := hr.dcell (g := w.heap.size + 1) (l := zero4) (j := 2) (by simp) rfl
    obtain ⟨hr3, hf3⟩ := hr.dcell (g := w.heap.size + 1) (l := zero4) (j := 3) (by simp) rfl
    have K3 := Lib.hid k3
    have K4 := Lib.hid k4
    have K5 := Lib.hid k5'
    have K6 := Lib.hid k6
    clear he ho6 hr k1 k3 k4 k5' k6 HE HO6 HO HB5 HB6 HK
    go_wp2
    refine bodyPost_ret (results_dfa rfl _ rfl K3.out K4.out K5.out K6.out) rfl ⟨_, rfl, HEnd.out⟩
  · have HNo : Hid (bkOut L f = (zeroA, fchk L f)) := bkOut_bad g1
    obtain ⟨e0, he0⟩ : ∃ e0, fchk L f = e0 + 1 := ⟨fchk L f - 1, by omega⟩
    rw [he0] at HC HNo
    rw [show errV (e0 + 1) = errI ((e0 + 1 : Nat) : Int) from rfl] at HC
    generalize hE : ((e0 + 1 : Nat) : Int) = E at *
    have HE := Lib.hid hE
    clear hE he0 g1 hA hA2
    generalize f.length = n at *
    go_enter Tryd.func23, Tryd.ntmps23
    go_wp2_with fail
    rw [← HW.out]
    clear HW
    refine HC.out.mono ?_
    rintro e w3 ⟨he, hb⟩
    obtain rfl : e = .returned (errI E) := he.out
    have HO2 := Lib.hid (HO.out.on hb)
    obtain ⟨hr0, hf0⟩ := HO2.out.dcell (g := w.heap.size + 1) (l := zero4) (j := 0) (by simp) rfl
    obtain ⟨hr1, hf1⟩ := HO2.out.dcell (g := w.heap.size + 1) (l := zero4) (j := 1) (by simp) rfl
    obtain ⟨hr2, hf2⟩ := HO2.out.dcell (g := w.heap.size + 1) (l := zero4) (j := 2) (by simp) rfl
    obtain ⟨hr3, hf3⟩ := HO2.out.dcell (g := w.heap.size + 1) (l := zero4) (j := 3) (by simp) rfl
    clear hb HC he HK hc2
    have HEnd := Lib.hid (res_bad HO2.out rfl)
    go_wp2
    obtain ⟨k2, k3, k4, k5, k6⟩ := HEnd.out
    refine bodyPost_ret (results_dfa rfl _ rfl k3 k4 k5 k6) rfl ⟨_, by rw [HNo.out, errV_succ, HE.out]; rfl, by rw [HNo.out]; exact dfaOwn_zero (HB.out.trans (k2.mono HB.out.size))⟩
end Go.Proofs.YtciopfiddfmckaaDoor.Fm

namespace Go.Proofs.YtciopfiddfmckaaDoor.Fm
open Go.RowKit Go.IntWalk Go.Proofs.YtciopfiddfmckaaDoor.Wd Go.Proofs.YtciopfiddfmckaaDoor.Wo Go.Proofs.YtciopfiddfmckaaDoor.Mp Go.Proofs.YtciopfiddfmckaaDoor.Df

theorem back_gives {W : World} {L : Int} {A : Option Addr} {c : Nat} {f : List Nd} (hL : Small L) (hA : NodesAt W W.heap.size A f) (hlen : f.length ≤ 9223372036854775807) {E : Value} {r : Aut} {k : Nat} (hr : bkOut L f = (r, k)) (hE : errV k = E) : Gives 23 #[.int .i64 L, .slice A f.length c] W E r :=
  gives_of (back_any L A c f W hL hA hlen) (by rw [hr]; exact hE) (by rw [hr])
theorem bk_cases (L : Int) (f : List Nd) : (∃ l, FGood L f ∧ found (backS L f) (vec f []) = some l ∧ bkOut L f = (backA L f l, 0)) ∨ ∃ k, bkOut L f = (zeroA, k + 1) ∧ (FGood L f → k = 3) := by
  by_cases g1 : fchk L f = 0
  · have hg := fchk_iff.1 g1
    rw [bkOut_ok g1]
    unfold backOut
    rcases hl : found (backS L f) (vec f []) with _ | l
    · exact .inr ⟨3, by rw [explOut_none hl], fun _ => rfl⟩
    · exact .inl ⟨l, hg, rfl, by rw [explOut_some hl]; rfl⟩
  · rw [bkOut_bad g1]
    exact .inr ⟨fchk L f - 1, by rw [show fchk L f - 1 + 1 = fchk L f by omega], fun g => absurd (fchk_iff.2 g) g1⟩
end Go.Proofs.YtciopfiddfmckaaDoor.Fm
