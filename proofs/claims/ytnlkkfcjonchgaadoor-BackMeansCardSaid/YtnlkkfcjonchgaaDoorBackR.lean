/- The walks of the two functions that package back's Back hands on. -/
import Derived.Test.YtnlkkfcjonchgaaDoorBackW
import Derived.Test.YtnlkkfcjonchgaaDoorExplV

namespace Go.Proofs.YtnlkkfcjonchgaaDoor.Fm
open Go.RowKit Go.IntWalk Go.Proofs.YtnlkkfcjonchgaaDoor.Wd Go.Proofs.YtnlkkfcjonchgaaDoor.Wo Go.Proofs.YtnlkkfcjonchgaaDoor.Mp Go.Proofs.YtnlkkfcjonchgaaDoor.Df

theorem rch_vec {L : Int} {f : List Nd} (g : FGood L f) {x : List Bool} (h : Rch (backS L f) (vec f []) x) : ∃ u, x = vec f u := by
  induction h with
  | base => exact ⟨[], rfl⟩
  | next _ ht ih =>
    obtain ⟨u, rfl⟩ := ih
    obtain ⟨a, _, rfl⟩ := List.mem_map.1 ht
    exact ⟨(a : Int) :: u, vec_next g.nd _ _⟩
/-- The next states as the program keeps them. -/
def backP (L : Int) (f : List Nd) (x : List Bool) : List (List Bool) := (List.range L.toNat).map fun (a : Nat) => padB (nxt f (x.take f.length) a)
def backFP (f : List Nd) (x : List Bool) : Bool := x.getD (f.length - 1) false
theorem padB_vec (f : List Nd) (u : List Int) : (padB (vec f u)).take f.length = vec f u := by
  have := padB_take (vec f u)
  rwa [vec_length] at this
theorem padB_get {l : List Bool} {i : Nat} (h : i < l.length) : (padB l)[i]? = l[i]? := by unfold padB; rw [List.getElem?_append_left h]
theorem backP_length (L : Int) (f : List Nd) (x : List Bool) : (backP L f x).length = L.toNat := by simp [backP]
theorem backP_get {L : Int} {f : List Nd} (g : FGood L f) (u : List Int) {c : Nat} {t : List Bool} (h : (backP L f (padB (vec f u)))[c]? = some t) : t = padB (vec f ((c : Int) :: u)) ∧ (c : Int) < L := by
  unfold backP at h
  rw [padB_vec] at h
  have hc : c < L.toNat := by have := (List.getElem?_eq_some_iff.1 h).1; simpa using this
  rw [List.getElem?_map, List.getElem?_range hc] at h
  have h := Option.some.inj h
  simp only at h
  rw [vec_next g.nd] at h
  exact ⟨h.symm, by omega⟩
theorem rch_pad {L : Int} {f : List Nd} (g : FGood L f) {x : List Bool} (h : Rch (backP L f) (padB (vec f [])) x) : ∃ u, x = padB (vec f u) := by
  induction h with
  | base => exact ⟨[], rfl⟩
  | next _ ht ih =>
    obtain ⟨u, rfl⟩ := ih
    obtain ⟨c, hc, e⟩ := List.mem_iff_getElem.1 ht
    obtain ⟨rfl, _⟩ := backP_get g u (List.getElem?_eq_some_iff.2 ⟨hc, e⟩)
    exact ⟨_, rfl⟩
theorem vec_le {L : Int} {f : List Nd} (g : FGood L f) (u : List Int) : (vec f u).length ≤ 40 := by rw [vec_length]; exact g.le
theorem backFP_at {L : Int} {f : List Nd} (g : FGood L f) (u : List Int) : backFP f (padB (vec f u)) = backF f (vec f u) := by
  have h0 := g.ne
  unfold backFP backF
  rw [List.getD_eq_getElem?_getD, List.getD_eq_getElem?_getD, padB_get (by rw [vec_length]; omega)]
theorem backP_out {L : Int} {f : List Nd} (g : FGood L f) : explOut L (backP L f) (padB (vec f [])) (backFP f) = backOut L f :=
  Nf.explOut_as (fun x y hx hy e => by
    obtain ⟨u, rfl⟩ := rch_vec g hx
    obtain ⟨v, rfl⟩ := rch_vec g hy
    exact padB_inj (by rw [vec_length, vec_length]) e) (fun x hx => by
    obtain ⟨u, rfl⟩ := rch_vec g hx
    unfold backP backS
    rw [padB_vec, List.map_map]; rfl) (fun x hx => by
    obtain ⟨u, rfl⟩ := rch_vec g hx
    exact backFP_at g u)
/-- The cells of an array's block. -/
theorem block_bool {w : World} {g : Nat} {l : List Bool} {cs : Array Value} (h : w.heap[g]? = some (.cells cs 61 (0, 0))) (hcs : cs = (bv (padB l)).toArray) {j : Nat} {b : Bool} (hj : l[j]? = some b) : w.cell? ⟨g, j, none⟩ = some (.bool b) := by
  rw [cell_of_row w g j cs _ _ h, hcs]
  have hlt := (List.getElem?_eq_some_iff.1 hj).1
  simp only [bv, List.getElem?_toArray, List.getElem?_map, padB_get hlt, hj, Option.map_some]
theorem block_bools {w : World} {g : Nat} {l : List Bool} {cs : Array Value} (h : w.heap[g]? = some (.cells cs 61 (0, 0))) (hcs : cs = (bv (padB l)).toArray) (hg : g < w.heap.size) : Df.BoolsAt w w.heap.size (some ⟨g, 0, none⟩) l := fun k u hk => by
  rw [List.getElem?_map] at hk
  rcases hj : l[k]? with _ | b
  · rw [hj] at hk; cases hk
  · rw [hj] at hk
    obtain rfl := Option.some.inj hk
    exact ⟨_, rfl, hg, by rw [Addr.add_mid, Nat.zero_add]; exact block_bool h hcs hj⟩
set_option linter.unusedSimpArgs false in
set_option maxRecDepth 100000 in
set_option maxHeartbeats 2000000 in
theorem back1_any {L : Int} {w : World} {g : Nat} {A : Option Addr} {c : Nat} {f : List Nd} (hcell : w.cell? ⟨g, 0, none⟩ = some (.slice A f.length c)) (hA : NodesAt w w.heap.size A f) (hg : FGood L f) (u : List Int) (a : Int) (ha0 : 0 ≤ a) (ha6 : a < 6) :
    Calls Tryd.prog 26 #[KV (padB (vec f u)), .int .i64 a, .pointer (some ⟨g, 0, none⟩)] w fun e w' => e = .returned (KV (padB (vec f (a :: u)))) ∧ Below w.heap.size w w' := by
  have hl1 := padB_length (vec_le hg u)
  have hl2 := padB_length (vec_le hg (a :: u))
  obtain ⟨cs, hcs⟩ : ∃ c : Array Value, c = (bv (padB (vec f u))).toArray := ⟨_, rfl⟩
  have Hcs := Lib.hid hcs
  have Hics : Hid ((Tryd.prog.info? 61).map (·.size) = some cs.size) := by rw [Hid, hcs, sizeV]; simp [bv_length, hl1]
  have Hocs : Hid (cs.all (·.oneCell') = true) := by rw [Hid, hcs]; exact bv_one _
  have Hzcs : Hid ((#[.bool false, .bool false, .bool false, .bool false, .bool false, .bool false, .bool false, .bool false, .bool false, .bool false, .bool false, .bool false, .bool false, .bool false, .bool false, .bool false, .bool false, .bool false, .bool false, .bool false, .bool false, .bool false, .bool false, .bool false, .bool false, .bool false, .bool false, .bool false, .bool false, .bool false, .bool false, .bool false, .bool false, .bool false, .bool false, .bool false, .bool false, .bool false, .bool false, .bool false] : Array Value).size = cs.size) := by rw [Hid, hcs]; simp [bv_length, hl1]
  obtain ⟨ct, hct⟩ : ∃ c : Array Value, c = (bv (padB (vec f (a :: u)))).toArray := ⟨_, rfl⟩
  have Hct := Lib.hid hct
  have Hict : Hid ((Tryd.prog.info? 61).map (·.size) = some ct.size) := by rw [Hid, hct, sizeV]; simp [bv_length, hl2]
  have Hoct : Hid (ct.all (·.oneCell') = true) := by rw [Hid, hct]; exact bv_one _
  have Hzct : Hid ((#[.bool false, .bool false, .bool false, .bool false, .bool false, .bool false, .bool false, .bool false, .bool false, .bool false, .bool false, .bool false, .bool false, .bool false, .bool false, .bool false, .bool false, .bool false, .bool false, .bool false, .bool false, .bool false, .bool false, .bool false, .bool false, .bool false, .bool false, .bool false, .bool false, .bool false, .bool false, .bool false, .bool false, .bool false, .bool false, .bool false, .bool false, .bool false, .bool false, .bool false] : Array Value).size = ct.size) := by rw [Hid, hct]; simp [bv_length, hl2]
  have hk1 : KV (padB (vec f u)) = .agg cs := by rw [hcs]
  have hk2 : KV (padB (vec f (a :: u))) = .agg ct := by rw [hct]
  obtain ⟨zv, hzv⟩ : ∃ zv : Array Value, zv = #[.bool false, .bool false, .bool false, .bool false, .bool false, .bool false, .bool false, .bool false, .bool false, .bool false, .bool false, .bool false, .bool false, .bool false, .bool false, .bool false, .bool false, .bool false, .bool false, .bool false, .bool false, .bool false, .bool false, .bool false, .bool false, .bool false, .bool false, .bool false, .bool false, .bool false, .bool false, .bool false, .bool false, .bool false, .bool false, .bool false, .bool false, .bool false, .bool false, .bool false] := ⟨_, rfl⟩
  have hzl : zv = (bv zV).toArray := hzv.trans zV_cells
  have ho1 := own_val_lit (own_start w) hl1 hcs
  have ho2 := own_val_lit ho1 (l := zV) (by rfl) hzl
  have hsz : (w.alloc (.cells cs 61)).heap.size = w.heap.size + 1 := by simp
  rw [hsz] at ho2
  obtain ⟨w2, hw2⟩ : ∃ w2, w2 = (w.alloc (.cells cs 61)).alloc (.cells zv 61) := ⟨_, rfl⟩
  rw [← hw2] at ho2
  have HW2 : Hid (w2 = (w.alloc (.cells cs 61)).alloc (.cells #[.bool false, .bool false, .bool false, .bool false, .bool false, .bool false, .bool false, .bool false, .bool false, .bool false, .bool false, .bool false, .bool false, .bool false, .bool false, .bool false, .bool false, .bool false, .bool false, .bool false, .bool false, .bool false, .bool false, .bool false, .bool false, .bool false, .bool false, .bool false, .bool false, .bool false, .bool false, .bool false, .bool false, .bool false, .bool false, .bool false, .bool false, .bool false, .bool false, .bool false] 61)) := by rw [Hid, hw2, hzv]
  have HOwn := Lib.hid ho2
  have HK : Hid (∀ W, Below w2.heap.size w2 W → W.cell? ⟨g, 0, none⟩ = some (.slice A f.length c)) := fun W hW => ((ho2.below.trans (hW.mono ho2.below.size)).cell (p := ⟨g, 0, none⟩) (World.block_lt_of_cell? w _ hcell)).trans hcell
  have HAh : Hid (∀ W, Below w2.heap.size w2 W → Calls Tryd.prog 28 #[.slice A f.length c, .slice (some ⟨w.heap.size, 0, none⟩) f.length 40, .int .i64 a] W fun e w' => Hid (∃ g, e = .returned (.slice (some ⟨g, 0, none⟩) f.length f.length) ∧ Own W w' [eBools (.slice (some ⟨g, 0, none⟩) f.length f.length) (vec f (a :: u))] [])) := fun W hW =>
    mahead_any A c f (some ⟨w.heap.size, 0, none⟩) 40 u a W (hA.on (ho2.below.trans (hW.mono ho2.below.size))) hg (block_bools (val_block (ho2.on hW) (g := w.heap.size) (l := padB (vec f u)) (by simp) hcs) hcs (by have h8 := ho2.below.size; have h9 := hW.size; have := (ho2.lt (ad := ⟨w.heap.size + 1, 0, none⟩) (t := 61) (sz := 40) (n := 1) (cap := 1) (xs := bv zV) (by simp [eVal])).2; simp only at this; omega)) ha0 ha6
  have HVo : Hid (∀ W g2, Own w2 W [eBools (.slice (some ⟨g2, 0, none⟩) f.length f.length) (vec f (a :: u))] [] → Calls Tryd.prog 27 #[.slice (some ⟨g2, 0, none⟩) f.length f.length] W fun e w' => e = .returned (.agg ct) ∧ Below W.heap.size W w') := fun W g2 hW => by
    obtain ⟨A2, c2, e2, _, _, hB⟩ := Df.own_bools hW (fv := .slice (some ⟨g2, 0, none⟩) f.length f.length) (bs := vec f (a :: u)) (by simp)
    have h3 := valuesOf_any A2 c2 (vec f (a :: u)) W hB (vec_le hg _) (by rw [vec_length]; exact hg.ne)
    rw [← e2, hk2] at h3
    exact h3
  have HB := Lib.hid ho2.below
  have HZo := Lib.hid hzl
  have hn40 := hg.le
  have hn0 := hg.ne
  have hlen : ((f.length : Nat) : Int) ≤ 40 := by omega
  rw [hk1, hk2]
  clear hcell hA hg hl1 hl2 hcs hct hk1 hk2 ho1 ho2 hsz hw2
  generalize f.length = n at *
  go_enter Tryd.func26, Tryd.ntmps26
  go_wp2_with fail
  rw [← HW2.out]
  clear HW2
  refine wp_region_Z ((fun W => W.cell? ⟨g, 0, none⟩ = some (.slice A n c))) 7 (by kernel_rfl) (HK.out _ (Below.refl _ _).drew) (fun hHeld => ?_)
  refine wpZ_take (i := 0) (v := ?_) rfl (by kernel_rfl) (by kernel_rfl) (by kernel_rfl) (by kernel_rfl) (fun _ _ _ h => h) (Or.inl ⟨by rfl, ?_⟩) hHeld ?_
  rotate_left
  · (go_light; intro w9 hSw; (try dsimp only at hSw); go_simp; try with_reducible rfl)
  try simp only [Act.put, List.setIfInBounds_toArray, List.set_cons_zero, List.set_cons_succ]
  refine wpZ_take (i := 1) (v := ?_) rfl (by kernel_rfl) (by kernel_rfl) (by kernel_rfl) (by kernel_rfl) (fun _ _ _ h => h) (Or.inl ⟨by rfl, ?_⟩) hHeld ?_
  rotate_left
  · (go_light; intro w9 hSw; (try dsimp only at hSw); go_simp; try with_reducible rfl)
  try simp only [Act.put, List.setIfInBounds_toArray, List.set_cons_zero, List.set_cons_succ]
  refine wpZ_take (i := 2) (v := ?_) rfl (by kernel_rfl) (by kernel_rfl) (by kernel_rfl) (by kernel_rfl) (fun _ _ _ h => h) (Or.inl ⟨by rfl, ?_⟩) hHeld ?_
  rotate_left
  · (go_light; intro w9 hSw; (try dsimp only at hSw); go_simp; try with_reducible rfl)
  try simp only [Act.put, List.setIfInBounds_toArray, List.set_cons_zero, List.set_cons_succ]
  refine wpZ_take (i := 3) (v := ?_) rfl (by kernel_rfl) (by kernel_rfl) (by kernel_rfl) (by kernel_rfl) (fun _ _ _ h => h) (Or.inl ⟨by rfl, ?_⟩) hHeld ?_
  rotate_left
  · (go_light; intro w9 hSw; (try dsimp only at hSw); go_simp; try with_reducible rfl)
  try simp only [Act.put, List.setIfInBounds_toArray, List.set_cons_zero, List.set_cons_succ]
  refine wpZ_take (i := 4) (v := ?_) rfl (by kernel_rfl) (by kernel_rfl) (by kernel_rfl) (by kernel_rfl) (fun _ _ _ h => h) (Or.inl ⟨by rfl, ?_⟩) hHeld ?_
  rotate_left
  · (go_light; intro w9 hSw; (try dsimp only at hSw); go_simp; try with_reducible rfl)
  try simp only [Act.put, List.setIfInBounds_toArray, List.set_cons_zero, List.set_cons_succ]
  refine wpZ_one (i := 5) rfl (by kernel_rfl) (fun K hK => ?_)
  go_simp
  refine (HAh.out _ (Below.refl _ _).drew).mono ?_
  rintro e w5 he
  obtain ⟨g5, rfl, ho5⟩ := he.out
  have HO5 := Lib.hid (ho5.base (Below.refl _ _).drew)
  clear he ho5 HAh
  try simp only []
  refine hK.out _ _ (fun _ => HK.out _ HO5.out.below) (fun hHeld9 => ?_)
  replace hHeld := hHeld9 (by decide)
  clear hHeld9
  clear hK K
  try simp only [Act.put, List.setIfInBounds_toArray, List.set_cons_zero, List.set_cons_succ]
  refine wpZ_one (i := 6) rfl (by kernel_rfl) (fun K hK => ?_)
  go_simp
  refine (HVo.out _ g5 HO5.out).mono ?_
  rintro e w6 ⟨rfl, hb6⟩
  have HB6 := Lib.hid (HO5.out.below.trans (hb6.mono HO5.out.below.size))
  clear hb6 HVo
  try simp only []
  refine hK.out _ _ (fun _ => HK.out _ HB6.out) (fun hHeld9 => ?_)
  replace hHeld := hHeld9 (by decide)
  clear hHeld9
  clear hK K
  try simp only [Act.put, List.setIfInBounds_toArray, List.set_cons_zero, List.set_cons_succ]
  refine wpZ_one (i := 7) rfl (by kernel_rfl) (fun K hK => ?_)
  have hg7 := val_block (HOwn.out.on HB6.out) (g := w.heap.size + 1) (l := zV) (by simp) HZo.out
  rw [if_pos (by rfl)]
  refine wp_store_row 61 _ _ (by rfl) (w.heap.size + 1) ct (by rfl) (by rfl) 61 zv hg7 Hict.out (by rw [hzv]; exact Hzct.out) Hoct.out ?_
  refine hK.out _ _ (fun k => absurd rfl k) (fun _ => ?_)
  clear hK K
  try simp only [Act.put, List.setIfInBounds_toArray, List.set_cons_zero, List.set_cons_succ]
  refine wpZ_done (by kernel_rfl) ?_ _
  have HG7 : Hid ((w6.setRow (w.heap.size + 1) ct).heap[w.heap.size + 1]? = some (.cells ct 61 (0, 0))) := setRow_heap w6 (w.heap.size + 1) _ _ 61 _ hg7
  have HB7 : Hid (Below w.heap.size w (w6.setRow (w.heap.size + 1) ct)) := below_setRow (HB.out.trans (HB6.out.mono HB.out.size)) (Nat.le_succ _) _
  clear hHeld hg7 HK HO5 HB6 HB
  go_wp2
  refine bodyPost_ret (results_cell_row (by rfl) _ _ (w.heap.size + 1) 61 ct (0, 0) _ (by rfl) HG7.out Tryd.underlying61 (by rfl) Hict.out) rfl ?_
  exact ⟨rfl, HB7.out⟩
set_option maxRecDepth 100000 in
set_option maxHeartbeats 1000000 in
theorem back2_any {L : Int} {w : World} {g : Nat} {A : Option Addr} {c : Nat} {f : List Nd} (hcell : w.cell? ⟨g, 0, none⟩ = some (.slice A f.length c)) (hg : FGood L f) (u : List Int) :
    Calls Tryd.prog 29 #[KV (padB (vec f u)), .pointer (some ⟨g, 0, none⟩)] w fun e w' => e = .returned (.bool (backFP f (padB (vec f u)))) ∧ Below w.heap.size w w' := by
  have h0 := hg.ne
  have h4 := hg.le
  have hl1 := padB_length (vec_le hg u)
  obtain ⟨cs, hcs⟩ : ∃ c : Array Value, c = (bv (padB (vec f u))).toArray := ⟨_, rfl⟩
  have hk1 : KV (padB (vec f u)) = .agg cs := by rw [hcs]
  obtain ⟨b, hb⟩ : ∃ b, (vec f u)[f.length - 1]? = some b := ⟨_, List.getElem?_eq_getElem (by rw [vec_length]; omega)⟩
  have hF : backFP f (padB (vec f u)) = b := by rw [backFP_at hg, backF, List.getD_eq_getElem?_getD, hb]; rfl
  have ho1 := own_val_lit (own_start w) hl1 hcs
  have hc1 := block_bool (val_block ho1 (g := w.heap.size) (l := padB (vec f u)) (by simp) hcs) hcs hb
  have hc2 := (ho1.below.cell (p := ⟨g, 0, none⟩) (World.block_lt_of_cell? w _ hcell)).trans hcell
  have HB := Lib.hid ho1.below
  rw [hk1, hF]
  clear hk1 hcs hb hF ho1 hl1 hg hcell
  have e1 : IntKind.i64.wrap ((f.length : Int) - 1) = ((f.length - 1 : Nat) : Int) := by rw [IntWalk.i64_in _ ⟨by omega, by omega⟩]; omega
  generalize hm : f.length - 1 = m at *
  have e2 : (m : Int) < 40 := by omega
  generalize f.length = n at *
  clear hm h0 h4
  go_enter Tryd.func29, Tryd.ntmps29
  go_wp2
  go_ret
  exact ⟨rfl, HB.out⟩
end Go.Proofs.YtnlkkfcjonchgaaDoor.Fm
