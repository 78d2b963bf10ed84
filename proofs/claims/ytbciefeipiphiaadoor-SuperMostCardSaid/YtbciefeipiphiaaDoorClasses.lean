/- The walk of package small's classesOf. -/
import Derived.Test.YtbciefeipiphiaaDoorKinds
import Derived.Laws.StructEq
namespace Go.Proofs.YtbciefeipiphiaaDoor.Mp
open Go.RowKit Go.IntWalk Go.Proofs.YtbciefeipiphiaaDoor.Wd Go.Proofs.YtbciefeipiphiaaDoor.Wo Go.Proofs.YtbciefeipiphiaaDoor.Df Go.Proofs.YtbciefeipiphiaaDoor.Rc Go.Proofs.YtbciefeipiphiaaDoor.Sm
open Go.Maps (Keyed)
open Go.WideMaps (ArrKey)

theorem arr40 : ArrKey Tryd.prog 90 3 40 := ⟨Tryd.underlying90, by kernel_rfl, by kernel_rfl, by kernel_rfl⟩
set_option maxRecDepth 100000 in
theorem eq_cls {l m : List Nat} (hl : l.length ≤ 40) (hm : m.length ≤ 40) (hwl : ∀ x ∈ pad l, wfI x) (hwm : ∀ x ∈ pad m, wfI x) (he : l.length = m.length) (w : World) :
    (binOp .eql 90 (.agg (clsV l).toArray) (.agg (clsV m).toArray)).run Tryd.prog w = .ok (.bool (decide (l = m))) w ∧ (Op.equalIn 10000 90 (.agg (clsV l).toArray) (.agg (clsV m).toArray)).run Tryd.prog w = .ok (decide (l = m)) w := by
  obtain ⟨kl, hkl⟩ := arr_key arr40 Tryd.underlying3 types_pos (pad_length hl) hwl
  obtain ⟨km, hkm⟩ := arr_key arr40 Tryd.underlying3 types_pos (pad_length hm) hwm
  obtain ⟨r, hr, hiff⟩ := run_equal_deep w (m := 2) (by omega) (arr40.at 0) arr40.wide hkl hkm
  have hr2 : (Op.equalIn 10000 90 (.agg (clsV l).toArray) (.agg (clsV m).toArray)).run Tryd.prog w = .ok r w := hr
  have hrd : r = decide (l = m) := by
    rw [Bool.eq_iff_iff, decide_eq_true_iff, hiff]
    constructor
    · intro e
      subst e
      have h9 := (Keyed.of_law arr40.law).inj hkl hkm
      simp only [Value.agg.injEq] at h9
      have h9 := congrArg Array.toList h9
      exact pad_inj he ((List.map_inj_right (fun a b e => by simpa using e)).1 h9)
    · intro e
      subst e
      exact Option.some.inj (hkl.symm.trans hkm)
  rw [hrd] at hr2
  exact ⟨(run_eql_struct w _ _ _).trans (by rw [hr2]; rfl), hr2⟩
theorem clsA_same {d : Aut} (g : Df.Good d) {k : Nat} (h : ∀ {x y : Nat}, x < d.next.length → y < d.next.length → (atC (clsA d (k + 1)) x = atC (clsA d (k + 1)) y ↔ atC (clsA d k) x = atC (clsA d k) y)) : clsA d (k + 1) = clsA d k := by
  have h3 : ∀ {κ μ : Type} [DecidableEq κ] [DecidableEq μ] (ks : List κ) (ls : List μ), clsA d (k + 1) = cls ks → clsA d k = cls ls → ks.length = d.next.length → ls.length = d.next.length → clsA d (k + 1) = clsA d k := by
    intro κ μ _ _ ks ls e1 e2 l1 l2
    rw [e1, e2]
    refine cls_congr (by omega) fun i j hi hj => ?_
    rw [← cls_eq hi hj, ← cls_eq (ks := ls) (by omega) (by omega), ← e1, ← e2, atC_get g _ (by omega), atC_get g _ (by omega), atC_get g _ (by omega), atC_get g _ (by omega)]
    simpa using h (x := i) (y := j) (by omega) (by omega)
  rcases k with _ | k
  · exact h3 _ _ rfl rfl (by simp) (by rw [g.fin])
  · exact h3 _ _ rfl rfl (by simp) (by simp)
/-- What is finer was not there before. -/
theorem clsA_fresh {d : Aut} (g : Df.Good d) {k : Nat} (h : clsA d (k + 1) ≠ clsA d k) {j : Nat} (hj : j ≤ k) : clsA d j ≠ clsA d (k + 1) := fun e => h <| clsA_same g fun {x y} hx hy => by
  rw [clsA_iff g (k + 1) hx hy, clsA_iff g k hx hy]
  refine ⟨fun hr => relF_less hr (by omega), fun hr => ?_⟩
  have h1 : rel d (j + 1) x y = true := relF_less hr (by omega)
  rw [← clsA_iff g j hx hy, e, clsA_iff g (k + 1) hx hy] at h1
  exact h1
/-- As far as a world's block says. -/
def AtK (d : Aut) (g : Nat) (wr : World) (k : Nat) : Prop := wr.heap[g]? = some (.cells (clsV (clsA d k)).toArray 90 (0, 0)) ∧ ∀ j, j < k → clsA d j ≠ clsA d k
theorem atK_unique {d : Aut} (hg : Df.Good d) {g : Nat} {wr : World} {k k' : Nat} (h : AtK d g wr k) (h' : AtK d g wr k') : k = k' := by
  have e := h.1.symm.trans h'.1
  simp only [Option.some.injEq, Obj.cells.injEq, and_true] at e
  have e2 := congrArg Array.toList e
  have e3 : pad (clsA d k) = pad (clsA d k') := (List.map_inj_right (fun a b e => by simpa [i64] using e)).1 e2
  have e4 := pad_inj (by rw [clsA_length hg, clsA_length hg]) e3
  rcases Nat.lt_trichotomy k k' with hlt | rfl | hlt
  · exact absurd e4 (h'.2 k hlt)
  · rfl
  · exact absurd e4.symm (h.2 k' hlt)
open Classical in
noncomputable def kOf (d : Aut) (g : Nat) (wr : World) : Nat := if h : ∃ k, AtK d g wr k then Classical.choose h else 0
theorem kOf_eq {d : Aut} (hg : Df.Good d) {g : Nat} {wr : World} {k : Nat} (h : AtK d g wr k) : kOf d g wr = k := by
  have hex : ∃ k, AtK d g wr k := ⟨k, h⟩
  unfold kOf
  rw [dif_pos hex]
  exact atK_unique hg (Classical.choose_spec hex) h
theorem pad_wf {d : Aut} (g : Df.Good d) (k : Nat) : ∀ x ∈ pad (clsA d k), wfI x := fun x hx => by
  unfold pad at hx
  have := g.n40
  rcases List.mem_append.1 hx with hx | hx
  · obtain ⟨y, hy, rfl⟩ := List.mem_map.1 hx
    have := clsA_lt g hy
    unfold wfI; omega
  · have := (List.mem_replicate.1 hx).2
    subst this; unfold wfI; omega
theorem atC_le {d : Aut} (g : Df.Good d) (k x : Nat) : atC (clsA d k) x ≤ 40 := by
  unfold atC
  rcases h : (clsA d k)[x]? with _ | y
  · simp
  · have := clsA_lt g (List.mem_of_getElem? h)
    have := g.n40
    simp; omega
/-- Midway: known is of words of at most k letters. -/
def CInv (w1 wr : World) (g g2 : Nat) (d : Aut) (k : Nat) : Prop := Own w1 wr [eCls g (clsA d k), eCls g2 []] [] ∧ k + 1 ≤ kindsN d (k + 1) ∧ ∀ j, j < k → clsA d j ≠ clsA d k
theorem CInv.atK {w1 wr : World} {g g2 : Nat} {d : Aut} {k : Nat} (h : CInv w1 wr g g2 d k) : AtK d g wr k := ⟨(row_block (g := g) (t := 90) (sz := 40) (xs := clsV (clsA d k)) h.1 (by simp [eCls])).1, h.2.2⟩
set_option maxRecDepth 100000 in
set_option maxHeartbeats 4000000 in
theorem classes_any (v : Value) (d : Aut) (w : World) (h : DfaAt w w.heap.size v d) (hg : Df.Good d) :
    Calls Tryd.prog 57 #[v] w fun e w' => Hid (∃ cl, e = .returned (.agg (clsV cl).toArray) ∧ Fine d cl) ∧ Below w.heap.size w w' := by
  have HV := h
  obtain ⟨L, s0, A, c, F, cf, rfl, h⟩ := h
  obtain ⟨w1, hw1, hB1, hX, hd1⟩ := box_dfa w h
  have hs1 : w1.heap.size = w.heap.size + 1 := by rw [hw1]; simp
  have h40 := hg.n40
  have HB := Lib.hid hB1
  have HX := Lib.hid hX
  have HD := Lib.hid hd1
  have HG := Lib.hid hg
  have HV := Lib.hid (HV.on hB1)
  have HW := Lib.hid hw1
  have hfl := hg.fin
  have hff := h.hf
  have hff2 := h.hf2
  have HSz := Lib.hid hs1
  clear h hd1 hw1 hX hB1 hg hs1
  obtain ⟨w2, hw2⟩ : ∃ w2, w2 = w1.alloc (.cells #[.int .i64 0, .int .i64 0, .int .i64 0, .int .i64 0, .int .i64 0, .int .i64 0, .int .i64 0, .int .i64 0, .int .i64 0, .int .i64 0, .int .i64 0, .int .i64 0, .int .i64 0, .int .i64 0, .int .i64 0, .int .i64 0, .int .i64 0, .int .i64 0, .int .i64 0, .int .i64 0, .int .i64 0, .int .i64 0, .int .i64 0, .int .i64 0, .int .i64 0, .int .i64 0, .int .i64 0, .int .i64 0, .int .i64 0, .int .i64 0, .int .i64 0, .int .i64 0, .int .i64 0, .int .i64 0, .int .i64 0, .int .i64 0, .int .i64 0, .int .i64 0, .int .i64 0, .int .i64 0] 90) := ⟨_, rfl⟩
  have ho2 : Own w1 w2 [eCls w1.heap.size []] [] := by
    rw [hw2]
    exact (own_start w1).lit 90 40 1 #[.int .i64 0, .int .i64 0, .int .i64 0, .int .i64 0, .int .i64 0, .int .i64 0, .int .i64 0, .int .i64 0, .int .i64 0, .int .i64 0, .int .i64 0, .int .i64 0, .int .i64 0, .int .i64 0, .int .i64 0, .int .i64 0, .int .i64 0, .int .i64 0, .int .i64 0, .int .i64 0, .int .i64 0, .int .i64 0, .int .i64 0, .int .i64 0, .int .i64 0, .int .i64 0, .int .i64 0, .int .i64 0, .int .i64 0, .int .i64 0, .int .i64 0, .int .i64 0, .int .i64 0, .int .i64 0, .int .i64 0, .int .i64 0, .int .i64 0, .int .i64 0, .int .i64 0, .int .i64 0] rfl (by simp [maxLen])
  have HO2 := Lib.hid ho2
  have hc3 := (HX.out.on ho2.below).c3
  have HFin : Hid (BoolsAt w2 w2.heap.size F d.fin) := (HD.out.on ho2.below).fins
  have HNB := Lib.hid (numB_any F cf d.fin w2 HFin.out (by omega) hff hff2)
  rw [HW.out] at hw2
  have HW2 := Lib.hid hw2
  clear hw2 ho2 hff hff2 HW hfl
  generalize d.fin.length = m at *
  generalize hN : d.next.length = N at *
  have HN := Lib.hid hN
  clear hN
  go_enter Tryd.func57, Tryd.ntmps57
  go_wp2_with fail
  rw [← HW2.out]
  clear HW2
  refine HNB.out.mono ?_
  rintro e w3 ⟨he, hb⟩
  obtain rfl := he.out
  clear he
  obtain ⟨g2, hg2⟩ : ∃ g2, g2 = w1.heap.size := ⟨_, rfl⟩
  have ho3 := HO2.out.on hb
  rw [← hg2] at ho3
  have ho4 : Own w1 (w3.alloc (.cells #[.int .i64 0, .int .i64 0, .int .i64 0, .int .i64 0, .int .i64 0, .int .i64 0, .int .i64 0, .int .i64 0, .int .i64 0, .int .i64 0, .int .i64 0, .int .i64 0, .int .i64 0, .int .i64 0, .int .i64 0, .int .i64 0, .int .i64 0, .int .i64 0, .int .i64 0, .int .i64 0, .int .i64 0, .int .i64 0, .int .i64 0, .int .i64 0, .int .i64 0, .int .i64 0, .int .i64 0, .int .i64 0, .int .i64 0, .int .i64 0, .int .i64 0, .int .i64 0, .int .i64 0, .int .i64 0, .int .i64 0, .int .i64 0, .int .i64 0, .int .i64 0, .int .i64 0, .int .i64 0] 90)) [eCls w3.heap.size [], eCls g2 []] [] := ho3.lit 90 40 1 #[.int .i64 0, .int .i64 0, .int .i64 0, .int .i64 0, .int .i64 0, .int .i64 0, .int .i64 0, .int .i64 0, .int .i64 0, .int .i64 0, .int .i64 0, .int .i64 0, .int .i64 0, .int .i64 0, .int .i64 0, .int .i64 0, .int .i64 0, .int .i64 0, .int .i64 0, .int .i64 0, .int .i64 0, .int .i64 0, .int .i64 0, .int .i64 0, .int .i64 0, .int .i64 0, .int .i64 0, .int .i64 0, .int .i64 0, .int .i64 0, .int .i64 0, .int .i64 0, .int .i64 0, .int .i64 0, .int .i64 0, .int .i64 0, .int .i64 0, .int .i64 0, .int .i64 0, .int .i64 0] rfl (by simp [maxLen])
  have hlen : (cls d.fin).length ≤ 40 := by have := clsA_length HG.out 0; have := HN.out; rw [clsA] at *; omega
  obtain ⟨hb4, _⟩ := row_block (g := w3.heap.size) (t := 90) (sz := 40) (xs := clsV []) ho4 (by simp [eCls])
  have ho5 := Own.setRow (g := w3.heap.size) (t := 90) (sz := 40) (xs := clsV []) (ys := clsV (cls d.fin)) ho4 (clsV_length hlen)
  have HS0 : Hid (CInv w1 ((w3.alloc (.cells #[.int .i64 0, .int .i64 0, .int .i64 0, .int .i64 0, .int .i64 0, .int .i64 0, .int .i64 0, .int .i64 0, .int .i64 0, .int .i64 0, .int .i64 0, .int .i64 0, .int .i64 0, .int .i64 0, .int .i64 0, .int .i64 0, .int .i64 0, .int .i64 0, .int .i64 0, .int .i64 0, .int .i64 0, .int .i64 0, .int .i64 0, .int .i64 0, .int .i64 0, .int .i64 0, .int .i64 0, .int .i64 0, .int .i64 0, .int .i64 0, .int .i64 0, .int .i64 0, .int .i64 0, .int .i64 0, .int .i64 0, .int .i64 0, .int .i64 0, .int .i64 0, .int .i64 0, .int .i64 0] 90)).setRow w3.heap.size (clsV (cls d.fin)).toArray) w3.heap.size g2 d 0) := ⟨ho5, kindsN_pos HG.out 1, fun j hj => by omega⟩
  have Hi := Lib.hid (clsV_info hlen)
  have H1 := Lib.hid (clsV_one (cls d.fin))
  have Hsz : Hid ((clsV []).toArray.size = (clsV (cls d.fin)).toArray.size) := by unfold Hid; simp [clsV_length hlen, clsV_zero]
  have Hb4 := Lib.hid hb4
  clear hb ho3 ho4 ho5 hb4 HNB HFin HO2 hc3
  obtain ⟨cv, hcv⟩ : ∃ cv, cv = (clsV (cls d.fin)).toArray := ⟨_, rfl⟩
  rw [← hcv] at HS0 Hi H1 Hsz
  rw [← hcv]
  clear hcv
  go_wp2_with (refine wpList_store_row (by rfl) 90 _ _ (by rfl) w3.heap.size cv (by rfl) (by rfl) 90 _ Hb4.out Hi.out Hsz.out H1.out ?_)
  obtain ⟨g3, hg3⟩ : ∃ g3, g3 = w3.heap.size := ⟨_, rfl⟩
  rw [← hg3] at HS0
  rw [← hg3]
  have HG2 := Lib.hid hg2
  have HSz2 : Hid (w.heap.size + 1 = g2) := by rw [Hid, hg2, HSz.out]
  rw [HSz2.out]
  generalize (w3.alloc (.cells #[.int .i64 0, .int .i64 0, .int .i64 0, .int .i64 0, .int .i64 0, .int .i64 0, .int .i64 0, .int .i64 0, .int .i64 0, .int .i64 0, .int .i64 0, .int .i64 0, .int .i64 0, .int .i64 0, .int .i64 0, .int .i64 0, .int .i64 0, .int .i64 0, .int .i64 0, .int .i64 0, .int .i64 0, .int .i64 0, .int .i64 0, .int .i64 0, .int .i64 0, .int .i64 0, .int .i64 0, .int .i64 0, .int .i64 0, .int .i64 0, .int .i64 0, .int .i64 0, .int .i64 0, .int .i64 0, .int .i64 0, .int .i64 0, .int .i64 0, .int .i64 0, .int .i64 0, .int .i64 0] 90)).setRow g3 cv = w4 at *
  clear Hi H1 Hsz Hb4 hg3 hg2
  simp only [Act.put]
  go_loopw [4] (fun _ wr => ∃ (k : Nat), Hid (CInv w1 wr g3 g2 d k)) (fun _ wr => 41 - kOf d g3 wr)
  case atStart => exact ⟨0, HS0⟩
  case round =>
    clear HS0
    obtain ⟨k, HS⟩ := hrel
    have hbw := HS.out.1.below
    have hX := HX.out.on hbw
    have hc0 := hX.c0
    have hc1 := hX.c1
    have hc2 := hX.c2
    have hc3 := hX.c3
    have hlk : (clsA d k).length ≤ 40 := by rw [clsA_length HG.out]; have := HN.out; omega
    have hlk1 : (clsA d (k + 1)).length ≤ 40 := by rw [clsA_length HG.out]; have := HN.out; omega
    obtain ⟨hb3, _⟩ := row_block (g := g3) (t := 90) (sz := 40) (xs := clsV (clsA d k)) HS.out.1 (by simp [eCls])
    have Hb3 := Lib.hid hb3
    have Hi := Lib.hid (clsV_info hlk)
    have HKi := Lib.hid (kinds_any _ d (clsA d k) wr (HV.out.on hbw) HG.out (clsA_length HG.out k))
    rw [HN.out] at HKi
    obtain ⟨cv, hcv⟩ : ∃ cv, cv = (clsV (clsA d k)).toArray := ⟨_, rfl⟩
    have HCv := Lib.hid hcv
    rw [← hcv] at Hb3 Hi HKi
    clear hcv hb3 hX hbw
    go_wp2_with (refine wpList_load_row (by rfl) 90 _ (by rfl) g3 (by rfl) 90 cv (0, 0) _ Hb3.out Tryd.underlying90 (by rfl) Hi.out ?_)
    refine HKi.out.mono ?_
    rintro e w5 he
    obtain ⟨gk, h1, ho⟩ := he.out
    subst h1
    have HNK : Hid (Calls Tryd.prog 74 #[rV gk N] w5 fun e w' => Hid (e = .returned (.agg (clsV (clsA d (k + 1))).toArray)) ∧ Below w5.heap.size w5 w') := by
      have h9 := numK_any (some ⟨gk, 0, none⟩) N (kR d (clsA d k) d.next.length 0) w5 (ho.cells (t := 123) (sz := 7) (n := N) (cap := N) (A := some ⟨gk, 0, none⟩) (by simp [eKin, HN.out])) (kR_seven HG.out.l6 (by omega)) (fun l hl => by
        unfold kR at hl
        obtain ⟨q, _, rfl⟩ := List.mem_map.1 hl
        exact kM_wf (atC_le HG.out k)) (by rw [kR_length, HN.out]; exact h40) (by rw [kR_length, HN.out]; exact Nat.le_refl _) (by omega)
      rw [cls_kinds, kR_length, HN.out] at h9
      unfold Hid
      rw [clsA, HN.out]
      exact h9
    have hb5 := ho.below
    have HO5 := Lib.hid (HS.out.1.on hb5)
    clear ho he HKi
    go_wp2_with fail
    refine HNK.out.mono ?_
    rintro e w6 ⟨he, hb6⟩
    obtain rfl := he.out
    clear he HNK
    have ho7 : Own w1 (w6.alloc (.cells #[.int .i64 0, .int .i64 0, .int .i64 0, .int .i64 0, .int .i64 0, .int .i64 0, .int .i64 0, .int .i64 0, .int .i64 0, .int .i64 0, .int .i64 0, .int .i64 0, .int .i64 0, .int .i64 0, .int .i64 0, .int .i64 0, .int .i64 0, .int .i64 0, .int .i64 0, .int .i64 0, .int .i64 0, .int .i64 0, .int .i64 0, .int .i64 0, .int .i64 0, .int .i64 0, .int .i64 0, .int .i64 0, .int .i64 0, .int .i64 0, .int .i64 0, .int .i64 0, .int .i64 0, .int .i64 0, .int .i64 0, .int .i64 0, .int .i64 0, .int .i64 0, .int .i64 0, .int .i64 0] 90)) [eCls w6.heap.size [], eCls g3 (clsA d k), eCls g2 []] [] := (HO5.out.on hb6).lit 90 40 1 #[.int .i64 0, .int .i64 0, .int .i64 0, .int .i64 0, .int .i64 0, .int .i64 0, .int .i64 0, .int .i64 0, .int .i64 0, .int .i64 0, .int .i64 0, .int .i64 0, .int .i64 0, .int .i64 0, .int .i64 0, .int .i64 0, .int .i64 0, .int .i64 0, .int .i64 0, .int .i64 0, .int .i64 0, .int .i64 0, .int .i64 0, .int .i64 0, .int .i64 0, .int .i64 0, .int .i64 0, .int .i64 0, .int .i64 0, .int .i64 0, .int .i64 0, .int .i64 0, .int .i64 0, .int .i64 0, .int .i64 0, .int .i64 0, .int .i64 0, .int .i64 0, .int .i64 0, .int .i64 0] rfl (by simp [maxLen])
    obtain ⟨hb7, _⟩ := row_block (g := w6.heap.size) (t := 90) (sz := 40) (xs := clsV []) ho7 (by simp [eCls])
    have ho8 : Own w1 ((w6.alloc (.cells #[.int .i64 0, .int .i64 0, .int .i64 0, .int .i64 0, .int .i64 0, .int .i64 0, .int .i64 0, .int .i64 0, .int .i64 0, .int .i64 0, .int .i64 0, .int .i64 0, .int .i64 0, .int .i64 0, .int .i64 0, .int .i64 0, .int .i64 0, .int .i64 0, .int .i64 0, .int .i64 0, .int .i64 0, .int .i64 0, .int .i64 0, .int .i64 0, .int .i64 0, .int .i64 0, .int .i64 0, .int .i64 0, .int .i64 0, .int .i64 0, .int .i64 0, .int .i64 0, .int .i64 0, .int .i64 0, .int .i64 0, .int .i64 0, .int .i64 0, .int .i64 0, .int .i64 0, .int .i64 0] 90)).setRow w6.heap.size (clsV (clsA d (k + 1))).toArray) [eCls w6.heap.size (clsA d (k + 1)), eCls g3 (clsA d k), eCls g2 []] [] := Own.setRow (g := w6.heap.size) (t := 90) (sz := 40) (xs := clsV []) (ys := clsV (clsA d (k + 1))) ho7 (clsV_length hlk1)
    have Hb7 := Lib.hid hb7
    have HO8 := Lib.hid ho8
    have Hi2 := Lib.hid (clsV_info hlk1)
    have H12 := Lib.hid (clsV_one (clsA d (k + 1)))
    have H11 := Lib.hid (clsV_one (clsA d k))
    have Hsz2 : Hid ((clsV []).toArray.size = (clsV (clsA d (k + 1))).toArray.size) := by unfold Hid; simp [clsV_length hlk1, clsV_zero]
    have Hsz3 : Hid ((clsV (clsA d k)).toArray.size = (clsV (clsA d (k + 1))).toArray.size) := by unfold Hid; simp [clsV_length hlk1, clsV_length hlk]
    have Hsz4 : Hid ((clsV []).toArray.size = (clsV (clsA d k)).toArray.size) := by unfold Hid; simp [clsV_length hlk, clsV_zero]
    have heq1 := fun W => (eq_cls hlk1 hlk (pad_wf HG.out (k + 1)) (pad_wf HG.out k) (by rw [clsA_length HG.out, clsA_length HG.out]) W).1
    have heq2 := fun W => (eq_cls hlk1 hlk (pad_wf HG.out (k + 1)) (pad_wf HG.out k) (by rw [clsA_length HG.out, clsA_length HG.out]) W).2
    obtain ⟨cv2, hcv2⟩ : ∃ cv2, cv2 = (clsV (clsA d (k + 1))).toArray := ⟨_, rfl⟩
    have HCv2 := Lib.hid hcv2
    rw [← hcv2] at HO8 Hi2 H12 Hsz2 Hsz3
    rw [← HCv.out] at H11 Hsz3 Hsz4
    rw [← hcv2, ← HCv.out] at heq1 heq2
    rw [← hcv2]
    clear hcv2 ho7 ho8 hb7 hb5 hb6 HO5
    have Hb8 : Hid (((w6.alloc (.cells #[.int .i64 0, .int .i64 0, .int .i64 0, .int .i64 0, .int .i64 0, .int .i64 0, .int .i64 0, .int .i64 0, .int .i64 0, .int .i64 0, .int .i64 0, .int .i64 0, .int .i64 0, .int .i64 0, .int .i64 0, .int .i64 0, .int .i64 0, .int .i64 0, .int .i64 0, .int .i64 0, .int .i64 0, .int .i64 0, .int .i64 0, .int .i64 0, .int .i64 0, .int .i64 0, .int .i64 0, .int .i64 0, .int .i64 0, .int .i64 0, .int .i64 0, .int .i64 0, .int .i64 0, .int .i64 0, .int .i64 0, .int .i64 0, .int .i64 0, .int .i64 0, .int .i64 0, .int .i64 0] 90)).setRow w6.heap.size cv2).heap[w6.heap.size]? = some (.cells cv2 90 (0, 0))) := by
      have h9 := (row_block (g := w6.heap.size) (t := 90) (sz := 40) (xs := clsV (clsA d (k + 1))) HO8.out (by simp [eCls])).1
      rw [← HCv2.out] at h9
      exact h9
    have Hb9 : Hid (((w6.alloc (.cells #[.int .i64 0, .int .i64 0, .int .i64 0, .int .i64 0, .int .i64 0, .int .i64 0, .int .i64 0, .int .i64 0, .int .i64 0, .int .i64 0, .int .i64 0, .int .i64 0, .int .i64 0, .int .i64 0, .int .i64 0, .int .i64 0, .int .i64 0, .int .i64 0, .int .i64 0, .int .i64 0, .int .i64 0, .int .i64 0, .int .i64 0, .int .i64 0, .int .i64 0, .int .i64 0, .int .i64 0, .int .i64 0, .int .i64 0, .int .i64 0, .int .i64 0, .int .i64 0, .int .i64 0, .int .i64 0, .int .i64 0, .int .i64 0, .int .i64 0, .int .i64 0, .int .i64 0, .int .i64 0] 90)).setRow w6.heap.size cv2).heap[g3]? = some (.cells cv 90 (0, 0))) := by
      have h9 := (row_block (g := g3) (t := 90) (sz := 40) (xs := clsV (clsA d k)) HO8.out (by simp [eCls])).1
      rw [← HCv.out] at h9
      exact h9
    have Hb10 : Hid (((w6.alloc (.cells #[.int .i64 0, .int .i64 0, .int .i64 0, .int .i64 0, .int .i64 0, .int .i64 0, .int .i64 0, .int .i64 0, .int .i64 0, .int .i64 0, .int .i64 0, .int .i64 0, .int .i64 0, .int .i64 0, .int .i64 0, .int .i64 0, .int .i64 0, .int .i64 0, .int .i64 0, .int .i64 0, .int .i64 0, .int .i64 0, .int .i64 0, .int .i64 0, .int .i64 0, .int .i64 0, .int .i64 0, .int .i64 0, .int .i64 0, .int .i64 0, .int .i64 0, .int .i64 0, .int .i64 0, .int .i64 0, .int .i64 0, .int .i64 0, .int .i64 0, .int .i64 0, .int .i64 0, .int .i64 0] 90)).setRow w6.heap.size cv2).heap[g2]? = some (.cells (clsV []).toArray 90 (0, 0))) :=
      (row_block (g := g2) (t := 90) (sz := 40) (xs := clsV []) HO8.out (by simp [eCls])).1
    by_cases hst : clsA d (k + 1) = clsA d k
    · as_aux_lemma =>
      have HFi := Lib.hid (clsA_fine HG.out hst)
      have hq1 := fun W => (heq1 W).trans (by rw [decide_eq_true hst])
      have hq2 := fun W => (heq2 W).trans (by rw [decide_eq_true hst])
      clear heq1 heq2
      have h9 := (Own.setRow (g := g2) (t := 90) (sz := 40) (xs := clsV []) (ys := clsV (clsA d k)) (HO8.out.re [2, 0, 1] 3 rfl (by decide)) (clsV_length hlk))
      rw [← HCv.out] at h9
      have HB9 := Lib.hid (HB.out.trans (h9.below.mono HB.out.size))
      have Hb11 : Hid ((((w6.alloc (.cells #[.int .i64 0, .int .i64 0, .int .i64 0, .int .i64 0, .int .i64 0, .int .i64 0, .int .i64 0, .int .i64 0, .int .i64 0, .int .i64 0, .int .i64 0, .int .i64 0, .int .i64 0, .int .i64 0, .int .i64 0, .int .i64 0, .int .i64 0, .int .i64 0, .int .i64 0, .int .i64 0, .int .i64 0, .int .i64 0, .int .i64 0, .int .i64 0, .int .i64 0, .int .i64 0, .int .i64 0, .int .i64 0, .int .i64 0, .int .i64 0, .int .i64 0, .int .i64 0, .int .i64 0, .int .i64 0, .int .i64 0, .int .i64 0, .int .i64 0, .int .i64 0, .int .i64 0, .int .i64 0] 90)).setRow w6.heap.size cv2).setRow g2 cv).heap[g2]? = some (.cells cv 90 (0, 0))) := by
        have h8 := (row_block (g := g2) (t := 90) (sz := 40) (xs := clsV (clsA d k)) h9 (by simp)).1
        rw [← HCv.out] at h8
        exact h8
      clear hst h9
      go_wp2_with (first | (refine wpList_store_row (by rfl) 90 _ _ (by rfl) w6.heap.size cv2 (by rfl) (by rfl) 90 _ Hb7.out Hi2.out Hsz2.out H12.out ?_) | (refine wpList_load_row (by rfl) 90 _ (by rfl) w6.heap.size (by rfl) 90 cv2 (0, 0) _ Hb8.out Tryd.underlying90 (by rfl) Hi2.out ?_) | (refine wpList_load_row (by rfl) 90 _ (by rfl) g3 (by rfl) 90 cv (0, 0) _ Hb9.out Tryd.underlying90 (by rfl) Hi.out ?_) | (refine wpList_store_row (by rfl) 90 _ _ (by rfl) g2 cv (by rfl) (by rfl) 90 _ Hb10.out Hi.out Hsz4.out H11.out ?_))
      (try simp only [Exit.inBlock, Exit.then])
      refine bodyPost_ret (results_cell_row (by rfl) _ _ g2 90 cv (0, 0) _ (by rfl) Hb11.out Tryd.underlying90 (by rfl) Hi.out) rfl ?_
      exact ⟨Lib.hid ⟨_, by rw [HCv.out], HFi.out⟩, HB9.out⟩
    · as_aux_lemma =>
      have hq1 := fun W => (heq1 W).trans (by rw [decide_eq_false hst])
      have hq2 := fun W => (heq2 W).trans (by rw [decide_eq_false hst])
      clear heq1 heq2
      have h9 := (Own.setRow (g := g3) (t := 90) (sz := 40) (xs := clsV (clsA d k)) (ys := clsV (clsA d (k + 1))) HO8.out.two (clsV_length hlk1))
      rw [← HCv2.out] at h9
      have hmore : kindsN d (k + 1) < kindsN d (k + 1 + 1) := clsA_more HG.out hst
      have HN1 : Hid (CInv w1 (((w6.alloc (.cells #[.int .i64 0, .int .i64 0, .int .i64 0, .int .i64 0, .int .i64 0, .int .i64 0, .int .i64 0, .int .i64 0, .int .i64 0, .int .i64 0, .int .i64 0, .int .i64 0, .int .i64 0, .int .i64 0, .int .i64 0, .int .i64 0, .int .i64 0, .int .i64 0, .int .i64 0, .int .i64 0, .int .i64 0, .int .i64 0, .int .i64 0, .int .i64 0, .int .i64 0, .int .i64 0, .int .i64 0, .int .i64 0, .int .i64 0, .int .i64 0, .int .i64 0, .int .i64 0, .int .i64 0, .int .i64 0, .int .i64 0, .int .i64 0, .int .i64 0, .int .i64 0, .int .i64 0, .int .i64 0] 90)).setRow w6.heap.size cv2).setRow g3 cv2) g3 g2 d (k + 1)) := ⟨(h9.re [1, 0, 2] 3 rfl (by decide)).tail, by have := HS.out.2.1; omega, fun j hj => clsA_fresh HG.out hst (by omega)⟩
      have hk0 := kOf_eq HG.out HS.out.atK
      have hk1 := kOf_eq HG.out HN1.out.atK
      have hk40 : k + 1 ≤ 40 := by have := HS.out.2.1; have := kindsN_le d (k + 1); have := HN.out; omega
      have HK := Lib.hid (show 41 - kOf d g3 (((w6.alloc (.cells #[.int .i64 0, .int .i64 0, .int .i64 0, .int .i64 0, .int .i64 0, .int .i64 0, .int .i64 0, .int .i64 0, .int .i64 0, .int .i64 0, .int .i64 0, .int .i64 0, .int .i64 0, .int .i64 0, .int .i64 0, .int .i64 0, .int .i64 0, .int .i64 0, .int .i64 0, .int .i64 0, .int .i64 0, .int .i64 0, .int .i64 0, .int .i64 0, .int .i64 0, .int .i64 0, .int .i64 0, .int .i64 0, .int .i64 0, .int .i64 0, .int .i64 0, .int .i64 0, .int .i64 0, .int .i64 0, .int .i64 0, .int .i64 0, .int .i64 0, .int .i64 0, .int .i64 0, .int .i64 0] 90)).setRow w6.heap.size cv2).setRow g3 cv2) < 41 - kOf d g3 wr by rw [hk0, hk1]; omega)
      clear hst h9 hmore hk0 hk1
      go_wp2_with (first | (refine wpList_store_row (by rfl) 90 _ _ (by rfl) w6.heap.size cv2 (by rfl) (by rfl) 90 _ Hb7.out Hi2.out Hsz2.out H12.out ?_) | (refine wpList_load_row (by rfl) 90 _ (by rfl) w6.heap.size (by rfl) 90 cv2 (0, 0) _ Hb8.out Tryd.underlying90 (by rfl) Hi2.out ?_) | (refine wpList_load_row (by rfl) 90 _ (by rfl) g3 (by rfl) 90 cv (0, 0) _ Hb9.out Tryd.underlying90 (by rfl) Hi.out ?_) | (refine wpList_store_row (by rfl) 90 _ _ (by rfl) g3 cv2 (by rfl) (by rfl) 90 _ Hb9.out Hi2.out Hsz3.out H12.out ?_))
      simp only [Act.put, List.setIfInBounds_toArray, List.set_cons_succ, List.set_cons_zero]
      go_roundw
      case rel => exact ⟨k + 1, HN1⟩
      case measure => exact HK.out
end Go.Proofs.YtbciefeipiphiaaDoor.Mp
