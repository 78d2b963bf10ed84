/- The walk of package small's classesOf. The walk of package small's merged. The walk of package small's Minimal, and its contract as the laws' walks use it. -/
import Derived.Test.YtbciefeipiphiaaDoorKinds
import Derived.Laws.StructEq
import Derived.Test.YtbciefeipiphiaaDoorTrim
import Derived.Test.YtbciefeipiphiaaDoorDfaV

namespace Go.Proofs.YtbciefeipiphiaaDoor.Mp
open Go.RowKit Go.IntWalk Go.Proofs.YtbciefeipiphiaaDoor.Wd Go.Proofs.YtbciefeipiphiaaDoor.Wo Go.Proofs.YtbciefeipiphiaaDoor.Df Go.Proofs.YtbciefeipiphiaaDoor.Rc Go.Proofs.YtbciefeipiphiaaDoor.Sm
open Go.Maps (Keyed)
open Go.WideMaps (ArrKey)

theorem arr40 : ArrKey Tryd.prog 90 3 40 := ⟨Tryd.underlying90, by kernel_rfl, by kernel_rfl, by kernel_rfl⟩
set_option maxRecDepth 100000 in
theorem eq_cls {l m : List Nat} (hl : l.length ≤ 40) (hm : m.length ≤ 40) (hwl : ∀ x ∈ pad l, wfI x) (hwm : ∀ x ∈ pad m, wfI x) (he : l.length = m.length) (w : World) :
    (binOp .eql 90 (.agg (clsV l).toArray) (.agg (clsV m).toArray)).run Tryd.prog w = .ok (.bool (decide (l = m))) w ∧ (Op.equalIn 10000 90 (.agg (clsV l).toArray) (.agg (clsV m).toArray)).run Tryd.prog w = .ok (decide (l = m)) w := by
  obtain ⟨kl, hkl⟩ := arr_key arr40 Tryd.underlying3 types_pos (pad_length hl) hwl
  obtain ⟨km, hkm⟩ := arr_key arr40 Tryd.underlying3 types_pos (pad_length hm) hwm
  obtain ⟨r, hr, hiff⟩ := run_equal_deep w (m := 2) (by omega) (arr40.at 0) arr40.wide hkl hkm
  have hr2 : (Op.equalIn 10000 90 (.agg (clsV l).toArray) (.agg (clsV m).toArray)).run Tryd.prog w = .ok r w := hr
  have hrd : r = decide (l = m) := by
    rw [Bool.eq_iff_iff, decide_eq_true_iff, hiff]
    constructor
    · intro e
      subst e
      have h9 := (Keyed.of_law arr40.law).inj hkl hkm
      simp only [Value.agg.injEq] at h9
      have h9 := congrArg Array.toList h9
      exact pad_inj he ((List.map_inj_right (fun a b e => by simpa using e)).1 h9)
    · intro e
      subst e
      exact Option.some.inj (hkl.symm.trans hkm)
  rw [hrd] at hr2
  exact ⟨(run_eql_struct w _ _ _).trans (by rw [hr2]; rfl), hr2⟩
theorem clsA_same {d : Aut} (g : Df.Good d) {k : Nat} (h : ∀ {x y : Nat}, x < d.next.length → y < d.next.length → (atC (clsA d (k + 1)) x = atC (clsA d (k + 1)) y ↔ atC (clsA d k) x = atC (clsA d k) y)) : clsA d (k + 1) = clsA d k := by
  have h3 : ∀ {κ μ : Type} [DecidableEq κ] [DecidableEq μ] (ks : List κ) (ls : List μ), clsA d (k + 1) = cls ks → clsA d k = cls ls → ks.length = d.next.length → ls.length = d.next.length → clsA d (k + 1) = clsA d k := by
    intro κ μ _ _ ks ls e1 e2 l1 l2
    rw [e1, e2]
    refine cls_congr (by omega) fun i j hi hj => ?_
    rw [← cls_eq hi hj, ← cls_eq (ks := ls) (by omega) (by omega), ← e1, ← e2, atC_get g _ (by omega), atC_get g _ (by omega), atC_get g _ (by omega), atC_get g _ (by omega)]
    simpa using h (x := i) (y := j) (by omega) (by omega)
  rcases k with _ | k
  · exact h3 _ _ rfl rfl (by simp) (by rw [g.fin])
  · exact h3 _ _ rfl rfl (by simp) (by simp)
/-- What is finer was not there before. -/
theorem clsA_fresh {d : Aut} (g : Df.Good d) {k : Nat} (h : clsA d (k + 1) ≠ clsA d k) {j : Nat} (hj : j ≤ k) : clsA d j ≠ clsA d (k + 1) := fun e => h <| clsA_same g fun {x y} hx hy => by
  rw [clsA_iff g (k + 1) hx hy, clsA_iff g k hx hy]
  refine ⟨fun hr => relF_less hr (by omega), fun hr => ?_⟩
  have h1 : rel d (j + 1) x y = true := relF_less hr (by omega)
  rw [← clsA_iff g j hx hy, e, clsA_iff g (k + 1) hx hy] at h1
  exact h1
/-- As far as a world's block says. -/
def AtK (d : Aut) (g : Nat) (wr : World) (k : Nat) : Prop := wr.heap[g]? = some (.cells (clsV (clsA d k)).toArray 90 (0, 0)) ∧ ∀ j, j < k → clsA d j ≠ clsA d k
theorem atK_unique {d : Aut} (hg : Df.Good d) {g : Nat} {wr : World} {k k' : Nat} (h : AtK d g wr k) (h' : AtK d g wr k') : k = k' := by
  have e := h.1.symm.trans h'.1
  simp only [Option.some.injEq, Obj.cells.injEq, and_true] at e
  have e2 := congrArg Array.toList e
  have e3 : pad (clsA d k) = pad (clsA d k') := (List.map_inj_right (fun a b e => by simpa [i64] using e)).1 e2
  have e4 := pad_inj (by rw [clsA_length hg, clsA_length hg]) e3
  rcases Nat.lt_trichotomy k k' with hlt | rfl | hlt
  · exact absurd e4 (h'.2 k hlt)
  · rfl
  · exact absurd e4.symm (h.2 k' hlt)
open Classical in
noncomputable def kOf (d : Aut) (g : Nat) (wr : World) : Nat := if h : ∃ k, AtK d g wr k then Classical.choose h else 0
theorem kOf_eq {d : Aut} (hg : Df.Good d) {g : Nat} {wr : World} {k : Nat} (h : AtK d g wr k) : kOf d g wr = k := by
  have hex : ∃ k, AtK d g wr k := ⟨k, h⟩
  unfold kOf
  rw [dif_pos hex]
  exact atK_unique hg (Classical.choose_spec hex) h
theorem pad_wf {d : Aut} (g : Df.Good d) (k : Nat) : ∀ x ∈ pad (clsA d k), wfI x := fun x hx => by
  unfold pad at hx
  have := g.n40
  rcases List.mem_append.1 hx with hx | hx
  · obtain ⟨y, hy, rfl⟩ := List.mem_map.1 hx
    have := clsA_lt g hy
    unfold wfI; omega
  · have := (List.mem_replicate.1 hx).2
    subst this; unfold wfI; omega
theorem atC_le {d : Aut} (g : Df.Good d) (k x : Nat) : atC (clsA d k) x ≤ 40 := by
  unfold atC
  rcases h : (clsA d k)[x]? with _ | y
  · simp
  · have := clsA_lt g (List.mem_of_getElem? h)
    have := g.n40
    simp; omega
/-- Midway: known is of words of at most k letters. -/
def CInv (w1 wr : World) (g g2 : Nat) (d : Aut) (k : Nat) : Prop := Own w1 wr [eCls g (clsA d k), eCls g2 []] [] ∧ k + 1 ≤ kindsN d (k + 1) ∧ ∀ j, j < k → clsA d j ≠ clsA d k
theorem CInv.atK {w1 wr : World} {g g2 : Nat} {d : Aut} {k : Nat} (h : CInv w1 wr g g2 d k) : AtK d g wr k := ⟨(row_block (g := g) (t := 90) (sz := 40) (xs := clsV (clsA d k)) h.1 (by simp [eCls])).1, h.2.2⟩
set_option maxRecDepth 100000 in
set_option maxHeartbeats 4000000 in
theorem classes_any (v : Value) (d : Aut) (w : World) (h : DfaAt w w.heap.size v d) (hg : Df.Good d) :
    Calls Tryd.prog 57 #[v] w fun e w' => Hid (∃ cl, e = .returned (.agg (clsV cl).toArray) ∧ Fine d cl) ∧ Below w.heap.size w w' := by
  have HV := h
  obtain ⟨L, s0, A, c, F, cf, rfl, h⟩ := h
  obtain ⟨w1, hw1, hB1, hX, hd1⟩ := box_dfa w h
  have hs1 : w1.heap.size = w.heap.size + 1 := by rw [hw1]; simp
  have h40 := hg.n40
  have HB := Lib.hid hB1
  have HX := Lib.hid hX
  have HD := Lib.hid hd1
  have HG := Lib.hid hg
  have HV := Lib.hid (HV.on hB1)
  have HW := Lib.hid hw1
  have hfl := hg.fin
  have hff := h.hf
  have hff2 := h.hf2
  have HSz := Lib.hid hs1
  clear h hd1 hw1 hX hB1 hg hs1
  obtain ⟨w2, hw2⟩ : ∃ w2, w2 = w1.alloc (.cells #[.int .i64 0, .int .i64 0, .int .i64 0, .int .i64 0, .int .i64 0, .int .i64 0, .int .i64 0, .int .i64 0, .int .i64 0, .int .i64 0, .int .i64 0, .int .i64 0, .int .i64 0, .int .i64 0, .int .i64 0, .int .i64 0, .int .i64 0, .int .i64 0, .int .i64 0, .int .i64 0, .int .i64 0, .int .i64 0, .int .i64 0, .int .i64 0, .int .i64 0, .int .i64 0, .int .i64 0, .int .i64 0, .int .i64 0, .int .i64 0, .int .i64 0, .int .i64 0, .int .i64 0, .int .i64 0, .int .i64 0, .int .i64 0, .int .i64 0, .int .i64 0, .int .i64 0, .int .i64 0] 90) := ⟨_, rfl⟩
  have ho2 : Own w1 w2 [eCls w1.heap.size []] [] := by
    rw [hw2]
    exact (own_start w1).lit 90 40 1 #[.int .i64 0, .int .i64 0, .int .i64 0, .int .i64 0, .int .i64 0, .int .i64 0, .int .i64 0, .int .i64 0, .int .i64 0, .int .i64 0, .int .i64 0, .int .i64 0, .int .i64 0, .int .i64 0, .int .i64 0, .int .i64 0, .int .i64 0, .int .i64 0, .int .i64 0, .int .i64 0, .int .i64 0, .int .i64 0, .int .i64 0, .int .i64 0, .int .i64 0, .int .i64 0, .int .i64 0, .int .i64 0, .int .i64 0, .int .i64 0, .int .i64 0, .int .i64 0, .int .i64 0, .int .i64 0, .int .i64 0, .int .i64 0, .int .i64 0, .int .i64 0, .int .i64 0, .int .i64 0] rfl (by simp [maxLen])
  have HO2 := Lib.hid ho2
  have hc3 := (HX.out.on ho2.below).c3
  have HFin : Hid (BoolsAt w2 w2.heap.size F d.fin) := (HD.out.on ho2.below).fins
  have HNB := Lib.hid (numB_any F cf d.fin w2 HFin.out (by omega) hff hff2)
  rw [HW.out] at hw2
  have HW2 := Lib.hid hw2
  clear hw2 ho2 hff hff2 HW hfl
  generalize d.fin.length = m at *
  generalize hN : d.next.length = N at *
  have HN := Lib.hid hN
  clear hN
  go_enter Tryd.func57, Tryd.ntmps57
  go_wp2_with fail
  rw [← HW2.out]
  clear HW2
  refine HNB.out.mono ?_
  rintro e w3 ⟨he, hb⟩
  obtain rfl := he.out
  clear he
  obtain ⟨g2, hg2⟩ : ∃ g2, g2 = w1.heap.size := ⟨_, rfl⟩
  have ho3 := HO2.out.on hb
  rw [← hg2] at ho3
  have ho4 : Own w1 (w3.alloc (.cells #[.int .i64 0, .int .i64 0, .int .i64 0, .int .i64 0, .int .i64 0, .int .i64 0, .int .i64 0, .int .i64 0, .int .i64 0, .int .i64 0, .int .i64 0, .int .i64 0, .int .i64 0, .int .i64 0, .int .i64 0, .int .i64 0, .int .i64 0, .int .i64 0, .int .i64 0, .int .i64 0, .int .i64 0, .int .i64 0, .int .i64 0, .int .i64 0, .int .i64 0, .int .i64 0, .int .i64 0, .int .i64 0, .int .i64 0, .int .i64 0, .int .i64 0, .int .i64 0, .int .i64 0, .int .i64 0, .int .i64 0, .int .i64 0, .int .i64 0, .int .i64 0, .int .i64 0, .int .i64 0] 90)) [eCls w3.heap.size [], eCls g2 []] [] := ho3.lit 90 40 1 #[.int .i64 0, .int .i64 0, .int .i64 0, .int .i64 0, .int .i64 0, .int .i64 0, .int .i64 0, .int .i64 0, .int .i64 0, .int .i64 0, .int .i64 0, .int .i64 0, .int .i64 0, .int .i64 0, .int .i64 0, .int .i64 0, .int .i64 0, .int .i64 0, .int .i64 0, .int .i64 0, .int .i64 0, .int .i64 0, .int .i64 0, .int .i64 0, .int .i64 0, .int .i64 0, .int .i64 0, .int .i64 0, .int .i64 0, .int .i64 0, .int .i64 0, .int .i64 0, .int .i64 0, .int .i64 0, .int .i64 0, .int .i64 0, .int .i64 0, .int .i64 0, .int .i64 0, .int .i64 0] rfl (by simp [maxLen])
  have hlen : (cls d.fin).length ≤ 40 := by have := clsA_length HG.out 0; have := HN.out; rw [clsA] at *; omega
  obtain ⟨hb4, _⟩ := row_block (g := w3.heap.size) (t := 90) (sz := 40) (xs := clsV []) ho4 (by simp [eCls])
  have ho5 := Own.setRow (g := w3.heap.size) (t := 90) (sz := 40) (xs := clsV []) (ys := clsV (cls d.fin)) ho4 (clsV_length hlen)
  have HS0 : Hid (CInv w1 ((w3.alloc (.cells #[.int .i64 0, .int .i64 0, .int .i64 0, .int .i64 0, .int .i64 0, .int .i64 0, .int .i64 0, .int .i64 0, .int .i64 0, .int .i64 0, .int .i64 0, .int .i64 0, .int .i64 0, .int .i64 0, .int .i64 0, .int .i64 0, .int .i64 0, .int .i64 0, .int .i64 0, .int .i64 0, .int .i64 0, .int .i64 0, .int .i64 0, .int .i64 0, .int .i64 0, .int .i64 0, .int .i64 0, .int .i64 0, .int .i64 0, .int .i64 0, .int .i64 0, .int .i64 0, .int .i64 0, .int .i64 0, .int .i64 0, .int .i64 0, .int .i64 0, .int .i64 0, .int .i64 0, .int .i64 0] 90)).setRow w3.heap.size (clsV (cls d.fin)).toArray) w3.heap.size g2 d 0) := ⟨ho5, kindsN_pos HG.out 1, fun j hj => by omega⟩
  have Hi := Lib.hid (clsV_info hlen)
  have H1 := Lib.hid (clsV_one (cls d.fin))
  have Hsz : Hid ((clsV []).toArray.size = (clsV (cls d.fin)).toArray.size) := by unfold Hid; simp [clsV_length hlen, clsV_zero]
  have Hb4 := Lib.hid hb4
  clear hb ho3 ho4 ho5 hb4 HNB HFin HO2 hc3
  obtain ⟨cv, hcv⟩ : ∃ cv, cv = (clsV (cls d.fin)).toArray := ⟨_, rfl⟩
  rw [← hcv] at HS0 Hi H1 Hsz
  rw [← hcv]
  clear hcv
  go_wp2_with (refine wpList_store_row (by rfl) 90 _ _ (by rfl) w3.heap.size cv (by rfl) (by rfl) 90 _ Hb4.out Hi.out Hsz.out H1.out ?_)
  obtain ⟨g3, hg3⟩ : ∃ g3, g3 = w3.heap.size := ⟨_, rfl⟩
  rw [← hg3] at HS0
  rw [← hg3]
  have HG2 := Lib.hid hg2
  have HSz2 : Hid (w.heap.size + 1 = g2) := by rw [Hid, hg2, HSz.out]
  rw [HSz2.out]
  generalize (w3.alloc (.cells #[.int .i64 0, .int .i64 0, .int .i64 0, .int .i64 0, .int .i64 0, .int .i64 0, .int .i64 0, .int .i64 0, .int .i64 0, .int .i64 0, .int .i64 0, .int .i64 0, .int .i64 0, .int .i64 0, .int .i64 0, .int .i64 0, .int .i64 0, .int .i64 0, .int .i64 0, .int .i64 0, .int .i64 0, .int .i64 0, .int .i64 0, .int .i64 0, .int .i64 0, .int .i64 0, .int .i64 0, .int .i64 0, .int .i64 0, .int .i64 0, .int .i64 0, .int .i64 0, .int .i64 0, .int .i64 0, .int .i64 0, .int .i64 0, .int .i64 0, .int .i64 0, .int .i64 0, .int .i64 0] 90)).setRow g3 cv = w4 at *
  clear Hi H1 Hsz Hb4 hg3 hg2
  simp only [Act.put]
  go_loopw [4] (fun _ wr => ∃ (k : Nat), Hid (CInv w1 wr g3 g2 d k)) (fun _ wr => 41 - kOf d g3 wr)
  case atStart => exact ⟨0, HS0⟩
  case round =>
    clear HS0
    obtain ⟨k, HS⟩ := hrel
    have hbw := HS.out.1.below
    have hX := HX.out.on hbw
    have hc0 := hX.c0
    have hc1 := hX.c1
    have hc2 := hX.c2
    have hc3 := hX.c3
    have hlk : (clsA d k).length ≤ 40 := by rw [clsA_length HG.out]; have := HN.out; omega
    have hlk1 : (clsA d (k + 1)).length ≤ 40 := by rw [clsA_length HG.out]; have := HN.out; omega
    obtain ⟨hb3, _⟩ := row_block (g := g3) (t := 90) (sz := 40) (xs := clsV (clsA d k)) HS.out.1 (by simp [eCls])
    have Hb3 := Lib.hid hb3
    have Hi := Lib.hid (clsV_info hlk)
    have HKi := Lib.hid (kinds_any _ d (clsA d k) wr (HV.out.on hbw) HG.out (clsA_length HG.out k))
    rw [HN.out] at HKi
    obtain ⟨cv, hcv⟩ : ∃ cv, cv = (clsV (clsA d k)).toArray := ⟨_, rfl⟩
    have HCv := Lib.hid hcv
    rw [← hcv] at Hb3 Hi HKi
    clear hcv hb3 hX hbw
    go_wp2_with (refine wpList_load_row (by rfl) 90 _ (by rfl) g3 (by rfl) 90 cv (0, 0) _ Hb3.out Tryd.underlying90 (by rfl) Hi.out ?_)
    refine HKi.out.mono ?_
    rintro e w5 he
    obtain ⟨gk, h1, ho⟩ := he.out
    subst h1
    have HNK : Hid (Calls Tryd.prog 74 #[rV gk N] w5 fun e w' => Hid (e = .returned (.agg (clsV (clsA d (k + 1))).toArray)) ∧ Below w5.heap.size w5 w') := by
      have h9 := numK_any (some ⟨gk, 0, none⟩) N (kR d (clsA d k) d.next.length 0) w5 (ho.cells (t := 123) (sz := 7) (n := N) (cap := N) (A := some ⟨gk, 0, none⟩) (by simp [eKin, HN.out])) (kR_seven HG.out.l6 (by omega)) (fun l hl => by
        unfold kR at hl
        obtain ⟨q, _, rfl⟩ := List.mem_map.1 hl
        exact kM_wf (atC_le HG.out k)) (by rw [kR_length, HN.out]; exact h40) (by rw [kR_length, HN.out]; exact Nat.le_refl _) (by omega)
      rw [cls_kinds, kR_length, HN.out] at h9
      unfold Hid
      rw [clsA, HN.out]
      exact h9
    have hb5 := ho.below
    have HO5 := Lib.hid (HS.out.1.on hb5)
    clear ho he HKi
    go_wp2_with fail
    refine HNK.out.mono ?_
    rintro e w6 ⟨he, hb6⟩
    obtain rfl := he.out
    clear he HNK
    have ho7 : Own w1 (w6.alloc (.cells #[.int .i64 0, .int .i64 0, .int .i64 0, .int .i64 0, .int .i64 0, .int .i64 0, .int .i64 0, .int .i64 0, .int .i64 0, .int .i64 0, .int .i64 0, .int .i64 0, .int .i64 0, .int .i64 0, .int .i64 0, .int .i64 0, .int .i64 0, .int .i64 0, .int .i64 0, .int .i64 0, .int .i64 0, .int .i64 0, .int .i64 0, .int .i64 0, .int .i64 0, .int .i64 0, .int .i64 0, .int .i64 0, .int .i64 0, .int .i64 0, .int .i64 0, .int .i64 0, .int .i64 0, .int .i64 0, .int .i64 0, .int .i64 0, .int .i64 0, .int .i64 0, .int .i64 0, .int .i64 0] 90)) [eCls w6.heap.size [], eCls g3 (clsA d k), eCls g2 []] [] := (HO5.out.on hb6).lit 90 40 1 #[.int .i64 0, .int .i64 0, .int .i64 0, .int .i64 0, .int .i64 0, .int .i64 0, .int .i64 0, .int .i64 0, .int .i64 0, .int .i64 0, .int .i64 0, .int .i64 0, .int .i64 0, .int .i64 0, .int .i64 0, .int .i64 0, .int .i64 0, .int .i64 0, .int .i64 0, .int .i64 0, .int .i64 0, .int .i64 0, .int .i64 0, .int .i64 0, .int .i64 0, .int .i64 0, .int .i64 0, .int .i64 0, .int .i64 0, .int .i64 0, .int .i64 0, .int .i64 0, .int .i64 0, .int .i64 0, .int .i64 0, .int .i64 0, .int .i64 0, .int .i64 0, .int .i64 0, .int .i64 0] rfl (by simp [maxLen])
    obtain ⟨hb7, _⟩ := row_block (g := w6.heap.size) (t := 90) (sz := 40) (xs := clsV []) ho7 (by simp [eCls])
    have ho8 : Own w1 ((w6.alloc (.cells #[.int .i64 0, .int .i64 0, .int .i64 0, .int .i64 0, .int .i64 0, .int .i64 0, .int .i64 0, .int .i64 0, .int .i64 0, .int .i64 0, .int .i64 0, .int .i64 0, .int .i64 0, .int .i64 0, .int .i64 0, .int .i64 0, .int .i64 0, .int .i64 0, .int .i64 0, .int .i64 0, .int .i64 0, .int .i64 0, .int .i64 0, .int .i64 0, .int .i64 0, .int .i64 0, .int .i64 0, .int .i64 0, .int .i64 0, .int .i64 0, .int .i64 0, .int .i64 0, .int .i64 0, .int .i64 0, .int .i64 0, .int .i64 0, .int .i64 0, .int .i64 0, .int .i64 0, .int .i64 0] 90)).setRow w6.heap.size (clsV (clsA d (k + 1))).toArray) [eCls w6.heap.size (clsA d (k + 1)), eCls g3 (clsA d k), eCls g2 []] [] := Own.setRow (g := w6.heap.size) (t := 90) (sz := 40) (xs := clsV []) (ys := clsV (clsA d (k + 1))) ho7 (clsV_length hlk1)
    have Hb7 := Lib.hid hb7
    have HO8 := Lib.hid ho8
    have Hi2 := Lib.hid (clsV_info hlk1)
    have H12 := Lib.hid (clsV_one (clsA d (k + 1)))
    have H11 := Lib.hid (clsV_one (clsA d k))
    have Hsz2 : Hid ((clsV []).toArray.size = (clsV (clsA d (k + 1))).toArray.size) := by unfold Hid; simp [clsV_length hlk1, clsV_zero]
    have Hsz3 : Hid ((clsV (clsA d k)).toArray.size = (clsV (clsA d (k + 1))).toArray.size) := by unfold Hid; simp [clsV_length hlk1, clsV_length hlk]
    have Hsz4 : Hid ((clsV []).toArray.size = (clsV (clsA d k)).toArray.size) := by unfold Hid; simp [clsV_length hlk, clsV_zero]
    have heq1 := fun W => (eq_cls hlk1 hlk (pad_wf HG.out (k + 1)) (pad_wf HG.out k) (by rw [clsA_length HG.out, clsA_length HG.out]) W).1
    have heq2 := fun W => (eq_cls hlk1 hlk (pad_wf HG.out (k + 1)) (pad_wf HG.out k) (by rw [clsA_length HG.out, clsA_length HG.out]) W).2
    obtain ⟨cv2, hcv2⟩ : ∃ cv2, cv2 = (clsV (clsA d (k + 1))).toArray := ⟨_, rfl⟩
    have HCv2 := Lib.hid hcv2
    rw [← hcv2] at HO8 Hi2 H12 Hsz2 Hsz3
    rw [← HCv.out] at H11 Hsz3 Hsz4
    rw [← hcv2, ← HCv.out] at heq1 heq2
    rw [← hcv2]
    clear hcv2 ho7 ho8 hb7 hb5 hb6 HO5
    have Hb8 : Hid (((w6.alloc (.cells #[.int .i64 0, .int .i64 0, .int .i64 0, .int .i64 0, .int .i64 0, .int .i64 0, .int .i64 0, .int .i64 0, .int .i64 0, .int .i64 0, .int .i64 0, .int .i64 0, .int .i64 0, .int .i64 0, .int .i64 0, .int .i64 0, .int .i64 0, .int .i64 0, .int .i64 0, .int .i64 0, .int .i64 0, .int .i64 0, .int .i64 0, .int .i64 0, .int .i64 0, .int .i64 0, .int .i64 0, .int .i64 0, .int .i64 0, .int .i64 0, .int .i64 0, .int .i64 0, .int .i64 0, .int .i64 0, .int .i64 0, .int .i64 0, .int .i64 0, .int .i64 0, .int .i64 0, .int .i64 0] 90)).setRow w6.heap.size cv2).heap[w6.heap.size]? = some (.cells cv2 90 (0, 0))) := by
      have h9 := (row_block (g := w6.heap.size) (t := 90) (sz := 40) (xs := clsV (clsA d (k + 1))) HO8.out (by simp [eCls])).1
      rw [← HCv2.out] at h9
      exact h9
    have Hb9 : Hid (((w6.alloc (.cells #[.int .i64 0, .int .i64 0, .int .i64 0, .int .i64 0, .int .i64 0, .int .i64 0, .int .i64 0, .int .i64 0, .int .i64 0, .int .i64 0, .int .i64 0, .int .i64 0, .int .i64 0, .int .i64 0, .int .i64 0, .int .i64 0, .int .i64 0, .int .i64 0, .int .i64 0, .int .i64 0, .int .i64 0, .int .i64 0, .int .i64 0, .int .i64 0, .int .i64 0, .int .i64 0, .int .i64 0, .int .i64 0, .int .i64 0, .int .i64 0, .int .i64 0, .int .i64 0, .int .i64 0, .int .i64 0, .int .i64 0, .int .i64 0, .int .i64 0, .int .i64 0, .int .i64 0, .int .i64 0] 90)).setRow w6.heap.size cv2).heap[g3]? = some (.cells cv 90 (0, 0))) := by
      have h9 := (row_block (g := g3) (t := 90) (sz := 40) (xs := clsV (clsA d k)) HO8.out (by simp [eCls])).1
      rw [← HCv.out] at h9
      exact h9
    have Hb10 : Hid (((w6.alloc (.cells #[.int .i64 0, .int .i64 0, .int .i64 0, .int .i64 0, .int .i64 0, .int .i64 0, .int .i64 0, .int .i64 0, .int .i64 0, .int .i64 0, .int .i64 0, .int .i64 0, .int .i64 0, .int .i64 0, .int .i64 0, .int .i64 0, .int .i64 0, .int .i64 0, .int .i64 0, .int .i64 0, .int .i64 0, .int .i64 0, .int .i64 0, .int .i64 0, .int .i64 0, .int .i64 0, .int .i64 0, .int .i64 0, .int .i64 0, .int .i64 0, .int .i64 0, .int .i64 0, .int .i64 0, .int .i64 0, .int .i64 0, .int .i64 0, .int .i64 0, .int .i64 0, .int .i64 0, .int .i64 0] 90)).setRow w6.heap.size cv2).heap[g2]? = some (.cells (clsV []).toArray 90 (0, 0))) :=
      (row_block (g := g2) (t := 90) (sz := 40) (xs := clsV []) HO8.out (by simp [eCls])).1
    by_cases hst : clsA d (k + 1) = clsA d k
    · as_aux_lemma =>
      have HFi := Lib.hid (clsA_fine HG.out hst)
      have hq1 := fun W => (heq1 W).trans (by rw [decide_eq_true hst])
      have hq2 := fun W => (heq2 W).trans (by rw [decide_eq_true hst])
      clear heq1 heq2
      have h9 := (Own.setRow (g := g2) (t := 90) (sz := 40) (xs := clsV []) (ys := clsV (clsA d k)) (HO8.out.re [2, 0, 1] 3 rfl (by decide)) (clsV_length hlk))
      rw [← HCv.out] at h9
      have HB9 := Lib.hid (HB.out.trans (h9.below.mono HB.out.size))
      have Hb11 : Hid ((((w6.alloc (.cells #[.int .i64 0, .int .i64 0, .int .i64 0, .int .i64 0, .int .i64 0, .int .i64 0, .int .i64 0, .int .i64 0, .int .i64 0, .int .i64 0, .int .i64 0, .int .i64 0, .int .i64 0, .int .i64 0, .int .i64 0, .int .i64 0, .int .i64 0, .int .i64 0, .int .i64 0, .int .i64 0, .int .i64 0, .int .i64 0, .int .i64 0, .int .i64 0, .int .i64 0, .int .i64 0, .int .i64 0, .int .i64 0, .int .i64 0, .int .i64 0, .int .i64 0, .int .i64 0, .int .i64 0, .int .i64 0, .int .i64 0, .int .i64 0, .int .i64 0, .int .i64 0, .int .i64 0, .int .i64 0] 90)).setRow w6.heap.size cv2).setRow g2 cv).heap[g2]? = some (.cells cv 90 (0, 0))) := by
        have h8 := (row_block (g := g2) (t := 90) (sz := 40) (xs := clsV (clsA d k)) h9 (by simp)).1
        rw [← HCv.out] at h8
        exact h8
      clear hst h9
      go_wp2_with (first | (refine wpList_store_row (by rfl) 90 _ _ (by rfl) w6.heap.size cv2 (by rfl) (by rfl) 90 _ Hb7.out Hi2.out Hsz2.out H12.out ?_) | (refine wpList_load_row (by rfl) 90 _ (by rfl) w6.heap.size (by rfl) 90 cv2 (0, 0) _ Hb8.out Tryd.underlying90 (by rfl) Hi2.out ?_) | (refine wpList_load_row (by rfl) 90 _ (by rfl) g3 (by rfl) 90 cv (0, 0) _ Hb9.out Tryd.underlying90 (by rfl) Hi.out ?_) | (refine wpList_store_row (by rfl) 90 _ _ (by rfl) g2 cv (by rfl) (by rfl) 90 _ Hb10.out Hi.out Hsz4.out H11.out ?_))
      (try simp only [Exit.inBlock, Exit.then])
      refine bodyPost_ret (results_cell_row (by rfl) _ _ g2 90 cv (0, 0) _ (by rfl) Hb11.out Tryd.underlying90 (by rfl) Hi.out) rfl ?_
      exact ⟨Lib.hid ⟨_, by rw [HCv.out], HFi.out⟩, HB9.out⟩
    · as_aux_lemma =>
      have hq1 := fun W => (heq1 W).trans (by rw [decide_eq_false hst])
      have hq2 := fun W => (heq2 W).trans (by rw [decide_eq_false hst])
      clear heq1 heq2
      have h9 := (Own.setRow (g := g3) (t := 90) (sz := 40) (xs := clsV (clsA d k)) (ys := clsV (clsA d (k + 1))) HO8.out.two (clsV_length hlk1))
      rw [← HCv2.out] at h9
      have hmore : kindsN d (k + 1) < kindsN d (k + 1 + 1) := clsA_more HG.out hst
      have HN1 : Hid (CInv w1 (((w6.alloc (.cells #[.int .i64 0, .int .i64 0, .int .i64 0, .int .i64 0, .int .i64 0, .int .i64 0, .int .i64 0, .int .i64 0, .int .i64 0, .int .i64 0, .int .i64 0, .int .i64 0, .int .i64 0, .int .i64 0, .int .i64 0, .int .i64 0, .int .i64 0, .int .i64 0, .int .i64 0, .int .i64 0, .int .i64 0, .int .i64 0, .int .i64 0, .int .i64 0, .int .i64 0, .int .i64 0, .int .i64 0, .int .i64 0, .int .i64 0, .int .i64 0, .int .i64 0, .int .i64 0, .int .i64 0, .int .i64 0, .int .i64 0, .int .i64 0, .int .i64 0, .int .i64 0, .int .i64 0, .int .i64 0] 90)).setRow w6.heap.size cv2).setRow g3 cv2) g3 g2 d (k + 1)) := ⟨(h9.re [1, 0, 2] 3 rfl (by decide)).tail, by have := HS.out.2.1; omega, fun j hj => clsA_fresh HG.out hst (by omega)⟩
      have hk0 := kOf_eq HG.out HS.out.atK
      have hk1 := kOf_eq HG.out HN1.out.atK
      have hk40 : k + 1 ≤ 40 := by have := HS.out.2.1; have := kindsN_le d (k + 1); have := HN.out; omega
      have HK := Lib.hid (show 41 - kOf d g3 (((w6.alloc (.cells #[.int .i64 0, .int .i64 0, .int .i64 0, .int .i64 0, .int .i64 0, .int .i64 0, .int .i64 0, .int .i64 0, .int .i64 0, .int .i64 0, .int .i64 0, .int .i64 0, .int .i64 0, .int .i64 0, .int .i64 0, .int .i64 0, .int .i64 0, .int .i64 0, .int .i64 0, .int .i64 0, .int .i64 0, .int .i64 0, .int .i64 0, .int .i64 0, .int .i64 0, .int .i64 0, .int .i64 0, .int .i64 0, .int .i64 0, .int .i64 0, .int .i64 0, .int .i64 0, .int .i64 0, .int .i64 0, .int .i64 0, .int .i64 0, .int .i64 0, .int .i64 0, .int .i64 0, .int .i64 0] 90)).setRow w6.heap.size cv2).setRow g3 cv2) < 41 - kOf d g3 wr by rw [hk0, hk1]; omega)
      clear hst h9 hmore hk0 hk1
      go_wp2_with (first | (refine wpList_store_row (by rfl) 90 _ _ (by rfl) w6.heap.size cv2 (by rfl) (by rfl) 90 _ Hb7.out Hi2.out Hsz2.out H12.out ?_) | (refine wpList_load_row (by rfl) 90 _ (by rfl) w6.heap.size (by rfl) 90 cv2 (0, 0) _ Hb8.out Tryd.underlying90 (by rfl) Hi2.out ?_) | (refine wpList_load_row (by rfl) 90 _ (by rfl) g3 (by rfl) 90 cv (0, 0) _ Hb9.out Tryd.underlying90 (by rfl) Hi.out ?_) | (refine wpList_store_row (by rfl) 90 _ _ (by rfl) g3 cv2 (by rfl) (by rfl) 90 _ Hb9.out Hi2.out Hsz3.out H12.out ?_))
      simp only [Act.put, List.setIfInBounds_toArray, List.set_cons_succ, List.set_cons_zero]
      go_roundw
      case rel => exact ⟨k + 1, HN1⟩
      case measure => exact HK.out
end Go.Proofs.YtbciefeipiphiaaDoor.Mp

namespace Go.Proofs.YtbciefeipiphiaaDoor.Mp
open Go.RowKit Go.IntWalk Go.Proofs.YtbciefeipiphiaaDoor.Wd Go.Proofs.YtbciefeipiphiaaDoor.Wo Go.Proofs.YtbciefeipiphiaaDoor.Df Go.Proofs.YtbciefeipiphiaaDoor.Rc Go.Proofs.YtbciefeipiphiaaDoor.Sm

/-- A row of the merged one, as far as letter c. -/
def rowG (f : Nat → Nat) (ts : List Nat) (n c : Nat) : List Int := (ts.take c).map (fun t => ((f t : Nat) : Int)) ++ List.replicate (n - c) 0
theorem rowG_zero (f : Nat → Nat) (ts : List Nat) (n : Nat) : rowG f ts n 0 = List.replicate n 0 := by simp [rowG]
theorem rowG_length {f : Nat → Nat} {ts : List Nat} {n c : Nat} (h : ts.length = n) (hc : c ≤ n) : (rowG f ts n c).length = n := by
  unfold rowG; rw [List.length_append, List.length_map, List.length_take, List.length_replicate]; omega
theorem rowG_step {f : Nat → Nat} {ts : List Nat} {n c t : Nat} (h : ts[c]? = some t) (hn : c < n) : (rowG f ts n c).set c ((f t : Nat) : Int) = rowG f ts n (c + 1) := by
  obtain ⟨hc, ht⟩ := List.getElem?_eq_some_iff.1 h
  unfold rowG
  rw [List.set_append_right _ _ (by rw [List.length_map, List.length_take]; omega), show n - c = (n - (c + 1)) + 1 by omega, List.replicate_succ, List.length_map, List.length_take, show c - min c ts.length = 0 by omega, List.set_cons_zero]
  rw [← List.take_append_getElem hc, List.map_append, ht]
  simp
theorem rowG_full {f : Nat → Nat} {ts : List Nat} {n : Nat} (h : ts.length = n) : rowG f ts n n = ts.map fun t => ((f t : Nat) : Int) := by
  unfold rowG
  rw [List.take_of_length_le (by omega), Nat.sub_self, List.replicate_zero, List.append_nil]
def rowM (d : Aut) (cl : List Nat) (q : Nat) : List Int := (S1 d q).map fun t => ((atC cl t : Nat) : Int)
/-- The merged one under way. -/
def PM (w1 wr : World) (g : Nat) (d : Aut) (cl : List Nat) (n gr k : Nat) : Prop :=
  ∃ nv fv rr, Build w1 wr g [eDfa gr zero4] (n : Int) 0 ((firsts d k).map (rowM d cl)) ((firsts d k).map (finA d)) nv fv rr
def RM (w1 wi : World) (g : Nat) (d : Aut) (cl : List Nat) (n gr k gw : Nat) (nv fv : Value) (rr : List (Value × List Int)) (c : Nat) : Prop :=
  Own w1 wi [eInts (rV gw n) (rowG (atC cl) (S1 d k) n c), eRows nv (rr.map (·.1)), eBools fv ((firsts d k).map (finA d)), eDfa g [.int .i64 (n : Int), .int .i64 0, nv, fv], eDfa gr zero4] (eEach rr)
theorem rowM_small {d : Aut} {cl : List Nat} (h : ∀ x, atC cl x ≤ 40) (k : Nat) : ∀ r ∈ (firsts d k).map (rowM d cl), ∀ x ∈ r, Small x := fun r hr x hx => by
  obtain ⟨q, _, rfl⟩ := List.mem_map.1 hr
  obtain ⟨t, _, rfl⟩ := List.mem_map.1 hx
  have := h t
  exact ⟨by omega, by omega⟩
theorem fine_le {d : Aut} {cl : List Nat} (h : Sm.Fine d cl) (g : Df.Good d) (x : Nat) : atC cl x ≤ 40 := by
  by_cases hx : x < d.next.length
  · rw [h.num g hx]
    have := firsts_length d (kin d d x)
    have := (stand_spec g hx).1
    have := g.n40
    omega
  · unfold atC
    rw [List.getElem?_eq_none (by have := h.len; omega)]
    simp
/-- A function that returns an automaton out of its own block. -/
theorem results_dfa1 {fn : Func} {t : Tmp} (h : fn.results = #[.cell t 25]) (tmps : Array Value) {w : World} {g : Nat} {v0 v1 v2 v3 : Value} (hp : tmps.getD t undef = .pointer (some ⟨g, 0, none⟩))
    (c0 : w.cell? ⟨g, 0, none⟩ = some v0) (c1 : w.cell? ⟨g, 1, none⟩ = some v1) (c2 : w.cell? ⟨g, 2, none⟩ = some v2) (c3 : w.cell? ⟨g, 3, none⟩ = some v3) :
    (results fn tmps).run Tryd.prog w = .ok (.agg #[v0, v1, v2, v3]) w := by
  have hp' : tmps[t]?.getD undef = .pointer (some ⟨g, 0, none⟩) := by simpa using hp
  simp [results, h, hp', go_sem, c0, c1, c2, c3]
set_option linter.unusedSimpArgs false in
set_option maxRecDepth 100000 in
set_option maxHeartbeats 4000000 in
theorem merged_any (v : Value) (d : Aut) (cl : List Nat) (w : World) (h : DfaAt w w.heap.size v d) (hg : Df.Good d) (hf : Sm.Fine d cl) :
    Calls Tryd.prog 56 #[v, .agg (clsV cl).toArray] w fun e w' => Hid (∃ x, e = .returned x ∧ DfaOwn w w' x (mergedN d cl d.next.length)) := by
  obtain ⟨L, s0, A, c, F, cf, rfl, h⟩ := h
  obtain ⟨w1, hw1, hB1, hX, hd1⟩ := box_dfa w h
  have hs1 : w1.heap.size = w.heap.size + 1 := by rw [hw1]; simp
  have h40 := hg.n40
  have hcl := hf.len
  have hlen : cl.length ≤ 40 := by omega
  obtain ⟨w2, hw2⟩ : ∃ w2, w2 = w1.alloc (.cells (clsV cl).toArray 90) := ⟨_, rfl⟩
  have ho2 : Own w1 w2 [eCls w1.heap.size cl] [] := by
    rw [hw2]
    exact (own_start w1).lit 90 40 1 (clsV cl).toArray (by simp [clsV_length hlen]) (by simp [maxLen])
  have hs2 : w2.heap.size = w.heap.size + 1 + 1 := by rw [hw2]; simp [hs1]
  have HB := Lib.hid hB1
  have HO2 := Lib.hid ho2
  have HX := Lib.hid (hX.on ho2.below)
  have HD := Lib.hid (hd1.on ho2.below)
  have HG := Lib.hid hg
  have HF := Lib.hid hf
  have HW1 : Hid (w2 = (w.alloc (.cells #[.int .i64 L, .int .i64 s0, .slice A d.next.length c, .slice F d.fin.length cf] 25)).alloc (.cells (clsV cl).toArray 90)) := by rw [Hid, hw2, hw1]
  have heL := h.eL
  obtain ⟨n, hn⟩ := Int.eq_ofNat_of_zero_le (show 0 ≤ L by have := hg.l1; omega)
  subst hn
  have hn6 : n ≤ 6 := by have := hg.l6; omega
  have HL : Hid (d.L = (n : Int)) := heL
  have HCl := Lib.hid hcl
  have hres := (own_start w2).dfa (.int .i64 0) (.int .i64 0) (.slice none 0 0) (.slice none 0 0)
  rw [hs2] at hres
  have hX2 := HX.out.on hres.below
  have hc0 := hX2.c0
  have hc2 := hX2.c2
  have HR := Lib.hid hres
  have hmN : d.next.length ≤ d.fin.length := Nat.le_of_eq hg.fin.symm
  rw [hs1] at ho2 HO2
  clear h hd1 hw1 hX hB1 hg hf heL hw2 ho2 hcl hlen hs1 hres hX2
  generalize d.fin.length = m at *
  generalize hN : d.next.length = N at *
  have HN := Lib.hid hN
  clear hN
  obtain ⟨cv, hcv⟩ : ∃ cv, cv = (clsV cl).toArray := ⟨_, rfl⟩
  rw [← hcv] at HW1
  rw [← hcv]
  clear hcv
  go_enter Tryd.func56, Tryd.ntmps56
  go_wp2_with fail
  rw [← HW1.out]
  clear HW1 hc0 hc2
  have HS0 : Hid (PM w2 ((w2.alloc (.cells #[.int .i64 0, .int .i64 0, .slice none 0 0, .slice none 0 0] 25)).alloc (.cells #[.int .i64 (n : Int), .int .i64 0, .slice none 0 0, .slice none 0 0] 25)) (w.heap.size + 1 + 1 + 1) d cl n (w.heap.size + 1 + 1) 0) := by
    have h := HR.out.dfa (.int .i64 (n : Int)) (.int .i64 0) (.slice none 0 0) (.slice none 0 0)
    have e : (w2.alloc (.cells #[.int .i64 0, .int .i64 0, .slice none 0 0, .slice none 0 0] 25)).heap.size = w.heap.size + 1 + 1 + 1 := by simp [hs2]
    rw [e] at h
    exact ⟨.slice none 0 0, .slice none 0 0, [], rfl, ((h.nil 4 1).nil 27 1)⟩
  generalize ((w2.alloc (.cells #[.int .i64 0, .int .i64 0, .slice none 0 0, .slice none 0 0] 25)).alloc (.cells #[.int .i64 (n : Int), .int .i64 0, .slice none 0 0, .slice none 0 0] 25)) = w3 at *
  obtain ⟨g, hg⟩ : ∃ g, g = w.heap.size + 1 + 1 + 1 := ⟨_, rfl⟩
  obtain ⟨gr, hgr⟩ : ∃ gr, gr = w.heap.size + 1 + 1 := ⟨_, rfl⟩
  rw [← hg, ← hgr] at HS0
  rw [← hg, ← hgr]
  clear hg hgr hs2 HR
  go_loopw [17] (fun i wr => ∃ (k : Nat), k ≤ N ∧ i = .int .i64 k ∧ Hid (PM w2 wr g d cl n gr k)) (fun i _ => N - (intOf i).toNat)
  case atStart => exact ⟨0, by omega, rfl, HS0⟩
  case round =>
    clear HS0
    obtain ⟨k, hk, rfl, HS⟩ := hrel
    obtain ⟨nv, fv, rr, hrr, hown⟩ := HS.out
    have HRR := Lib.hid hrr
    have HO := Lib.hid hown
    have hbw := hown.below
    clear hrr hown
    by_cases hlt : k < N
    · as_aux_lemma =>
      have hx1 : k < d.next.length := by have := HN.out; omega
      obtain ⟨ad, A', c', e0, hadb, hcell0, hrc, hcc, hri⟩ := HD.out.rows k _ (List.getElem?_eq_getElem hx1)
      subst e0
      have hcell1 := (hbw.cell (p := ad.add k) (by rw [Wd.block_add]; exact hadb)).trans hcell0
      have hrl := HG.out.row _ (List.getElem_mem hx1)
      have HRow : Hid (d.next[k]? = some d.next[k]) := List.getElem?_eq_getElem hx1
      have HRI := Lib.hid hri
      have HX1 := Lib.hid hx1
      have hkc := (hbw.cell (p := ⟨w.heap.size + 1, k, none⟩) (HO2.out.lt (ad := ⟨w.heap.size + 1, 0, none⟩) (t := 90) (sz := 40) (n := 1) (cap := 1) (xs := clsV cl) (by simp [eCls])).2).trans (own_cls_at HO2.out (g := w.heap.size + 1) (l := cl) (by simp) (by rw [HCl.out]; exact hlt))
      have HBd : Hid (Build w2 wr g [eDfa gr zero4] (n : Int) 0 ((firsts d k).map (rowM d cl)) ((firsts d k).map (finA d)) nv fv rr) := ⟨HRR.out, HO.out⟩
      obtain ⟨A2, c2, F2, cf2, e1, e2⟩ := HBd.out.form
      rw [List.length_map] at e1 e2
      have hg2 := HBd.out.c2.1
      have hskip := HF.out.skip HG.out hx1
      have hfl := firsts_length d k
      have e3 : (k : Int) < (N : Int) := by omega
      have e4 : (k : Int) < 40 := by omega
      have hrn : (d.next[k]).length = n := by have := HL.out; omega
      clear hrl hri hcell0 hrc hcc
      generalize d.next[k] = r0 at *
      clear hx1
      by_cases hkk : kin d d k = k
      · as_aux_lemma =>
        have hns : ¬ (atC cl k : Int) < ((firsts d k).length : Int) := fun q => (hskip.1 (by omega)) hkk
        have HFs : Hid (firsts d (k + 1) = firsts d k ++ [k]) := by rw [Hid, firsts_succ, if_pos hkk]
        subst e1 e2
        clear hskip hkk HS
        generalize atC cl k = v1 at *
        generalize (firsts d k).length = fl at *
        go_wp2_with fail
        go_region
        clear hg2 hkc hcell1
        have HB1 := Lib.hid (HBd.out.on (Below.refl _ _).drew)
        have hbw := HB1.out.2.below
        clear HBd
        generalize wr.drew = wb at *
        have hc0 := (HX.out.on hbw).c0
        go_wp2_with (at_make; refine mk_ints rfl _ _ rfl n rfl rfl (by omega) ?_)
        intro w6 hm6
        have HR0 : Hid (RM w2 w6 g d cl n gr k wb.heap.size (.slice A2 fl c2) (.slice F2 fl cf2) rr 0) := by
          have h := HB1.out.2.join (Own.of_nums hm6)
          unfold Hid RM
          rw [rowG_zero]
          exact h
        clear hm6 hc0 hbw HB1 HO
        generalize wb.heap.size = gw at *
        go_wp2
        go_loopw [34] (fun i wi => ∃ (q : Nat), q ≤ n ∧ i = .int .i64 q ∧ Hid (RM w2 wi g d cl n gr k gw (.slice A2 fl c2) (.slice F2 fl cf2) rr q)) (fun i _ => n - (intOf i).toNat)
        case atStart => exact ⟨0, by omega, rfl, HR0⟩
        case round =>
          clear HR0
          obtain ⟨q, hq, rfl, HR⟩ := hrel
          have hS1 : (S1 d k).length = n := by rw [S1_length]; have := HL.out; omega
          have hown := HR.out
          unfold RM at hown
          have hbi := hown.below
          by_cases hqn : q < n
          · as_aux_lemma =>
            obtain ⟨r1, hr1, _, hr3, hr4, hr5⟩ := HG.out.at_ HX1.out (a := q) (by rw [HL.out]; omega)
            obtain rfl := Option.some.inj (HRow.out.symm.trans hr1)
            obtain ⟨ar, e0, k1, k2, _⟩ := (HRI.out.on hbi).get hr4
            subst e0
            rw [HN.out] at hr5
            have hst := S1_get d k (c := q) (by rw [HL.out]; omega)
            have hkc := (hbi.cell (p := ⟨w.heap.size + 1, Df.step d k q, none⟩) (HO2.out.lt (ad := ⟨w.heap.size + 1, 0, none⟩) (t := 90) (sz := 40) (n := 1) (cap := 1) (xs := clsV cl) (by simp [eCls])).2).trans (own_cls_at HO2.out (g := w.heap.size + 1) (l := cl) (by simp) (by rw [HCl.out]; exact hr5))
            obtain ⟨old, hold⟩ : ∃ old, (rowG (atC cl) (S1 d k) n q)[q]? = some old := ⟨_, List.getElem?_eq_getElem (by rw [rowG_length hS1 (by omega)]; omega)⟩
            obtain ⟨hw1, hw2⟩ := own_ints_cell hown (List.mem_append_left _ List.mem_cons_self) (rowG_length hS1 (by omega)) hold
            have HN1 : Hid (RM w2 (wr.setCell ⟨gw, q, none⟩ (.int .i64 ((atC cl (Df.step d k q) : Nat) : Int))) g d cl n gr k gw (.slice A2 fl c2) (.slice F2 fl cf2) rr (q + 1)) := by
              unfold Hid RM
              rw [← rowG_step hst (by omega)]
              exact own_ints_set hown (rowG_length hS1 (by omega)) q _
            have e5 : (Df.step d k q : Int) < 40 := by omega
            have e6 : (q : Int) < (n : Int) := by omega
            clear hr1 hr3 hr4 hr5 hst hold hown HR hS1 hbi
            generalize atC cl (Df.step d k q) = v9 at *
            generalize Df.step d k q = t at *
            go_wp2
            go_roundw
            case rel => exact ⟨q + 1, by omega, by go_num, HN1⟩
            case measure => simp [intOf]; omega
          · as_aux_lemma =>
            obtain rfl : n = q := by omega
            rw [rowG_full hS1] at hown
            have HO2' := Lib.hid hown.two
            have HLen : Hid ((rr.map (·.1)).length < 1099511627776 ∧ ((firsts d k).map (finA d)).length < 17592186044416) := by
              have h1 := congrArg List.length HRR.out
              have h2 := firsts_length d k
              rw [List.length_map, List.length_map] at h1
              exact ⟨by rw [List.length_map]; omega, by rw [List.length_map]; omega⟩
            obtain ⟨hg2, hgf2⟩ := HO2'.out.dcell (g := g) (l := [.int .i64 (n : Int), .int .i64 0, .slice A2 fl c2, .slice F2 fl cf2]) (j := 2) (by simp) rfl
            have HRowM : Hid ((firsts d (k + 1)).map (rowM d cl) = (firsts d k).map (rowM d cl) ++ [rowM d cl k]) := by rw [Hid, HFs.out, List.map_append]; rfl
            have HFlag : Hid ((firsts d (k + 1)).map (finA d) = (firsts d k).map (finA d) ++ [finA d k]) := by rw [Hid, HFs.out, List.map_append]; rfl
            have hrm : (S1 d k).map (fun t => ((atC cl t : Nat) : Int)) = rowM d cl k := rfl
            rw [hrm] at HO2'
            clear hown HR hS1 hbi hrm
            generalize (firsts d k).map (rowM d cl) = rws at *
            generalize (firsts d k).map (finA d) = bs at *
            generalize hrl : rowM d cl k = rowx at *
            clear hrl
            go_wp2_with (at_builtin; refine own_row (by rfl) _ _ (by rfl) (by rfl) HO2'.out (by rfl) (by rfl) HLen.out.1 ?_)
            intro g8 cap8 w8 ho8
            have HB9 : Hid (Build w2 (w8.setCell ⟨g, 2, none⟩ (.slice (some ⟨g8, 0, none⟩) (rr.length + 1) cap8)) g [eDfa gr zero4] (n : Int) 0 (rws ++ [rowx]) bs (.slice (some ⟨g8, 0, none⟩) (rr.length + 1) cap8) (.slice F2 fl cf2) (rr ++ [(rV gw n, rowx)])) := by
              exact build_row HRR.out ho8 rfl
            obtain ⟨hk8, hf8⟩ := ho8.dcell (g := g) (l := [.int .i64 (n : Int), .int .i64 0, .slice A2 fl c2, .slice F2 fl cf2]) (j := 2) (by simp) rfl
            rw [← HRowM.out] at HB9
            clear ho8 hg2 hgf2 HO2' HRowM
            go_wp2_with fail
            generalize hw9 : w8.setCell ⟨g, 2, none⟩ (.slice (some ⟨g8, 0, none⟩) (rr.length + 1) cap8) = w9 at *
            clear hw9 hk8 hf8
            have hbw := HB9.out.2.below
            have HBA := Lib.hid (HD.out.fins.at_ (HG.out.fin_at HX1.out))
            obtain ⟨adf, eF, hfa, hcf, _⟩ := (HD.out.on hbw).fins.at_ (HG.out.fin_at HX1.out)
            subst eF
            have hX9 := HX.out.on hbw
            have hc3 := hX9.c3
            have hc5l := hX9.lt
            have hc3' := HB9.out.c3.1
            have hc3l := HB9.out.lt.2
            have e7 : (k : Int) < (m : Int) := by omega
            have HO5 := Lib.hid HB9.out.2.two
            generalize (Value.slice (some ⟨g8, 0, none⟩) (rr.length + 1) cap8) = nv9 at *
            generalize (rr ++ [(rV gw n, rowx)]) = rr9 at *
            generalize finA d k = b at *
            generalize (Value.slice F2 fl cf2) = fv at *
            have HK : Hid (∀ W es fs, Own w2 W es fs → eDfa g [.int .i64 (n : Int), .int .i64 0, nv9, fv] ∈ es ++ fs → W.cell? ⟨g, 3, none⟩ = some fv ∧ W.cell? ⟨w.heap.size, 3, none⟩ = some (.slice (some adf) m cf) ∧ W.cell? (adf.add k) = some (.bool b)) := fun W es fs hW hm2 => by
              obtain ⟨ad1, e1, _, c1, _⟩ := HBA.out
              cases e1
              exact ⟨(hW.dcell hm2 rfl).1, (HX.out.on hW.below).c3, (hW.below.cell (by rw [Wd.block_add]; assumption)).trans c1⟩
            clear hbw hX9 hc3 hc5l hc3' hc3l hcf
            refine wp_region_Z (fun W => W.cell? ⟨g, 3, none⟩ = some fv ∧ W.cell? ⟨w.heap.size, 3, none⟩ = some (.slice (some adf) m cf) ∧ W.cell? (adf.add k) = some (.bool b)) 10 (by kernel_rfl) (HK.out _ _ _ (HB9.out.2.on (by go_grown)) (by simp)) (fun hHeld => ?_)
            refine wpZ_take (i := 0) (v := ?_) rfl (by kernel_rfl) (by kernel_rfl) (by kernel_rfl) (by kernel_rfl) (fun _ _ _ h => h) (Or.inl ⟨by rfl, ?_⟩) hHeld ?_
            rotate_left
            · (go_light; intro w9 hSw; (try dsimp only at hSw); go_simp; try with_reducible rfl)
            try simp only [Act.put, List.setIfInBounds_toArray, List.set_cons_zero, List.set_cons_succ]
            refine wpZ_take (i := 1) (v := ?_) rfl (by kernel_rfl) (by kernel_rfl) (by kernel_rfl) (by kernel_rfl) (fun _ _ _ h => h) (Or.inl ⟨by rfl, ?_⟩) hHeld ?_
            rotate_left
            · (go_light; intro w9 hSw; (try dsimp only at hSw); go_simp; try with_reducible rfl)
            try simp only [Act.put, List.setIfInBounds_toArray, List.set_cons_zero, List.set_cons_succ]
            refine wpZ_take (i := 2) (v := ?_) rfl (by kernel_rfl) (by kernel_rfl) (by kernel_rfl) (by kernel_rfl) (fun _ _ _ h => h) (Or.inl ⟨by rfl, ?_⟩) hHeld ?_
            rotate_left
            · (go_light; intro w9 hSw; (try dsimp only at hSw); go_simp; try with_reducible rfl)
            try simp only [Act.put, List.setIfInBounds_toArray, List.set_cons_zero, List.set_cons_succ]
            refine wpZ_take (i := 3) (v := ?_) rfl (by kernel_rfl) (by kernel_rfl) (by kernel_rfl) (by kernel_rfl) (fun _ _ _ h => h) (Or.inl ⟨by rfl, ?_⟩) hHeld ?_
            rotate_left
            · (go_light; intro w9 hSw; (try dsimp only at hSw); go_simp; try with_reducible rfl)
            try simp only [Act.put, List.setIfInBounds_toArray, List.set_cons_zero, List.set_cons_succ]
            refine wpZ_take (i := 4) (v := ?_) rfl (by kernel_rfl) (by kernel_rfl) (by kernel_rfl) (by kernel_rfl) (fun _ _ _ h => h) (Or.inl ⟨by rfl, ?_⟩) hHeld ?_
            rotate_left
            · (go_light; intro w9 hSw; (try dsimp only at hSw); go_simp; try with_reducible rfl)
            try simp only [Act.put, List.setIfInBounds_toArray, List.set_cons_zero, List.set_cons_succ]
            refine wpZ_take (i := 5) (v := ?_) rfl (by kernel_rfl) (by kernel_rfl) (by kernel_rfl) (by kernel_rfl) (fun _ _ _ h => h) (Or.inl ⟨by rfl, ?_⟩) hHeld ?_
            rotate_left
            · (go_light; intro w9 hSw; (try dsimp only at hSw); go_simp; try with_reducible rfl)
            try simp only [Act.put, List.setIfInBounds_toArray, List.set_cons_zero, List.set_cons_succ]
            refine wpZ_take (i := 6) (v := ?_) rfl (by kernel_rfl) (by kernel_rfl) (by kernel_rfl) (by kernel_rfl) (fun _ _ _ h => h) (Or.inl ⟨by rfl, ?_⟩) hHeld ?_
            rotate_left
            · (go_light; intro w9 hSw; (try dsimp only at hSw); go_simp; try with_reducible rfl)
            try simp only [Act.put, List.setIfInBounds_toArray, List.set_cons_zero, List.set_cons_succ]
            refine wpZ_one (i := 7) rfl (by kernel_rfl) (fun K hK => ?_)
            go_simp
            refine hK.out _ _ (fun _ => HK.out _ _ _ (HB9.out.2.on (by go_grown)) (by simp)) (fun hHeld9 => ?_)
            replace hHeld := hHeld9 (by decide)
            clear hHeld9
            clear hK K
            try simp only [Act.put, List.setIfInBounds_toArray, List.set_cons_zero, List.set_cons_succ]
            refine wpZ_one (i := 8) rfl (by kernel_rfl) (fun K hK => ?_)
            refine step_own_bool (by rfl) _ _ (by rfl) (by rfl) (HO5.out.on (Below.refl _ _).drew) (by rfl) HLen.out.2 ?_
            intro g6 cap6 w6 ho6
            refine hK.out _ _ (fun _ => HK.out _ _ _ ho6.two (by simp)) (fun hHeld9 => ?_)
            replace hHeld := hHeld9 (by decide)
            clear hHeld9
            clear hK K
            try simp only [Act.put, List.setIfInBounds_toArray, List.set_cons_zero, List.set_cons_succ]
            refine wpZ_take (i := 9) (v := ?_) rfl (by kernel_rfl) (by kernel_rfl) (by kernel_rfl) (by kernel_rfl) (fun _ _ _ h => h) (Or.inl ⟨by rfl, ?_⟩) hHeld ?_
            rotate_left
            · (go_light; intro w9 hSw; (try dsimp only at hSw); go_simp; try with_reducible rfl)
            try simp only [Act.put, List.setIfInBounds_toArray, List.set_cons_zero, List.set_cons_succ]
            refine wpZ_one (i := 10) rfl (by kernel_rfl) (fun K hK => ?_)
            have hk4 := (ho6.dcell (g := g) (l := [.int .i64 (n : Int), .int .i64 0, nv9, fv]) (j := 3) (by simp) rfl).2
            go_simp
            refine hK.out _ _ (fun k => absurd rfl k) (fun _ => ?_)
            clear hK K
            try simp only [Act.put, List.setIfInBounds_toArray, List.set_cons_zero, List.set_cons_succ]
            refine wpZ_done (by kernel_rfl) ?_ _
            have HB6 : Hid (PM w2 (w6.setCell ⟨g, 3, none⟩ (.slice (some ⟨g6, 0, none⟩) (bs.length + 1) cap6)) g d cl n gr (k + 1)) := by
              have HBf := build_flag HB9.out.1 ho6 rfl
              refine ⟨nv9, .slice (some ⟨g6, 0, none⟩) (bs.length + 1) cap6, rr9, ?_⟩
              rw [HFlag.out]
              exact HBf
            clear HO5 ho6 HB9 HK hk4 hHeld HBA
            go_wp2
            go_roundw
            case rel => exact ⟨k + 1, by omega, by go_num, HB6⟩
            case measure => simp [intOf]; omega
      · as_aux_lemma =>
        have hns : (atC cl k : Int) < ((firsts d k).length : Int) := by have := hskip.2 hkk; omega
        have HN1 : Hid (PM w2 wr.drew g d cl n gr (k + 1)) := by
          have e : firsts d (k + 1) = firsts d k := by rw [firsts_succ, if_neg hkk, List.append_nil]
          unfold Hid PM
          rw [e]
          exact ⟨nv, fv, rr, HBd.out.on (Below.refl _ _).drew⟩
        subst e1 e2
        clear hskip hkk HS HBd HRR HO
        generalize atC cl k = v1 at *
        generalize (firsts d k).length = fl at *
        go_wp2_with fail
        go_region
        clear hg2 hkc hcell1 hbw
        go_wp2
        go_roundw
        case rel => exact ⟨k + 1, by omega, by go_num, HN1⟩
        case measure => simp [intOf]; omega
    · as_aux_lemma =>
      obtain rfl : k = N := by omega
      have HBd : Hid (Build w2 wr g [eDfa gr zero4] (n : Int) 0 ((firsts d k).map (rowM d cl)) ((firsts d k).map (finA d)) nv fv rr) := ⟨HRR.out, HO.out⟩
      have HSm := Lib.hid (rowM_small (d := d) (fine_le HF.out HG.out) k)
      have HMr : Hid (mergedN d cl k = ⟨(n : Int), 0, (firsts d k).map (rowM d cl), (firsts d k).map (finA d)⟩) := by unfold Hid mergedN; rw [HL.out]; rfl
      clear HS HO HRR hbw
      generalize (firsts d k).map (rowM d cl) = rows at *
      generalize (firsts d k).map (finA d) = bs at *
      obtain ⟨A2, c2, F2, cf2, e1, e2⟩ := HBd.out.form
      obtain ⟨hg0, hg1, hg2, hg3⟩ := HBd.out.str
      obtain ⟨hr0, hf0⟩ := HBd.out.res (j := 0) (by omega)
      obtain ⟨hr1, hf1⟩ := HBd.out.res (j := 1) (by omega)
      obtain ⟨hr2, hf2⟩ := HBd.out.res (j := 2) (by omega)
      obtain ⟨hr3, hf3⟩ := HBd.out.res (j := 3) (by omega)
      subst e1 e2
      have HEnd := Lib.hid (build_end HBd.out HSm.out ⟨by omega, by omega⟩ ⟨by omega, by omega⟩ rfl)
      have HBB := Lib.hid (HB.out.trans (HO2.out.below.mono HB.out.size))
      generalize rows.length = nr at *
      generalize bs.length = nb' at *
      go_wp2
      obtain ⟨k1, k3, k4, k5, k6⟩ := HEnd.out
      refine bodyPost_ret (results_dfa1 rfl _ rfl k3 k4 k5 k6) rfl ⟨_, rfl, by rw [HMr.out]; exact k1.base HBB.out⟩
end Go.Proofs.YtbciefeipiphiaaDoor.Mp

namespace Go.Proofs.YtbciefeipiphiaaDoor.Mp
open Go.RowKit Go.IntWalk Go.Proofs.YtbciefeipiphiaaDoor.Wd Go.Proofs.YtbciefeipiphiaaDoor.Wo Go.Proofs.YtbciefeipiphiaaDoor.Df Go.Proofs.YtbciefeipiphiaaDoor.Rc Go.Proofs.YtbciefeipiphiaaDoor.Sm

def minOut (d : Aut) : Aut × Nat := if dchk d = 0 then (minA d, 0) else (zeroA, dchk d)
theorem minOut_ok {d : Aut} (h : dchk d = 0) : minOut d = (minA d, 0) := by unfold minOut; rw [if_pos h]
theorem minOut_bad {d : Aut} (h : dchk d ≠ 0) : minOut d = (zeroA, dchk d) := by unfold minOut; rw [if_neg h]
theorem cell_four {W : World} {g h j : Nat} (hne : h ≠ g) (a b c d : Value) : ((((W.setCell ⟨g, 0, none⟩ a).setCell ⟨g, 1, none⟩ b).setCell ⟨g, 2, none⟩ c).setCell ⟨g, 3, none⟩ d).cell? ⟨h, j, none⟩ = W.cell? ⟨h, j, none⟩ := by
  simp only [World.cell?]
  rw [heap_setCell_other _ _ _ _ (by exact hne), heap_setCell_other _ _ _ _ (by exact hne), heap_setCell_other _ _ _ _ (by exact hne), heap_setCell_other _ _ _ _ (by exact hne)]
/-- What a callee has made is laid into a block of the call's own. -/
theorem dfa_into {w1 w5 w6 : World} {gr : Nat} {L s : Int} {nv fv : Value} {d : Aut} (ho : Own w1 w5 [eDfa gr zero4] []) (hx : DfaOwn w5 w6 (.agg #[.int .i64 L, .int .i64 s, nv, fv]) d) :
    DfaOwn w1 ((((w6.setCell ⟨gr, 0, none⟩ (.int .i64 L)).setCell ⟨gr, 1, none⟩ (.int .i64 s)).setCell ⟨gr, 2, none⟩ nv).setCell ⟨gr, 3, none⟩ fv) (.agg #[.int .i64 L, .int .i64 s, nv, fv]) d ∧
      ((((w6.setCell ⟨gr, 0, none⟩ (.int .i64 L)).setCell ⟨gr, 1, none⟩ (.int .i64 s)).setCell ⟨gr, 2, none⟩ nv).setCell ⟨gr, 3, none⟩ fv).cell? ⟨gr, 0, none⟩ = some (.int .i64 L) ∧
      ((((w6.setCell ⟨gr, 0, none⟩ (.int .i64 L)).setCell ⟨gr, 1, none⟩ (.int .i64 s)).setCell ⟨gr, 2, none⟩ nv).setCell ⟨gr, 3, none⟩ fv).cell? ⟨gr, 1, none⟩ = some (.int .i64 s) ∧
      ((((w6.setCell ⟨gr, 0, none⟩ (.int .i64 L)).setCell ⟨gr, 1, none⟩ (.int .i64 s)).setCell ⟨gr, 2, none⟩ nv).setCell ⟨gr, 3, none⟩ fv).cell? ⟨gr, 2, none⟩ = some nv ∧
      ((((w6.setCell ⟨gr, 0, none⟩ (.int .i64 L)).setCell ⟨gr, 1, none⟩ (.int .i64 s)).setCell ⟨gr, 2, none⟩ nv).setCell ⟨gr, 3, none⟩ fv).cell? ⟨gr, 3, none⟩ = some fv := by
  obtain ⟨nv', fv', rs, e, h2, h3, h4, h5, h6⟩ := hx
  have h := ho.join h3
  have h7 := (((h.dset 0 (.int .i64 L)).dset 1 (.int .i64 s)).dset 2 nv).dset 3 fv
  exact ⟨⟨nv', fv', rs, e, h2, h7.only.weak (fun e he => List.mem_append_left _ he), h4, h5, h6⟩,
    (h7.dcell (g := gr) (l := [.int .i64 L, .int .i64 s, nv, fv]) (by simp) rfl).1, (h7.dcell (g := gr) (l := [.int .i64 L, .int .i64 s, nv, fv]) (by simp) rfl).1, (h7.dcell (g := gr) (l := [.int .i64 L, .int .i64 s, nv, fv]) (by simp) rfl).1, (h7.dcell (g := gr) (l := [.int .i64 L, .int .i64 s, nv, fv]) (by simp) rfl).1⟩
set_option linter.unusedSimpArgs false in
set_option maxRecDepth 100000 in
set_option maxHeartbeats 2000000 in
theorem minimal_any (v : Value) (d : Aut) (w : World) (h : DfaAt w w.heap.size v d) :
    Calls Tryd.prog 32 #[v] w fun e w' => Hid (∃ x, e = .returned (.tuple #[x, errV (minOut d).2]) ∧ DfaOwn w w' x (minOut d).1) := by
  have HV := h
  obtain ⟨L, s, A, c, F, cf, rfl, h⟩ := h
  obtain ⟨w1, hw1, hB1, hX, hd1⟩ := box_dfa w h
  have HB := Lib.hid hB1
  have HX := Lib.hid hX
  have HW := Lib.hid hw1
  have hres := below_alloc w1 (.cells #[.int .i64 0, .int .i64 0, .slice none 0 0, .slice none 0 0] 25)
  have hX2 := hX.on hres
  have HX2 := Lib.hid hX2
  have hc0 := hX2.c0
  have hc1 := hX2.c1
  have hc2 := hX2.c2
  have hc3 := hX2.c3
  have HO := Lib.hid ((own_start w1).dfa (.int .i64 0) (.int .i64 0) (.slice none 0 0) (.slice none 0 0))
  have HV := Lib.hid ((HV.on hB1).on hres)
  have hsz : w1.heap.size = w.heap.size + 1 := by rw [hw1]; simp
  rw [hsz] at HO
  have HTr := Lib.hid (trim_any _ d _ HV.out)
  clear h hd1 hw1 hX hB1 hX2 hres hsz HV
  generalize d.next.length = N at *
  generalize d.fin.length = m at *
  go_enter Tryd.func32, Tryd.ntmps32
  go_wp2_with fail
  rw [← HW.out]
  clear HW
  refine HTr.out.mono ?_
  rintro e w2 he
  obtain ⟨x, h1, ho⟩ := he.out
  subst h1
  have HO2 := Lib.hid (HO.out.on ho.below)
  have HD2 := Lib.hid ho.at_
  have hb2 := ho.below
  clear he ho HTr hc0 hc1 hc2 hc3 HX2 HO
  rcases g1 : dchk d with _ | e0
  · rw [trimOut_ok g1] at HD2
    rw [trimOut_ok g1]
    have hg := dchk_iff.1 g1
    have HG := Lib.hid (trim_good hg)
    have HMin : Hid (∀ cl, Sm.Fine (trimA d) cl → mergedN (trimA d) cl (trimA d).next.length = minA d) := fun cl hc => trimmed_min hg hc
    have HOut := Lib.hid (minOut_ok g1)
    obtain ⟨L2, s2, A2, n2, c2, F2, m2, k2, rfl⟩ := HD2.out.form
    clear g1 hg
    obtain ⟨u3, hu3, hb3, VA0⟩ := var_new w2 HD2.out
    have VA := Lib.hid VA0
    have W3 := Lib.hid hu3
    have HO3 := Lib.hid (HO2.out.on hb3)
    have HLt : Hid (w.heap.size + 1 < w2.heap.size) := (HO2.out.lt (ad := ⟨w.heap.size + 1, 0, none⟩) (xs := zero4) (t := 25) (sz := 4) (n := 1) (cap := 1) (by simp [eDfa])).2
    have hb4 := hb2.trans (hb3.mono hb2.size)
    obtain ⟨g4, hg4⟩ : ∃ g4, g4 = w2.heap.size := ⟨_, rfl⟩
    rw [← hg4] at VA
    have HCl := Lib.hid (fun W v (h : DfaAt W W.heap.size v (trimA d)) => classes_any v (trimA d) W h HG.out)
    have HMg := Lib.hid (fun W v cl (h : DfaAt W W.heap.size v (trimA d)) hf => merged_any v (trimA d) cl W h HG.out hf)
    have HK : Hid (∀ W, Below u3.heap.size u3 W → W.cell? ⟨g4, 0, none⟩ = some (.int .i64 L2) ∧ W.cell? ⟨g4, 1, none⟩ = some (.int .i64 s2) ∧ W.cell? ⟨g4, 2, none⟩ = some (.slice A2 n2 c2) ∧ W.cell? ⟨g4, 3, none⟩ = some (.slice F2 m2 k2)) := fun W hW => by
      have h := VA.out.box.on hW
      exact ⟨h.c0, h.c1, h.c2, h.c3⟩
    have HBu := Lib.hid hb4
    obtain ⟨gr, hgr⟩ : ∃ gr, gr = w.heap.size + 1 := ⟨_, rfl⟩
    rw [← hgr] at HO3
    rw [show errV 0 = Value.nilIface from rfl]
    clear hu3 hb3 VA0 hb4 hb2 HO2 HD2
    go_wp2_with fail
    rw [← W3.out]
    rw [← hg4, ← hgr]
    have hne : g4 ≠ gr := by
      have := (HO3.out.lt (ad := ⟨gr, 0, none⟩) (xs := zero4) (t := 25) (sz := 4) (n := 1) (cap := 1) (by simp [eDfa]))
      have := HLt.out
      omega
    clear W3 hg4 hgr HLt
    refine wp_region_Z (fun W => W.cell? ⟨g4, 0, none⟩ = some (.int .i64 L2) ∧ W.cell? ⟨g4, 1, none⟩ = some (.int .i64 s2) ∧ W.cell? ⟨g4, 2, none⟩ = some (.slice A2 n2 c2) ∧ W.cell? ⟨g4, 3, none⟩ = some (.slice F2 m2 k2)) 5 (by kernel_rfl) (HK.out _ (Below.refl _ _).drew) (fun hHeld => ?_)
    refine wpZ_take (i := 0) (v := ?_) rfl (by kernel_rfl) (by kernel_rfl) (by kernel_rfl) (by kernel_rfl) (fun _ _ _ h => h) (Or.inl ⟨by rfl, ?_⟩) hHeld ?_
    rotate_left
    · (go_light; intro w9 hSw; (try dsimp only at hSw); go_simp; try with_reducible rfl)
    try simp only [Act.put, List.setIfInBounds_toArray, List.set_cons_zero, List.set_cons_succ]
    refine wpZ_take (i := 1) (v := ?_) rfl (by kernel_rfl) (by kernel_rfl) (by kernel_rfl) (by kernel_rfl) (fun _ _ _ h => h) (Or.inl ⟨by rfl, ?_⟩) hHeld ?_
    rotate_left
    · (go_light; intro w9 hSw; (try dsimp only at hSw); go_simp; try with_reducible rfl)
    try simp only [Act.put, List.setIfInBounds_toArray, List.set_cons_zero, List.set_cons_succ]
    refine wpZ_one (i := 2) rfl (by kernel_rfl) (fun K hK => ?_)
    go_simp
    refine (HCl.out _ _ (VA.out.at_.on (Below.refl _ _).drew)).mono ?_
    rintro e w5 ⟨he, hb5⟩
    obtain ⟨cl, h5, hfi⟩ := he.out
    subst h5
    have HFi := Lib.hid hfi
    have HB5 := Lib.hid ((Below.refl u3.heap.size u3).drew.trans hb5)
    clear he hb5 hfi
    try simp only []
    refine hK.out _ _ (fun _ => HK.out _ HB5.out) (fun hHeld9 => ?_)
    replace hHeld := hHeld9 (by decide)
    clear hHeld9
    clear hK K
    try simp only [Act.put, List.setIfInBounds_toArray, List.set_cons_zero, List.set_cons_succ]
    refine wpZ_one (i := 3) rfl (by kernel_rfl) (fun K hK => ?_)
    go_simp
    refine (HMg.out _ _ _ (VA.out.at_.on HB5.out) HFi.out).mono ?_
    rintro e w6 he
    obtain ⟨x, h6, ho6⟩ := he.out
    subst h6
    rw [HMin.out cl HFi.out] at ho6
    have HO6 := Lib.hid ho6
    have HB6 := Lib.hid (HB5.out.trans (ho6.below.mono HB5.out.size))
    obtain ⟨nv, fv, A5, n5, c5, F5, m5, k5, e6, e7, e8⟩ := ho6.form
    generalize (minA d).L = L5 at *
    generalize (minA d).s = s5 at *
    subst e6 e7 e8
    clear he ho6
    try simp only []
    refine hK.out _ _ (fun _ => HK.out _ HB6.out) (fun hHeld9 => ?_)
    replace hHeld := hHeld9 (by decide)
    clear hHeld9
    clear hK K
    try simp only [Act.put, List.setIfInBounds_toArray, List.set_cons_zero, List.set_cons_succ]
    refine wpZ_one (i := 4) rfl (by kernel_rfl) (fun K hK => ?_)
    have hr := HO3.out.on HB6.out
    obtain ⟨hr0, hf0⟩ := hr.dcell (g := gr) (l := zero4) (j := 0) (by simp) rfl
    obtain ⟨hr1, hf1⟩ := hr.dcell (g := gr) (l := zero4) (j := 1) (by simp) rfl
    obtain ⟨hr2, hf2⟩ := hr.dcell (g := gr) (l := zero4) (j := 2) (by simp) rfl
    obtain ⟨hr3, hf3⟩ := hr.dcell (g := gr) (l := zero4) (j := 3) (by simp) rfl
    go_simp
    refine hK.out _ _ (fun _ => ⟨(cell_four hne _ _ _ _).trans (HK.out _ HB6.out).1, (cell_four hne _ _ _ _).trans (HK.out _ HB6.out).2.1, (cell_four hne _ _ _ _).trans (HK.out _ HB6.out).2.2.1, (cell_four hne _ _ _ _).trans (HK.out _ HB6.out).2.2.2⟩) (fun hHeld9 => ?_)
    replace hHeld := hHeld9 (by decide)
    clear hHeld9
    clear hK K
    try simp only [Act.put, List.setIfInBounds_toArray, List.set_cons_zero, List.set_cons_succ]
    refine wpZ_one (i := 5) rfl (by kernel_rfl) (fun K hK => ?_)
    go_simp
    refine hK.out _ _ (fun k => absurd rfl k) (fun _ => ?_)
    clear hK K
    try simp only [Act.put, List.setIfInBounds_toArray, List.set_cons_zero, List.set_cons_succ]
    refine wpZ_done (by kernel_rfl) ?_ _
    obtain ⟨k1, k3, k4, k5', k6⟩ := dfa_into (HO3.out.on HB5.out) HO6.out
    have HEnd := Lib.hid (k1.base HB.out)
    clear hHeld HK HO3 HO6 VA HX
    go_wp2
    refine bodyPost_ret (results_dfa rfl _ rfl k3 k4 k5' k6) rfl ⟨_, by rw [HOut.out]; rfl, by rw [HOut.out]; exact HEnd.out⟩
  · have HNo : Hid (minOut d = (zeroA, e0 + 1)) := by unfold Hid; rw [minOut_bad (by omega), g1]
    rw [trimOut_bad (by omega)] at HD2
    rw [trimOut_bad (by omega), g1]
    obtain ⟨L2, s2, A2, n2, c2, F2, m2, k2, rfl⟩ := HD2.out.form
    rw [show errV (e0 + 1) = errI ((e0 + 1 : Nat) : Int) from rfl]
    generalize hE : ((e0 + 1 : Nat) : Int) = E at *
    have HE := Lib.hid hE
    obtain ⟨u3, hu3, hb3, _⟩ := var_new w2 HD2.out
    subst hu3
    have HO3 := Lib.hid (HO2.out.on hb3)
    obtain ⟨hr0, hf0⟩ := HO3.out.dcell (g := w.heap.size + 1) (l := zero4) (j := 0) (by simp) rfl
    obtain ⟨hr1, hf1⟩ := HO3.out.dcell (g := w.heap.size + 1) (l := zero4) (j := 1) (by simp) rfl
    obtain ⟨hr2, hf2⟩ := HO3.out.dcell (g := w.heap.size + 1) (l := zero4) (j := 2) (by simp) rfl
    obtain ⟨hr3, hf3⟩ := HO3.out.dcell (g := w.heap.size + 1) (l := zero4) (j := 3) (by simp) rfl
    have HEnd := Lib.hid (res_bad HO3.out rfl)
    clear hE hb3 hb2 HO2 HD2 g1 HO3
    go_wp2
    obtain ⟨k2, k3, k4, k5, k6⟩ := HEnd.out
    refine bodyPost_ret (results_dfa rfl _ rfl k3 k4 k5 k6) rfl (Lib.hid ⟨_, by rw [HNo.out, show errV (e0 + 1) = errI ((e0 + 1 : Nat) : Int) from rfl, HE.out]; rfl, by rw [HNo.out]; exact dfaOwn_zero (HB.out.trans (k2.mono HB.out.size))⟩)
end Go.Proofs.YtbciefeipiphiaaDoor.Mp
