/- The walks of the document's answer for values: Table, At. -/
import Derived.Test.YtnlkkfcjonchgaaDoorRefUntl
import Derived.Test.YtnlkkfcjonchgaaDoorMeanW
import Derived.Test.YtnlkkfcjonchgaaDoorRefWord
import Derived.StillTailTactics
import Derived.Deep.QuietTactic
import Derived.BigQuiet
namespace Go.Proofs.YtnlkkfcjonchgaaDoor.Fm
open Go.RowKit Go.IntWalk Go.Proofs.YtnlkkfcjonchgaaDoor.Wd Go.Proofs.YtnlkkfcjonchgaaDoor.Wo

/-- A node's value at a place, out of those of the nodes ahead of it. -/
def tabN (n : Nd) (z : List Int) (M : Nat → Nat → Bool) (p : Nat) : Bool :=
  if n.1 = 0 then true
  else if n.1 = 2 then decide (p < z.length) && n.2.1.toNat.testBit (z.getD p 0).toNat
  else if n.1 = 3 then !M n.2.1.toNat p
  else if n.1 = 4 then M n.2.1.toNat p && M n.2.2.toNat p
  else if n.1 = 5 then M n.2.1.toNat p || M n.2.2.toNat p
  else if n.1 = 6 then decide (p < z.length) && M n.2.1.toNat (p + 1)
  else if n.1 = 7 then decide (z.length ≤ p) || M n.2.1.toNat (p + 1)
  else if n.1 = 8 then untl (M n.2.1.toNat) (M n.2.2.toNat) true (z.length - p) p
  else if n.1 = 9 then !untl (M n.2.1.toNat) (M n.2.2.toNat) false (z.length - p) p
  else false
theorem vat_tab {L : Int} {f : List Nd} (hg : ∀ j n, f[j]? = some n → NdGood L j n) {k : Nat} {n : Nd} (hn : f[k]? = some n) (z : List Int) (p : Nat) : vat f z k p = tabN n z (vat f z) p := by
  have gd := hg k n hn
  have ht := tre_get hg hn
  have h0 := gd.k0
  have h9 := gd.k9
  obtain ⟨kd, x, y⟩ := n
  simp only at h0 h9
  have : kd = 0 ∨ kd = 1 ∨ kd = 2 ∨ kd = 3 ∨ kd = 4 ∨ kd = 5 ∨ kd = 6 ∨ kd = 7 ∨ kd = 8 ∨ kd = 9 := by omega
  show val1 z (tre f k) p = _
  rw [ht]
  rcases this with rfl | rfl | rfl | rfl | rfl | rfl | rfl | rfl | rfl | rfl <;> rfl
theorem mid_skip {l : List Bool} {k : Nat} (h : l[k]? = some false) : mid l k = mid l (k + 1) := by
  have hk := (List.getElem?_eq_some_iff.1 h).1
  rw [← mid_set h]
  refine List.ext_getElem? fun i => ?_
  rw [List.getElem?_set]
  by_cases e : k = i
  · subst e
    rw [if_pos rfl, if_pos (by rw [mid_length (by omega)]; exact hk), mid_at hk]
  · rw [if_neg e]

/-! ### a table under way -/
/-- The rows that are done, the one that is written to, the node's own block. -/
def TI (w0 wi : World) (N : Nat) (tv : Value) (rs : List Rc.Br) (gw gb : Nat) (nd : Nd) (V : List Bool) (p : Nat) : Prop :=
  Rc.OwnT w0 wi N tv rs [eBools (.slice (some ⟨gw, 0, none⟩) N N) (mid V p), eNodes (.slice (some ⟨gb, 0, none⟩) 1 1) [nd]]
theorem ti_on {w0 wi wj : World} {N : Nat} {tv : Value} {rs : List Rc.Br} {gw gb : Nat} {nd : Nd} {V : List Bool} {p : Nat} (h : TI w0 wi N tv rs gw gb nd V p) (hb : Below wi.heap.size wi wj) : TI w0 wj N tv rs gw gb nd V p := ⟨h.1.on hb, h.2⟩
theorem ti_start {w0 wr w4 : World} {N : Nat} {tv : Value} {rs : List Rc.Br} {gw : Nat} {x y z : Int} {V : List Bool} (h : Rc.OwnT w0 wr N tv rs []) (hV : V.length = N)
    (ho : Own (wr.alloc (.cells #[.int .i64 x, .int .i64 y, .int .i64 z] 48)) w4 [eBools (.slice (some ⟨gw, 0, none⟩) N N) (List.replicate N false)] []) : TI w0 w4 N tv rs gw wr.heap.size (x, y, z) V 0 := by
  have h1 := h.1.lit 48 3 1 #[.int .i64 x, .int .i64 y, .int .i64 z] rfl (by simp [maxLen])
  have h2 := h1.join ho
  refine ⟨?_, h.2⟩
  rw [mid_zero, hV]
  exact h2.three
theorem ti_cell {w0 wi : World} {N : Nat} {tv : Value} {rs : List Rc.Br} {gw gb : Nat} {nd : Nd} {V : List Bool} {p : Nat} (h : TI w0 wi N tv rs gw gb nd V p) (hV : V.length = N) (hp : p < N) : wi.cell? ⟨gw, p, none⟩ = some (.bool false) ∧ wi.frozen? ⟨gw, p, none⟩ = false :=
  Rc.own_bools_cell (g := gw) (n := N) (cap := N) (l := mid V p) h.1 (by simp) (by rw [mid_length (by omega), hV]) (mid_at (by omega))
theorem ti_set {w0 wi : World} {N : Nat} {tv : Value} {rs : List Rc.Br} {gw gb : Nat} {nd : Nd} {V : List Bool} {p : Nat} {b : Bool} (h : TI w0 wi N tv rs gw gb nd V p) (hV : V.length = N) (hb : V[p]? = some b) : TI w0 (wi.setCell ⟨gw, p, none⟩ (.bool b)) N tv rs gw gb nd V (p + 1) := by
  have hp := (List.getElem?_eq_some_iff.1 hb).1
  have h1 := Rc.own_bools_set (g := gw) (n := N) (cap := N) (l := mid V p) h.1.two (by rw [mid_length (by omega), hV]) p b
  rw [mid_set hb] at h1
  exact ⟨h1.two, h.2⟩
theorem ti_box {w0 wi : World} {N : Nat} {tv : Value} {rs : List Rc.Br} {gw gb : Nat} {x y z : Int} {V : List Bool} {p : Nat} (h : TI w0 wi N tv rs gw gb (x, y, z) V p) : gb < wi.heap.size ∧ wi.cell? ⟨gb, 0, none⟩ = some (.int .i64 x) ∧ wi.cell? ⟨gb, 1, none⟩ = some (.int .i64 y) ∧ wi.cell? ⟨gb, 2, none⟩ = some (.int .i64 z) := by
  have hm : (⟨48, 3, .slice (some ⟨gb, 0, none⟩) 1 1, 1, ncells [(x, y, z)]⟩ : Ent) ∈ [Rc.eBRows tv (rs.map (Rc.brV N)), eBools (.slice (some ⟨gw, 0, none⟩) N N) (mid V p), eNodes (.slice (some ⟨gb, 0, none⟩) 1 1) [(x, y, z)]] ++ Rc.eEachB N rs := by
    simp [eNodes]
  exact ⟨(h.1.lt hm).2, (h.1.cell hm (j := 0) rfl).1, (h.1.cell hm (j := 1) rfl).1, (h.1.cell hm (j := 2) rfl).1⟩
theorem ti_child {w0 wi : World} {N k cap : Nat} {A : Option Addr} {rs : List Rc.Br} {gw gb : Nat} {nd : Nd} {V : List Bool} {p : Nat} (h : TI w0 wi N (.slice A k cap) rs gw gb nd V p) (hl : rs.length = k) {M : Nat → Nat → Bool} (hM : Rc.RowsM N rs M) (hN : 0 < N) {i : Nat} (hi : i < k) :
    ∃ ad g, A = some ad ∧ ad.block < wi.heap.size ∧ wi.cell? (ad.add i) = some (.slice (some ⟨g, 0, none⟩) N N) ∧ g < wi.heap.size ∧ (∀ q, q < N → wi.cell? ⟨g, q, none⟩ = some (.bool (M i q))) ∧ Df.BoolsAt wi wi.heap.size (some ⟨g, 0, none⟩) (Rc.bF N (M i)) := by
  subst hl
  have hT := Rc.ownT_tab hN h
  obtain ⟨r, hr⟩ : ∃ r, rs[i]? = some r := ⟨_, List.getElem?_eq_getElem hi⟩
  obtain ⟨_, ⟨ad, e, h2, h3⟩, h4, h5⟩ := hT i r hr
  have hrow := hM i r hr
  refine ⟨ad, r.1, e, h2, h3, h4, fun q hq => h5 q _ (by rw [hrow]; exact Rc.bF_get _ hq), ?_⟩
  intro j u hj
  rw [List.getElem?_map] at hj
  rcases hb : (Rc.bF N (M i))[j]? with _ | b
  · rw [hb] at hj; cases hj
  · rw [hb] at hj
    simp only [Option.map_some, Option.some.injEq] at hj
    subst hj
    refine ⟨_, rfl, h4, ?_⟩
    have e : ((⟨r.1, 0, none⟩ : Addr).add j) = ⟨r.1, j, none⟩ := by simp [Addr.add]; intro h; exact h.symm
    rw [e]
    exact h5 j b (by rw [hrow]; exact hb)
/-- The row is whole. -/
theorem ti_row {w0 wi : World} {N : Nat} {tv : Value} {rs : List Rc.Br} {gw gb : Nat} {nd : Nd} {V : List Bool} (h : TI w0 wi N tv rs gw gb nd V N) (hV : V.length = N) : Own w0 wi (Rc.eBRows tv (rs.map (Rc.brV N)) :: [eBools (.slice (some ⟨gw, 0, none⟩) N N) V]) (Rc.eEachB N rs) := by
  have h1 := h.1.three.tail
  have e : mid V N = V := by subst hV; exact mid_all V
  rwa [e] at h1
theorem ownT_snoc {w0 w : World} {N : Nat} {v : Value} {rs : List Rc.Br} {g : Nat} {l : List Bool} (hl : l.length = N) (hr : ∀ r ∈ rs, r.2.length = N) (h : Own w0 w (Rc.eBRows v (rs.map (Rc.brV N) ++ [.slice (some ⟨g, 0, none⟩) N N]) :: [eBools (.slice (some ⟨g, 0, none⟩) N N) l]) (Rc.eEachB N rs)) : Rc.OwnT w0 w N v (rs ++ [(g, l)]) [] := by
  refine ⟨?_, fun r hm => ?_⟩
  · have h1 := h.two.fin
    rw [List.map_append]
    refine h1.weak fun e he => ?_
    rw [Rc.eEachB_snoc] at he
    rcases List.mem_append.1 he with he | he
    · exact List.mem_cons_of_mem _ he
    · simp at he; subst he; exact List.mem_cons_self
  · rcases List.mem_append.1 hm with hm | hm
    · exact hr r hm
    · simp at hm; subst hm; exact hl
/-- The rows done. -/
def TO (w0 wr : World) (N : Nat) (tv : Value) (k : Nat) (M : Nat → Nat → Bool) : Prop := ∃ rs, Rc.OwnT w0 wr N tv rs [] ∧ rs.length = k ∧ Rc.RowsM N rs M
theorem rowsM_snoc' {N : Nat} {rs : List Rc.Br} {M : Nat → Nat → Bool} (h : Rc.RowsM N rs M) (g : Nat) {k : Nat} (hk : rs.length = k) {V : List Bool} (hV : V = Rc.bF N (M k)) : Rc.RowsM N (rs ++ [(g, V)]) M := by subst hV; exact Rc.rowsM_snoc h g hk
set_option linter.unusedSimpArgs false in
set_option maxRecDepth 100000 in
set_option maxHeartbeats 8000000 in
theorem table_any {L : Int} (A0 : Option Addr) (c : Nat) (f : List Nd) (B : Option Addr) (cb : Nat) (zz : List Int) (w : World) (hA : NodesAt w w.heap.size A0 f) (hB : IntsAt w w.heap.size B zz) (hg : FGood L f) (hz : Fine L zz) :
    Calls Tryd.prog 43 #[.slice A0 f.length c, .slice B zz.length cb] w fun e w' => Hid (∃ A cap, e = .returned (.slice A f.length cap) ∧ TO w w' (zz.length + 1) (.slice A f.length cap) f.length (vat f zz)) := by
  have hn40 := hg.le
  have h80 := hz.2.1
  have HG := Lib.hid hg
  have HF := Lib.hid hz
  have HA := Lib.hid (fun wr (h : Below w.heap.size w wr) => hA.on h)
  have HZ := Lib.hid (fun wr (h : Below w.heap.size w wr) => hB.on h)
  have HTb := Lib.hid (fun k n (hn : f[k]? = some n) p => vat_tab hg.nd hn zz p)
  have hp6 : (2 : Int) ^ L.toNat ≤ 64 := by
    obtain ⟨P, _, h2, _, h4⟩ := shl_lim hg.l1 hg.l6
    rw [h2]; exact h4
  have HPow := Lib.hid hp6
  have HS0 : Hid (TO w w (zz.length + 1) (.slice none 0 0) 0 (vat f zz)) := ⟨[], ⟨(own_start w).nil 25 1, fun r hr => by simp at hr⟩, rfl, fun j r hj => by simp at hj⟩
  obtain ⟨N, hN⟩ : ∃ N, f.length = N := ⟨_, rfl⟩
  obtain ⟨n, hn⟩ : ∃ n, zz.length = n := ⟨_, rfl⟩
  have HN := Lib.hid hN
  have HZn := Lib.hid hn
  rw [hN] at hn40 ⊢
  rw [hn] at h80 HS0 ⊢
  have hN0 : 0 < n + 1 := by omega
  clear hN hn hA hB hg hz hp6
  go_enter Tryd.func43, Tryd.ntmps43
  go_wp2
  go_loopw [5, 7] (fun tv i wr => ∃ (k : Nat), k ≤ N ∧ i = .int .i64 k ∧ Hid (∃ A cap, tv = .slice A k cap ∧ TO w wr (n + 1) tv k (vat f zz))) (fun _ i _ => N - (intOf i).toNat)
  case atStart => exact ⟨0, by omega, rfl, none, 0, rfl, HS0⟩
  case round =>
    clear HS0
    obtain ⟨k, hk, rfl, HS⟩ := hrel
    obtain ⟨A, cap, rfl, rs, hT, hlen, hrows⟩ := HS.out
    by_cases hlt : k < N
    · obtain ⟨nd, hnd⟩ : ∃ n, f[k]? = some n := ⟨_, List.getElem?_eq_getElem (by rw [HN.out]; exact hlt)⟩
      obtain ⟨ad, e, hadb, c0, c1, c2⟩ := (HA.out _ hT.1.below).at_ hnd
      subst e
      have HVt := Lib.hid (HTb.out k nd hnd)
      have gd := HG.out.nd k nd hnd
      have hk0 := gd.k0
      have hk9 := gd.k9
      have hst := gd.set
      have ha1 := gd.a1
      have hb2 := gd.b2
      obtain ⟨x, y, z⟩ := nd
      simp only at hk0 hk9 hst ha1 hb2 c0 c1 c2
      have HT := Lib.hid hT
      have HLen := Lib.hid hlen
      have HRows := Lib.hid hrows
      have e1 : (k : Int) < (N : Int) := by omega
      obtain ⟨V, hV⟩ : ∃ V, V = Rc.bF (n + 1) (vat f zz k) := ⟨_, rfl⟩
      have HVl : Hid (V.length = n + 1) := by unfold Hid; rw [hV, Rc.bF_length]
      have HVv := Lib.hid hV
      clear HS hT hlen hrows gd hnd hV
      as_aux_lemma =>
      go_wp2_with (at_make; refine Rc.mk_bools rfl _ _ rfl (n + 1) rfl rfl (by omega) ?_)
      intro w4 ho4
      have HT4 := Lib.hid (ti_start HT.out HVl.out ho4)
      clear ho4 HT c0 c1 c2
      generalize wr.heap.size + 1 = gw at *
      generalize wr.heap.size = gb at *
      go_wp2
      go_loopw [10] (fun i wi => ∃ (p : Nat), p ≤ n + 1 ∧ i = .int .i64 p ∧ Hid (TI w wi (n + 1) (.slice A k cap) rs gw gb (x, y, z) V p)) (fun i _ => n + 1 - (intOf i).toNat)
      case atStart => exact ⟨0, by omega, rfl, HT4⟩
      case round =>
        clear HT4
        obtain ⟨p, hp, rfl, HTI⟩ := hrel
        by_cases hpN : p < n + 1
        · have HVp : Hid (V[p]? = some (tabN (x, y, z) zz (vat f zz) p)) := by unfold Hid; rw [HVv.out, Rc.bF_get _ hpN, HVt.out p]
          obtain ⟨t0, t1⟩ := ti_cell HTI.out HVl.out hpN
          obtain ⟨hgb, d0, d1, d2⟩ := ti_box HTI.out
          have HS := Lib.hid (ti_set HTI.out HVl.out HVp.out)
          have HSd := fun m => Lib.hid (ti_set (ti_on HTI.out (below_drewN (Below.refl _ _) m)) HVl.out HVp.out)
          have e7 : (p : Int) ≤ (n : Int) := by omega
          have e8 : (p : Int) < (n : Int) + 1 := by omega
          clear HVt
          have hkk : x = 0 ∨ x = 1 ∨ x = 2 ∨ x = 3 ∨ x = 4 ∨ x = 5 ∨ x = 6 ∨ x = 7 ∨ x = 8 ∨ x = 9 := by omega
          clear hk0 hk9
          rcases hkk with rfl | rfl | rfl | rfl | rfl | rfl | rfl | rfl | rfl | rfl
          · as_aux_lemma =>
            change Hid (TI _ (World.setCell _ ⟨gw, p, none⟩ (.bool true)) _ _ _ _ _ _ _ _) at HS
            clear HVp HTI
            go_wp2
            go_roundw
            case rel => exact ⟨p + 1, by omega, by go_num, HS⟩
            case measure => simp [intOf]; omega
          · as_aux_lemma =>
            have HS2 : Hid (TI w wr (n + 1) (.slice A k cap) rs gw gb (1, y, z) V (p + 1)) := by have h := HTI.out; unfold TI at h; rw [mid_skip HVp.out] at h; exact h
            clear HVp HTI HS t0 t1
            go_wp2
            go_roundw
            case rel => exact ⟨p + 1, by omega, by go_num, HS2⟩
            case measure => simp [intOf]; omega
          · as_aux_lemma =>
            change ∀ m, Hid (TI _ (World.setCell _ ⟨gw, p, none⟩ (.bool (decide (p < zz.length) && y.toNat.testBit (zz.getD p 0).toNat))) _ _ _ _ _ _ _ _) at HSd
            have hy := (hst rfl)
            by_cases hpn : p < n
            · have hzl : p < zz.length := by rw [HZn.out]; exact hpn
              obtain ⟨adz, e, hadzb, hcz, _, _⟩ := (HZ.out wr HTI.out.1.below).at_ p hzl
              subst e
              have hfa := HF.out.2.2 zz[p] (List.getElem_mem hzl)
              have hl6 := HF.out.1.2
              rw [decide_eq_true hzl, Bool.true_and, List.getD_eq_getElem?_getD, List.getElem?_eq_getElem hzl, Option.getD_some] at HSd
              rw [← has_test] at HSd
              generalize zz[p] = a at *
              have HBt := Lib.hid (fun W => (bit_any y a W hy.1 (by have := hy.2; have := HPow.out; omega) hfa.1 (by omega)).mono (R' := fun e w' => e = .returned (.bool (has y a)) ∧ w' = W) fun e w' ⟨h1, h2⟩ => ⟨h1.out, h2.symm⟩)
              generalize has y a = b at *
              have e3 : (p : Int) < (n : Int) := by omega
              clear HVp HTI ha1 hb2 HS hst hy hfa hl6
              go_wp2_with fail
              refine wp_region_still_tail 15 (by kernel_rfl) (by kernel_rfl) ?_
              simp only [List.take_succ_cons, List.take_zero, List.drop_succ_cons, List.drop_zero]
              iterate 12 still_step
              still_call (HBt.out _)
              iterate 2 still_step
              refine wpStill_nil ?_
              change wpList _ _ _ _ _ wr.drew
              go_wp2
              go_roundw
              case rel => exact ⟨p + 1, by omega, by go_num, HSd 1⟩
              case measure => first | (simp [intOf]; done) | (simp [intOf]; omega)
            · have e3 : ¬ (p : Int) < (n : Int) := by omega
              rw [decide_eq_false (by rw [HZn.out]; omega), Bool.false_and] at HSd
              have hd : decide (p < n) = false := decide_eq_false hpn
              clear e7 e3
              clear HVp HTI ha1 hb2 HS hst hy
              go_wp2_with fail
              go_region
              all_goals go_wp2
              all_goals go_roundw
              all_goals first | exact ⟨p + 1, by omega, by go_num, HSd _⟩ | (simp [intOf]; done) | (simp [intOf]; omega)
          · as_aux_lemma =>
            change Hid (TI _ (World.setCell _ ⟨gw, p, none⟩ (.bool (!vat f zz y.toNat p))) _ _ _ _ _ _ _ _) at HS
            obtain ⟨i, rfl, hi⟩ := nat_of (ha1 (by decide))
            obtain ⟨adi, gi, ei, bi, ri, li, ci, Bi⟩ := ti_child HTI.out HLen.out HRows.out hN0 hi
            subst ei
            have x1 := ci p hpN
            rw [Int.toNat_natCast] at HS
            have e2 : (i : Int) < (k : Int) := by omega
            generalize vat f zz i p = b at *
            clear HVp HTI ci Bi ha1 hb2
            go_wp2
            go_roundw
            case rel => exact ⟨p + 1, by omega, by go_num, HS⟩
            case measure => simp [intOf]; omega
          · as_aux_lemma =>
            change Hid (TI _ (World.setCell _ ⟨gw, p, none⟩ (.bool (vat f zz y.toNat p && vat f zz z.toNat p))) _ _ _ _ _ _ _ _) at HS
            obtain ⟨i, rfl, hi⟩ := nat_of (ha1 (by decide))
            obtain ⟨adi, gi, ei, bi, ri, li, ci, Bi⟩ := ti_child HTI.out HLen.out HRows.out hN0 hi
            obtain ⟨j, rfl, hj⟩ := nat_of (hb2 (by decide))
            obtain ⟨adj, gj, ej, bj, rj, lj, cj, Bj⟩ := ti_child HTI.out HLen.out HRows.out hN0 hj
            subst ei
            obtain rfl := Option.some.inj ej
            have x1 := ci p hpN
            have x2 := cj p hpN
            rw [Int.toNat_natCast, Int.toNat_natCast] at HS
            have e2 : (i : Int) < (k : Int) := by omega
            have e3 : (j : Int) < (k : Int) := by omega
            generalize vat f zz i p = b at *
            generalize vat f zz j p = d at *
            clear HVp HTI ci Bi cj Bj ha1 hb2 ej
            rcases b with _ | _
            · rw [Bool.false_and] at HS
              go_wp2
              go_roundw
              case rel => exact ⟨p + 1, by omega, by go_num, HS⟩
              case measure => simp [intOf]; omega
            · rw [Bool.true_and] at HS
              go_wp2
              go_roundw
              case rel => exact ⟨p + 1, by omega, by go_num, HS⟩
              case measure => simp [intOf]; omega
          · as_aux_lemma =>
            change Hid (TI _ (World.setCell _ ⟨gw, p, none⟩ (.bool (vat f zz y.toNat p || vat f zz z.toNat p))) _ _ _ _ _ _ _ _) at HS
            obtain ⟨i, rfl, hi⟩ := nat_of (ha1 (by decide))
            obtain ⟨adi, gi, ei, bi, ri, li, ci, Bi⟩ := ti_child HTI.out HLen.out HRows.out hN0 hi
            obtain ⟨j, rfl, hj⟩ := nat_of (hb2 (by decide))
            obtain ⟨adj, gj, ej, bj, rj, lj, cj, Bj⟩ := ti_child HTI.out HLen.out HRows.out hN0 hj
            subst ei
            obtain rfl := Option.some.inj ej
            have x1 := ci p hpN
            have x2 := cj p hpN
            rw [Int.toNat_natCast, Int.toNat_natCast] at HS
            have e2 : (i : Int) < (k : Int) := by omega
            have e3 : (j : Int) < (k : Int) := by omega
            generalize vat f zz i p = b at *
            generalize vat f zz j p = d at *
            clear HVp HTI ci Bi cj Bj ha1 hb2 ej
            rcases b with _ | _
            · rw [Bool.false_or] at HS
              go_wp2
              go_roundw
              case rel => exact ⟨p + 1, by omega, by go_num, HS⟩
              case measure => simp [intOf]; omega
            · rw [Bool.true_or] at HS
              go_wp2
              go_roundw
              case rel => exact ⟨p + 1, by omega, by go_num, HS⟩
              case measure => simp [intOf]; omega
          · as_aux_lemma =>
            change Hid (TI _ (World.setCell _ ⟨gw, p, none⟩ (.bool (decide (p < zz.length) && vat f zz y.toNat (p + 1)))) _ _ _ _ _ _ _ _) at HS
            by_cases hpn : p < n
            · rw [decide_eq_true (by rw [HZn.out]; exact hpn), Bool.true_and] at HS
              obtain ⟨i, rfl, hi⟩ := nat_of (ha1 (by decide))
              obtain ⟨adi, gi, ei, bi, ri, li, ci, Bi⟩ := ti_child HTI.out HLen.out HRows.out hN0 hi
              subst ei
              have x1 := ci (p + 1) (by omega)
              rw [Int.toNat_natCast] at HS
              have e2 : (i : Int) < (k : Int) := by omega
              have e3 : (p : Int) < (n : Int) := by omega
              have e4 : (p : Int) + 1 < (n : Int) + 1 := by omega
              have e5 : ((p : Int) == (n : Int)) = false := beq_eq_false_iff_ne.2 (by omega)
              generalize vat f zz i (p + 1) = b at *
              clear HVp HTI ci Bi ha1 hb2
              go_wp2
              go_roundw
              case rel => exact ⟨p + 1, by omega, by go_num, HS⟩
              case measure => first | (simp [intOf]; done) | (simp [intOf]; omega)
            · obtain rfl : p = n := by omega
              rw [decide_eq_false (by rw [HZn.out]; omega), Bool.false_and] at HS
              clear HVp HTI ha1 hb2
              go_wp2
              go_roundw
              case rel => exact ⟨p + 1, by omega, by go_num, HS⟩
              case measure => first | (simp [intOf]; done) | (simp [intOf]; omega)
          · as_aux_lemma =>
            change Hid (TI _ (World.setCell _ ⟨gw, p, none⟩ (.bool (decide (zz.length ≤ p) || vat f zz y.toNat (p + 1)))) _ _ _ _ _ _ _ _) at HS
            by_cases hpn : p < n
            · rw [decide_eq_false (by rw [HZn.out]; omega), Bool.false_or] at HS
              obtain ⟨i, rfl, hi⟩ := nat_of (ha1 (by decide))
              obtain ⟨adi, gi, ei, bi, ri, li, ci, Bi⟩ := ti_child HTI.out HLen.out HRows.out hN0 hi
              subst ei
              have x1 := ci (p + 1) (by omega)
              rw [Int.toNat_natCast] at HS
              have e2 : (i : Int) < (k : Int) := by omega
              have e3 : (p : Int) < (n : Int) := by omega
              have e4 : (p : Int) + 1 < (n : Int) + 1 := by omega
              have e5 : ((p : Int) == (n : Int)) = false := beq_eq_false_iff_ne.2 (by omega)
              generalize vat f zz i (p + 1) = b at *
              clear HVp HTI ci Bi ha1 hb2
              go_wp2
              go_roundw
              case rel => exact ⟨p + 1, by omega, by go_num, HS⟩
              case measure => first | (simp [intOf]; done) | (simp [intOf]; omega)
            · obtain rfl : p = n := by omega
              rw [decide_eq_true (by rw [HZn.out]; exact Nat.le_refl _), Bool.true_or] at HS
              clear HVp HTI ha1 hb2
              go_wp2
              go_roundw
              case rel => exact ⟨p + 1, by omega, by go_num, HS⟩
              case measure => first | (simp [intOf]; done) | (simp [intOf]; omega)
          · as_aux_lemma =>
            change ∀ m, Hid (TI _ (World.setCell _ ⟨gw, p, none⟩ (.bool (untl (vat f zz y.toNat) (vat f zz z.toNat) true (zz.length - p) p))) _ _ _ _ _ _ _ _) at HSd
            obtain ⟨i, rfl, hi⟩ := nat_of (ha1 (by decide))
            obtain ⟨adi, gi, ei, bi, ri, li, ci, Bi⟩ := ti_child HTI.out HLen.out HRows.out hN0 hi
            obtain ⟨j, rfl, hj⟩ := nat_of (hb2 (by decide))
            obtain ⟨adj, gj, ej, bj, rj, lj, cj, Bj⟩ := ti_child HTI.out HLen.out HRows.out hN0 hj
            subst ei
            obtain rfl := Option.some.inj ej
            rw [Int.toNat_natCast, Int.toNat_natCast, HZn.out] at HSd
            have HU := Lib.hid (fun W (hb : Below wr.heap.size wr W) => (until_any (some ⟨gi, 0, none⟩) (n + 1) (some ⟨gj, 0, none⟩) (n + 1) (n + 1) n p true (vat f zz i) (vat f zz j) W (Bi.on hb) (Bj.on hb) (by omega) (by omega) (by omega)).mono (R' := fun e w' => e = .returned (.bool (untl (vat f zz i) (vat f zz j) true (n - p) p)) ∧ w' = W) fun e w' ⟨h1, h2⟩ => ⟨h1.out, h2⟩)
            generalize untl (vat f zz i) (vat f zz j) true (n - p) p = b at *
            have e2 : (i : Int) < (k : Int) := by omega
            have e3 : (j : Int) < (k : Int) := by omega
            clear HVp HTI ci Bi cj Bj ha1 hb2 ej HS
            go_wp2_with fail
            go_still_tail 16, (by kernel_rfl)
            still_call (HU.out _ (below_drewN (Below.refl _ _) 1))
            repeat still_step
            refine wpStill_nil ?_
            change wpList _ _ _ _ _ wr.drew
            go_wp2
            go_roundw
            case rel => exact ⟨p + 1, by omega, by go_num, HSd 1⟩
            case measure => first | (simp [intOf]; done) | (simp [intOf]; omega)
          · as_aux_lemma =>
            change ∀ m, Hid (TI _ (World.setCell _ ⟨gw, p, none⟩ (.bool (!untl (vat f zz y.toNat) (vat f zz z.toNat) false (zz.length - p) p))) _ _ _ _ _ _ _ _) at HSd
            obtain ⟨i, rfl, hi⟩ := nat_of (ha1 (by decide))
            obtain ⟨adi, gi, ei, bi, ri, li, ci, Bi⟩ := ti_child HTI.out HLen.out HRows.out hN0 hi
            obtain ⟨j, rfl, hj⟩ := nat_of (hb2 (by decide))
            obtain ⟨adj, gj, ej, bj, rj, lj, cj, Bj⟩ := ti_child HTI.out HLen.out HRows.out hN0 hj
            subst ei
            obtain rfl := Option.some.inj ej
            rw [Int.toNat_natCast, Int.toNat_natCast, HZn.out] at HSd
            have HU := Lib.hid (fun W (hb : Below wr.heap.size wr W) => (until_any (some ⟨gi, 0, none⟩) (n + 1) (some ⟨gj, 0, none⟩) (n + 1) (n + 1) n p false (vat f zz i) (vat f zz j) W (Bi.on hb) (Bj.on hb) (by omega) (by omega) (by omega)).mono (R' := fun e w' => e = .returned (.bool (untl (vat f zz i) (vat f zz j) false (n - p) p)) ∧ w' = W) fun e w' ⟨h1, h2⟩ => ⟨h1.out, h2⟩)
            generalize untl (vat f zz i) (vat f zz j) false (n - p) p = b at *
            have e2 : (i : Int) < (k : Int) := by omega
            have e3 : (j : Int) < (k : Int) := by omega
            clear HVp HTI ci Bi cj Bj ha1 hb2 ej HS
            go_wp2_with fail
            go_still_tail 17, (by kernel_rfl)
            still_call (HU.out _ (below_drewN (Below.refl _ _) 1))
            repeat still_step
            refine wpStill_nil ?_
            change wpList _ _ _ _ _ wr.drew
            go_wp2
            go_roundw
            case rel => exact ⟨p + 1, by omega, by go_num, HSd 1⟩
            case measure => first | (simp [intOf]; done) | (simp [intOf]; omega)
        · as_aux_lemma =>
          obtain rfl : p = n + 1 := by omega
          have HO := Lib.hid (ti_row HTI.out HVl.out)
          have HRl := Lib.hid HTI.out.2
          have hlen1 : (rs.map (Rc.brV (n + 1))).length < 1099511627776 := by rw [List.length_map, HLen.out]; omega
          have HL1 : Hid ((rs.map (Rc.brV (n + 1))).length = k) := by rw [Hid, List.length_map, HLen.out]
          have e7 : ¬ ((n : Int) + 1 ≤ (n : Int)) := by omega
          clear HTI ha1 hb2 hst
          go_wp2_with (at_builtin; refine Rc.own_brow (by rfl) _ _ (by rfl) (by rfl) HO.out (by rfl) (by rfl) hlen1 ?_)
          intro g8 cap8 w8 ho8
          simp only [List.length_map, HLen.out] at ho8 ⊢
          have HE : Hid (∃ A cap, Value.slice (some ⟨g8, 0, none⟩) (k + 1) cap8 = .slice A (k + 1) cap ∧ TO w w8 (n + 1) (.slice (some ⟨g8, 0, none⟩) (k + 1) cap8) (k + 1) (vat f zz)) :=
            ⟨_, _, rfl, rs ++ [(gw, V)], ownT_snoc HVl.out HRl.out ho8, by rw [List.length_append, HLen.out]; rfl, rowsM_snoc' HRows.out gw HLen.out HVv.out⟩
          clear ho8 HO
          go_wp2
          go_roundw
          case rel => exact ⟨k + 1, by omega, by go_num, HE⟩
          case measure => first | (simp [intOf]; done) | (simp [intOf]; omega)
    · obtain rfl : k = N := by omega
      have HE : Hid (TO w wr (n + 1) (.slice A k cap) k (vat f zz)) := ⟨rs, hT, hlen, hrows⟩
      clear HS hT hlen hrows
      go_wp2
      go_ret
      exact ⟨_, _, rfl, HE.out⟩
end Go.Proofs.YtnlkkfcjonchgaaDoor.Fm
