/- The walks of the reference's sets of states, as rows of bools. -/
import Derived.Test.YtnlkkfcjonchgaaDoorRefNfa
import Derived.Test.YtnlkkfcjonchgaaDoorNfaR
import Derived.Test.YtnlkkfcjonchgaaDoorDfaM
import Derived.Test.YtnlkkfcjonchgaaDoorBoolT
import Derived.Test.YtnlkkfcjonchgaaDoorFound
import Derived.Test.YtnlkkfcjonchgaaDoorReachL
import Derived.Test.YtnlkkfcjonchgaaDoorDfaR
namespace Go.Proofs.YtnlkkfcjonchgaaDoor.Nf
open Go.RowKit Go.IntWalk Go.Proofs.YtnlkkfcjonchgaaDoor.Wd Go.Proofs.YtnlkkfcjonchgaaDoor.Wo Go.Proofs.YtnlkkfcjonchgaaDoor.Df Go.Proofs.YtnlkkfcjonchgaaDoor.Rc

theorem put_miss {N : Nat} {p : Nat → Bool} {m : Int × Int × Int} (h : m.2.1 ≠ -1 ∨ p m.1.toNat = false) : bF N (put1 p m) = bF N p := bF_congr fun t _ => by
  unfold put1
  rcases h with h | h
  · rw [decide_eq_false h]; simp
  · rw [h]; simp
theorem put_hit {N : Nat} {p : Nat → Bool} {m : Int × Int × Int} (h : m.2.1 = -1) (h2 : p m.1.toNat = true) : (bF N p).set m.2.2.toNat true = bF N (put1 p m) := by
  rw [bF_set]
  refine bF_congr fun t _ => ?_
  unfold put1
  rw [decide_eq_true h, h2]
  by_cases e : t = m.2.2.toNat
  · rw [if_pos e]; simp [e]
  · rw [if_neg e, decide_eq_false e]; simp
theorem passP_snoc {l : List (Int × Int × Int)} {k : Nat} (hk : k < l.length) (p : Nat → Bool) : passP (l.take (k + 1)) p = put1 (passP (l.take k) p) l[k] := by
  unfold passP
  rw [List.take_succ_eq_append_getElem hk, List.foldl_append]; rfl
theorem passP_end {l : List (Int × Int × Int)} {k : Nat} (hk : l.length ≤ k) (p : Nat → Bool) : passP (l.take k) p = passP l p := by rw [List.take_of_length_le hk]
/-- The row of a set, with what the call holds besides. -/
def SInv (w0 wr : World) (g N gb : Nat) (cs : List Value) (es fs : List Ent) (q : Nat → Bool) : Prop := Own w0 wr (eBools (rowV g N) (bF N q) :: es) (eNfa gb cs :: fs)
theorem SInv.cell {w0 wr : World} {g N gb : Nat} {cs : List Value} {es fs : List Ent} {q : Nat → Bool} (h : SInv w0 wr g N gb cs es fs q) {t : Nat} (ht : t < N) : wr.cell? ⟨g, t, none⟩ = some (.bool (q t)) ∧ wr.frozen? ⟨g, t, none⟩ = false :=
  own_bools_cell (g := g) (n := N) (cap := N) (l := bF N q) h (List.mem_append_left _ List.mem_cons_self) (bF_length _ _) (bF_get _ ht)
theorem SInv.box {w0 wr : World} {g N gb : Nat} {cs : List Value} {es fs : List Ent} {q : Nat → Bool} (h : SInv w0 wr g N gb cs es fs q) {j : Nat} {u : Value} (hj : cs[j]? = some u) : wr.cell? ⟨gb, j, none⟩ = some u :=
  (ncell h (List.mem_append_right _ List.mem_cons_self) hj).1
theorem SInv.hit {w0 wr : World} {g N gb : Nat} {cs : List Value} {es fs : List Ent} {q : Nat → Bool} (h : SInv w0 wr g N gb cs es fs q) {m : Int × Int × Int} (h1 : m.2.1 = -1) (h2 : q m.1.toNat = true) : SInv w0 (wr.setCell ⟨g, m.2.2.toNat, none⟩ (.bool true)) g N gb cs es fs (put1 q m) := by
  unfold SInv
  rw [← put_hit h1 h2]
  exact own_bools_set h (bF_length _ _) _ true
theorem SInv.miss {w0 wr : World} {g N gb : Nat} {cs : List Value} {es fs : List Ent} {q : Nat → Bool} (h : SInv w0 wr g N gb cs es fs q) {m : Int × Int × Int} (h1 : m.2.1 ≠ -1 ∨ q m.1.toNat = false) : SInv w0 wr g N gb cs es fs (put1 q m) := by
  unfold SInv
  rw [put_miss h1]
  exact h
set_option maxRecDepth 100000 in
set_option maxHeartbeats 4000000 in
theorem silent_any {v : Value} {a : Nfa} {w0 w : World} {g N : Nat} {es fs : List Ent} {p : Nat → Bool} (h : NfaAt w0 w0.heap.size v a) (hg : Good a) (hN : a.n = (N : Int)) (ho : Own w0 w (eBools (rowV g N) (bF N p) :: es) fs) :
    Calls Tryd.prog 68 #[v, rowV g N] w fun e w' => Hid (e = .returned (rowV g N) ∧ Own w0 w' (eBools (rowV g N) (bF N (itP a N p)) :: es) fs) := by
  obtain ⟨L, n, A, c, M, cm, F, cf, rfl, h⟩ := h
  obtain rfl : n = (N : Int) := h.en.symm.trans hN
  obtain ⟨w1, hw1⟩ : ∃ w1, w1 = w.alloc (.cells #[.int .i64 L, .int .i64 (N : Int), .slice A a.st.length c, .slice M a.mv.length cm, .slice F a.fin.length cf] 56) := ⟨_, rfl⟩
  have HI0 : Hid (SInv w0 w1 g N w.heap.size [.int .i64 L, .int .i64 (N : Int), .slice A a.st.length c, .slice M a.mv.length cm, .slice F a.fin.length cf] es fs (itP a 0 p)) := by
    rw [hw1]; exact (own_nfa_new ho _ _ _ _ _).fin
  have HW := Lib.hid hw1
  have HN := Lib.hid h
  have hkm : a.mv.length ≤ 240 := hg.m240
  have hN40 : N ≤ 40 := by have := hg.n40; omega
  have HMv : Hid (∀ m ∈ a.mv, isMv a m) := hg.mv
  have HZ : Hid (∀ k, a.mv.length ≤ k → ∀ q, passP (a.mv.take k) q = passP a.mv q) := fun k hk q => passP_end hk q
  clear hw1 h ho hg
  generalize hks : a.st.length = ks at *
  generalize hkf : a.fin.length = kf at *
  generalize hl : a.mv.length = km at *
  have HL := Lib.hid hl
  clear hks hkf hl
  go_enter Tryd.func68, Tryd.ntmps68
  go_wp2
  rw [← HW.out]
  clear HW
  go_loopw [5] (fun i wr => ∃ (k : Nat), k ≤ N ∧ i = .int .i64 k ∧ Hid (SInv w0 wr g N w.heap.size [.int .i64 L, .int .i64 (N : Int), .slice A ks c, .slice M km cm, .slice F kf cf] es fs (itP a k p))) (fun i _ => N - (intOf i).toNat)
  case atStart => exact ⟨0, by omega, rfl, HI0⟩
  case round =>
    clear HI0
    obtain ⟨k, hk, rfl, HI⟩ := hrel
    have hc1 := HI.out.box (j := 1) rfl
    by_cases hkN : k < N
    · have e3 : (k : Int) < (N : Int) := by omega
      have HI1 : Hid (SInv w0 wr g N w.heap.size [.int .i64 L, .int .i64 (N : Int), .slice A ks c, .slice M km cm, .slice F kf cf] es fs (passP (a.mv.take 0) (itP a k p))) := HI.out
      go_wp2
      clear hc1
      go_loopw [6] (fun i wr => ∃ (j : Nat), j ≤ km ∧ i = .int .i64 j ∧ Hid (SInv w0 wr g N w.heap.size [.int .i64 L, .int .i64 (N : Int), .slice A ks c, .slice M km cm, .slice F kf cf] es fs (passP (a.mv.take j) (itP a k p)))) (fun i _ => km - (intOf i).toNat)
      case atStart => exact ⟨0, by omega, rfl, HI1⟩
      case round =>
        clear HI HI1
        obtain ⟨j, hj, rfl, HI⟩ := hrel
        have hc3 := HI.out.box (j := 3) rfl
        by_cases hlt : j < km
        · have hlt' : j < a.mv.length := by rw [HL.out]; exact hlt
          obtain ⟨ad, e, hadb, m0, m1, m2⟩ := (HN.out.on (Own.below HI.out)).mv.at_ (List.getElem?_eq_getElem hlt')
          subst e
          obtain ⟨hf, ht, hl1, hl2⟩ := HMv.out _ (List.getElem_mem hlt')
          have HSt := Lib.hid (passP_snoc hlt' (itP a k p))
          obtain ⟨⟨x, y, z⟩, hq⟩ : ∃ q, q = a.mv[j] := ⟨_, rfl⟩
          rw [← hq] at m0 m1 m2 hf ht HSt
          have hf1 : 0 ≤ x := hf.1
          have hf2 : x < (N : Int) := by have q : x < a.n := hf.2; rw [hN] at q; exact q
          have ht1 : 0 ≤ z := ht.1
          have ht2 : z < (N : Int) := by have q : z < a.n := ht.2; rw [hN] at q; exact q
          try simp only at m0 m1 m2
          clear hf ht
          obtain ⟨qx, rfl⟩ := Int.eq_ofNat_of_zero_le hf1
          obtain ⟨qz, rfl⟩ := Int.eq_ofNat_of_zero_le ht1
          obtain ⟨hx1, hx2⟩ := HI.out.cell (t := qx) (by omega)
          obtain ⟨hz1, hz2⟩ := HI.out.cell (t := qz) (by omega)
          have e4 : (j : Int) < (km : Int) := by omega
          clear hq hlt' hl1 hl2
          generalize hQ : passP (a.mv.take j) (itP a k p) = Q at *
          clear hQ
          by_cases hy : y = -1
          · subst hy
            rcases hqv : Q qx with _ | _
            · have HN1 : Hid (SInv w0 wr g N w.heap.size [.int .i64 L, .int .i64 (N : Int), .slice A ks c, .slice (some ad) km cm, .slice F kf cf] es fs (passP (a.mv.take (j + 1)) (itP a k p))) := by
                rw [HSt.out]; exact HI.out.miss (.inr hqv)
              rw [hqv] at hx1
              clear HI HSt hz1 hz2 hx2 hqv
              go_wp2
              go_roundw
              case rel => exact ⟨j + 1, by omega, by go_num, HN1⟩
              case measure => simp [intOf]; omega
            · have HN1 : Hid (SInv w0 (wr.setCell ⟨g, qz, none⟩ (.bool true)) g N w.heap.size [.int .i64 L, .int .i64 (N : Int), .slice A ks c, .slice (some ad) km cm, .slice F kf cf] es fs (passP (a.mv.take (j + 1)) (itP a k p))) := by
                rw [HSt.out]; exact HI.out.hit (m := ((qx : Int), -1, (qz : Int))) rfl hqv
              rw [hqv] at hx1
              clear HI HSt hx2 hqv
              generalize Q qz = old at *
              go_wp2
              go_roundw
              case rel => exact ⟨j + 1, by omega, by go_num, HN1⟩
              case measure => simp [intOf]; omega
          · have HN1 : Hid (SInv w0 wr g N w.heap.size [.int .i64 L, .int .i64 (N : Int), .slice A ks c, .slice (some ad) km cm, .slice F kf cf] es fs (passP (a.mv.take (j + 1)) (itP a k p))) := by
              rw [HSt.out]; exact HI.out.miss (.inl hy)
            clear HI HSt hz1 hz2 hx1 hx2
            have hy' : (y == -1) = false := by simp [hy]
            go_wp2
            go_roundw
            case rel => exact ⟨j + 1, by omega, by go_num, HN1⟩
            case measure => simp [intOf]; omega
        · obtain rfl : j = km := by omega
          have HN1 : Hid (SInv w0 wr g N w.heap.size [.int .i64 L, .int .i64 (N : Int), .slice A ks c, .slice M j cm, .slice F kf cf] es fs (itP a (k + 1) p)) := by
            have q := HZ.out j (Nat.le_refl _) (itP a k p)
            have q2 := HI.out
            rw [q] at q2
            exact q2
          clear HI
          go_wp2
          go_roundw
          case rel => exact ⟨k + 1, by omega, by go_num, HN1⟩
          case measure => simp [intOf]; omega
    · obtain rfl : k = N := by omega
      have HEnd : Hid (Own w0 wr (eBools (rowV g k) (bF k (itP a k p)) :: es) fs) := HI.out.weak (fun e he => List.mem_cons_of_mem _ he)
      clear HI
      go_wp2
      go_ret
      exact ⟨rfl, HEnd.out⟩

/-! ### begin, step, final -/
theorem row_clo {a : Nfa} (g : Good a) {N : Nat} (hN : a.n = (N : Int)) {X : List Nat} (hX : ∀ s ∈ X, s < a.n.toNat) : bF N (itP a N (fun s => decide (s ∈ X))) = rowQ a (clo a X) := by
  have e : a.n.toNat = N := by rw [hN]; rfl
  have q : bF a.n.toNat (itP a a.n.toNat (fun s => decide (s ∈ X))) = rowQ a (clo a X) := bF_congr fun t _ => (clo_bits g hX).symm
  rw [e] at q
  exact q
theorem row_add (N : Nat) (Y : List Nat) (q : Nat) : (bF N (fun t => decide (t ∈ Y))).set q true = bF N (fun t => decide (t ∈ Y ++ [q])) := by
  rw [bF_set]
  refine bF_congr fun t _ => ?_
  by_cases e : t = q
  · rw [if_pos e]; simp [e]
  · rw [if_neg e]
    refine Bool.eq_iff_iff.2 ?_
    rw [decide_eq_true_iff, decide_eq_true_iff, List.mem_append]
    constructor
    · exact .inl
    · rintro (h | h)
      · exact h
      · exact absurd (List.mem_singleton.1 h) e
theorem row_empty (N : Nat) : List.replicate N false = bF N (fun t => decide (t ∈ ([] : List Nat))) := by
  rw [← bF_false]; exact bF_congr fun t _ => by simp
/-- What reads as a set. -/
def RowAt (w : World) (g N : Nat) (X : List Nat) : Prop := g < w.heap.size ∧ ∀ t, t < N → w.cell? ⟨g, t, none⟩ = some (.bool (decide (t ∈ X)))
theorem RowAt.on {w w' : World} {g N : Nat} {X : List Nat} (h : RowAt w g N X) (hb : Below w.heap.size w w') : RowAt w' g N X :=
  ⟨Nat.lt_of_lt_of_le h.1 hb.size, fun t ht => (hb.cell (p := ⟨g, t, none⟩) h.1).trans (h.2 t ht)⟩
theorem own_rowAt {w0 w : World} {g N : Nat} {a : Nfa} {X : List Nat} {es fs : List Ent} (hN : a.n = (N : Int)) (h1 : 0 < N) (h : Own w0 w es fs) (hm : eBools (rowV g N) (rowQ a X) ∈ es ++ fs) : RowAt w g N X := by
  have e : a.n.toNat = N := by rw [hN]; rfl
  have hl : (rowQ a X).length = N := by rw [rowQ_len, e]
  have q : ∀ t, t < N → w.cell? ⟨g, t, none⟩ = some (.bool (decide (t ∈ X))) := fun t ht => (own_bools_cell (g := g) (n := N) (cap := N) h hm hl (rowQ_get X (by omega))).1
  refine ⟨?_, q⟩
  have := World.block_lt_of_cell? w _ (q 0 h1)
  exact this
set_option maxRecDepth 100000 in
set_option maxHeartbeats 4000000 in
theorem begin_any (v : Value) (a : Nfa) (w : World) (N : Nat) (h : NfaAt w w.heap.size v a) (hg : Good a) (hN : a.n = (N : Int)) :
    Calls Tryd.prog 44 #[v] w fun e w' => Hid (∃ g, e = .returned (rowV g N) ∧ Own w w' [eBools (rowV g N) (rowQ a (beg a))] []) := by
  have HV := h
  obtain ⟨L, n, A, c, M, cm, F, cf, rfl, h⟩ := h
  obtain rfl : n = (N : Int) := h.en.symm.trans hN
  obtain ⟨w1, hw1, hB1, hs1, hX1, hd1⟩ := box_nfa w h
  have HB := Lib.hid hB1
  have HW := Lib.hid hw1
  have HX := Lib.hid hX1
  have HSt := Lib.hid hd1.st
  have HSil := Lib.hid (fun (W : World) (g : Nat) (q : Nat → Bool) (ho : Own w1 W [eBools (rowV g N) (bF N q)] []) => silent_any (HV.on hB1) hg hN ho)
  have HQ : Hid (∀ x ∈ a.st, isQ a x) := hg.st
  have HEnd : Hid (∀ k, a.st.length ≤ k → bF N (itP a N (fun s => decide (s ∈ (a.st.take k).map Int.toNat))) = rowQ a (beg a)) := fun k hk => by
    rw [List.take_of_length_le hk]
    exact row_clo hg hN fun s hs => st_lt hg hs
  have hN40 : N ≤ 40 := by have := hg.n40; omega
  have hk40 : a.st.length ≤ 40 := hg.s40
  have hc1 := hX1.c1
  clear h hw1 hB1 hs1 hX1 hd1 hg HV
  generalize hks : a.st.length = ks at *
  have HS := Lib.hid hks
  generalize a.mv.length = km at *
  generalize a.fin.length = kf at *
  clear hks
  go_enter Tryd.func44, Tryd.ntmps44
  go_wp2_with (at_make; refine mk_bools rfl _ _ rfl N rfl rfl (by omega) ?_)
  rw [← HW.out]
  clear HW
  intro w4 ho4
  rw [row_empty] at ho4
  have HI0 : Hid (Own w1 w4 [eBools (rowV (w.heap.size + 1) N) (bF N (fun s => decide (s ∈ (a.st.take 0).map Int.toNat)))] []) := ho4
  clear ho4 hc1
  generalize w.heap.size + 1 = gw at *
  go_wp2
  go_loopw [4] (fun i wr => ∃ (k : Nat), k ≤ ks ∧ i = .int .i64 k ∧ Hid (Own w1 wr [eBools (rowV gw N) (bF N (fun s => decide (s ∈ (a.st.take k).map Int.toNat)))] [])) (fun i _ => ks - (intOf i).toNat)
  case atStart => exact ⟨0, by omega, rfl, HI0⟩
  case round =>
    clear HI0
    obtain ⟨k, hk, rfl, HI⟩ := hrel
    have hX := HX.out.on HI.out.below
    have hc2 := hX.c2
    by_cases hlt : k < ks
    · have hlt' : k < a.st.length := by rw [HS.out]; exact hlt
      obtain ⟨ad, e, hadb, hcell, _⟩ := (HSt.out.on HI.out.below).get (List.getElem?_eq_getElem hlt')
      subst e
      have hq := HQ.out _ (List.getElem_mem hlt')
      obtain ⟨x, hx⟩ : ∃ x, x = a.st[k] := ⟨_, rfl⟩
      have hf1 : 0 ≤ x := by rw [hx]; exact hq.1
      have hf2 : x < (N : Int) := by have q := hq.2; rw [hN, ← hx] at q; exact q
      rw [← hx] at hcell
      have HT : Hid ((a.st.take (k + 1)).map Int.toNat = (a.st.take k).map Int.toNat ++ [x.toNat]) := by
        rw [Hid, List.take_succ_eq_append_getElem hlt', List.map_append, hx]; rfl
      obtain ⟨q, rfl⟩ := Int.eq_ofNat_of_zero_le hf1
      obtain ⟨hk1, hk2⟩ := own_bools_cell (g := gw) (n := N) (cap := N) (l := bF N (fun s => decide (s ∈ (a.st.take k).map Int.toNat))) HI.out (by simp) (bF_length _ _) (bF_get _ (show q < N by omega))
      have HN1 : Hid (Own w1 (wr.setCell ⟨gw, q, none⟩ (.bool true)) [eBools (rowV gw N) (bF N (fun s => decide (s ∈ (a.st.take (k + 1)).map Int.toNat)))] []) := by
        rw [HT.out, ← row_add]
        exact own_bools_set HI.out (bF_length _ _) q true
      have e3 : (k : Int) < (ks : Int) := by omega
      clear HI HT hx hq hX hlt'
      generalize decide (q ∈ (a.st.take k).map Int.toNat) = old at *
      go_wp2
      go_roundw
      case rel => exact ⟨k + 1, by omega, by go_num, HN1⟩
      case measure => simp [intOf]; omega
    · have HE := Lib.hid (HEnd.out k (by omega))
      have HC := Lib.hid (HSil.out wr gw _ HI.out)
      rw [HE.out] at HC
      have hc0 := hX.c0
      have hc1 := hX.c1
      have hc3 := hX.c3
      have hc4 := hX.c4
      clear HI HE hX HEnd
      go_wp2_with fail
      refine HC.out.mono ?_
      rintro e w5 he
      obtain ⟨rfl, ho⟩ := he.out
      have HO := Lib.hid (ho.base HB.out)
      clear ho he HC hc0 hc1 hc2 hc3 hc4
      go_wp2
      go_ret
      exact ⟨_, rfl, HO.out⟩
set_option maxRecDepth 100000 in
set_option maxHeartbeats 4000000 in
theorem step_any (v : Value) (a : Nfa) (X : List Nat) (y : Int) (gs : Nat) (w : World) (N : Nat) (h : NfaAt w w.heap.size v a) (hg : Good a) (hN : a.n = (N : Int)) (hR : RowAt w gs N X) :
    Calls Tryd.prog 45 #[v, rowV gs N, .int .i64 y] w fun e w' => Hid (∃ g, e = .returned (rowV g N) ∧ Own w w' [eBools (rowV g N) (rowQ a (goN a X y))] []) := by
  have HV := h
  obtain ⟨L, n, A, c, M, cm, F, cf, rfl, h⟩ := h
  obtain rfl : n = (N : Int) := h.en.symm.trans hN
  obtain ⟨w1, hw1, hB1, hs1, hX1, hd1⟩ := box_nfa w h
  have HB := Lib.hid hB1
  have HW := Lib.hid hw1
  have HX := Lib.hid hX1
  have HMv := Lib.hid hd1.mv
  have HR := Lib.hid (hR.on hB1)
  have HSil := Lib.hid (fun (W : World) (g : Nat) (q : Nat → Bool) (ho : Own w1 W [eBools (rowV g N) (bF N q)] []) => silent_any (HV.on hB1) hg hN ho)
  have HQ : Hid (∀ m ∈ a.mv, isMv a m) := hg.mv
  have HEnd : Hid (∀ k, a.mv.length ≤ k → bF N (itP a N (fun s => decide (s ∈ toK a X y k))) = rowQ a (goN a X y)) := fun k hk => by
    rw [toK_all hk]
    exact row_clo hg hN fun s hs => to_lt hg hs
  have hN40 : N ≤ 40 := by have := hg.n40; omega
  have hk40 : a.mv.length ≤ 240 := hg.m240
  have hc1 := hX1.c1
  clear h hw1 hB1 hs1 hX1 hd1 hg HV hR
  generalize hks : a.mv.length = km at *
  have HS := Lib.hid hks
  generalize a.st.length = ks at *
  generalize a.fin.length = kf at *
  clear hks
  go_enter Tryd.func45, Tryd.ntmps45
  go_wp2_with (at_make; refine mk_bools rfl _ _ rfl N rfl rfl (by omega) ?_)
  rw [← HW.out]
  clear HW
  intro w4 ho4
  rw [row_empty] at ho4
  have HI0 : Hid (Own w1 w4 [eBools (rowV (w.heap.size + 1) N) (bF N (fun s => decide (s ∈ toK a X y 0)))] []) := ho4
  clear ho4 hc1
  generalize w.heap.size + 1 = gw at *
  go_wp2
  go_loopw [8] (fun i wr => ∃ (k : Nat), k ≤ km ∧ i = .int .i64 k ∧ Hid (Own w1 wr [eBools (rowV gw N) (bF N (fun s => decide (s ∈ toK a X y k)))] [])) (fun i _ => km - (intOf i).toNat)
  case atStart => exact ⟨0, by omega, rfl, HI0⟩
  case round =>
    clear HI0
    obtain ⟨k, hk, rfl, HI⟩ := hrel
    have hX := HX.out.on HI.out.below
    have hc3 := hX.c3
    by_cases hlt : k < km
    · have hlt' : k < a.mv.length := by rw [HS.out]; exact hlt
      obtain ⟨ad, e, hadb, m0, m1, m2⟩ := (HMv.out.on HI.out.below).at_ (List.getElem?_eq_getElem hlt')
      subst e
      obtain ⟨hf, ht, hl1, hl2⟩ := HQ.out _ (List.getElem_mem hlt')
      have HHit := Lib.hid (toK_hit (a := a) (X := X) (c := y) hlt')
      have HMiss := Lib.hid (toK_miss (a := a) (X := X) (c := y) hlt')
      obtain ⟨⟨x, l, z⟩, hq⟩ : ∃ q, q = a.mv[k] := ⟨_, rfl⟩
      rw [← hq] at m0 m1 m2 hf ht HHit HMiss
      have hf1 : 0 ≤ x := hf.1
      have hf2 : x < (N : Int) := by have q : x < a.n := hf.2; rw [hN] at q; exact q
      have ht1 : 0 ≤ z := ht.1
      have ht2 : z < (N : Int) := by have q : z < a.n := ht.2; rw [hN] at q; exact q
      try simp only at m0 m1 m2
      clear hf ht hl1 hl2 hq hlt'
      obtain ⟨qx, rfl⟩ := Int.eq_ofNat_of_zero_le hf1
      obtain ⟨qz, rfl⟩ := Int.eq_ofNat_of_zero_le ht1
      have hx1 := (HR.out.on HI.out.below).2 qx (by omega)
      have e4 : (k : Int) < (km : Int) := by omega
      by_cases hy : l = y
      · subst hy
        by_cases hqv : qx ∈ X
        · obtain ⟨hz1, hz2⟩ := own_bools_cell (g := gw) (n := N) (cap := N) (l := bF N (fun s => decide (s ∈ toK a X l k))) HI.out (by simp) (bF_length _ _) (bF_get _ (show qz < N by omega))
          have HN1 : Hid (Own w1 (wr.setCell ⟨gw, qz, none⟩ (.bool true)) [eBools (rowV gw N) (bF N (fun s => decide (s ∈ toK a X l (k + 1))))] []) := by
            rw [HHit.out rfl hqv, ← row_add]
            exact own_bools_set HI.out (bF_length _ _) qz true
          rw [decide_eq_true hqv] at hx1
          clear HI HHit HMiss hqv hX
          generalize decide (qz ∈ toK a X l k) = old at *
          go_wp2
          go_roundw
          case rel => exact ⟨k + 1, by omega, by go_num, HN1⟩
          case measure => simp [intOf]; omega
        · have HN1 : Hid (Own w1 wr [eBools (rowV gw N) (bF N (fun s => decide (s ∈ toK a X l (k + 1))))] []) := by
            rw [HMiss.out fun q => hqv q.2]; exact HI.out
          rw [decide_eq_false hqv] at hx1
          clear HI HHit HMiss hqv hX
          go_wp2
          go_roundw
          case rel => exact ⟨k + 1, by omega, by go_num, HN1⟩
          case measure => simp [intOf]; omega
      · have HN1 : Hid (Own w1 wr [eBools (rowV gw N) (bF N (fun s => decide (s ∈ toK a X y (k + 1))))] []) := by
          rw [HMiss.out fun q => hy q.1]; exact HI.out
        have hy' : (l == y) = false := by simp [hy]
        clear HI HHit HMiss hX hx1
        go_wp2
        go_roundw
        case rel => exact ⟨k + 1, by omega, by go_num, HN1⟩
        case measure => simp [intOf]; omega
    · have HE := Lib.hid (HEnd.out k (by omega))
      have HC := Lib.hid (HSil.out wr gw _ HI.out)
      rw [HE.out] at HC
      have hc0 := hX.c0
      have hc1 := hX.c1
      have hc2 := hX.c2
      have hc4 := hX.c4
      clear HI HE hX HEnd
      go_wp2_with fail
      refine HC.out.mono ?_
      rintro e w5 he
      obtain ⟨rfl, ho⟩ := he.out
      have HO := Lib.hid (ho.base HB.out)
      clear ho he HC hc0 hc1 hc2 hc3 hc4
      go_wp2
      go_ret
      exact ⟨_, rfl, HO.out⟩
theorem finN_yes {a : Nfa} {X : List Nat} {q : Nat} (h : (q : Int) ∈ a.fin) (h2 : q ∈ X) : finN a X = true := List.any_eq_true.2 ⟨q, h2, decide_eq_true h⟩
theorem finN_no {a : Nfa} {X : List Nat} (h : ∀ x ∈ a.fin, x.toNat ∉ X) : finN a X = false := by
  rcases e : finN a X with _ | _
  · rfl
  · obtain ⟨q, h1, h2⟩ := List.any_eq_true.1 e
    exact absurd h1 (h _ (of_decide_eq_true h2))
set_option maxRecDepth 100000 in
set_option maxHeartbeats 4000000 in
theorem final_any (v : Value) (a : Nfa) (X : List Nat) (gs : Nat) (w : World) (N : Nat) (h : NfaAt w w.heap.size v a) (hg : Good a) (hN : a.n = (N : Int)) (hR : RowAt w gs N X) :
    Calls Tryd.prog 46 #[v, rowV gs N] w fun e w' => e = .returned (.bool (finN a X)) ∧ Below w.heap.size w w' := by
  obtain ⟨L, n, A, c, M, cm, F, cf, rfl, h⟩ := h
  obtain rfl : n = (N : Int) := h.en.symm.trans hN
  obtain ⟨w1, hw1, hB1, hs1, hX1, hd1⟩ := box_nfa w h
  have HB := Lib.hid hB1
  have HW := Lib.hid hw1
  have HX := Lib.hid hX1
  have HFi := Lib.hid hd1.fin
  have HR := Lib.hid (hR.on hB1)
  have HQ : Hid (∀ x ∈ a.fin, isQ a x) := hg.fin
  have hk40 : a.fin.length ≤ 40 := hg.f40
  have HI0 : Hid (∀ x ∈ a.fin.take 0, x.toNat ∉ X) := by simp [Hid]
  have HB0 : Hid (Below w1.heap.size w1 w1) := Below.refl _ _
  clear h hw1 hB1 hs1 hX1 hd1 hg hR
  generalize hks : a.fin.length = kf at *
  have HS := Lib.hid hks
  generalize a.st.length = ks at *
  generalize a.mv.length = km at *
  clear hks
  go_enter Tryd.func46, Tryd.ntmps46
  go_wp2
  rw [← HW.out]
  clear HW
  go_loopw [5] (fun i wr => ∃ (k : Nat), k ≤ kf ∧ i = .int .i64 k ∧ Hid (Below w1.heap.size w1 wr) ∧ Hid (∀ x ∈ a.fin.take k, x.toNat ∉ X)) (fun i _ => kf - (intOf i).toNat)
  case atStart => exact ⟨0, by omega, rfl, HB0, HI0⟩
  case round =>
    clear HI0 HB0
    obtain ⟨k, hk, rfl, HBr, HI⟩ := hrel
    have hc4 := (HX.out.on HBr.out).c4
    have HB2 := Lib.hid (HB.out.trans (HBr.out.mono HB.out.size))
    by_cases hlt : k < kf
    · have hlt' : k < a.fin.length := by rw [HS.out]; exact hlt
      obtain ⟨ad, e, hadb, hcell, _⟩ := (HFi.out.on HBr.out).get (List.getElem?_eq_getElem hlt')
      subst e
      have HMem := Lib.hid (List.getElem_mem hlt')
      have hq := HQ.out _ (List.getElem_mem hlt')
      have HUn := Lib.hid (fun hp => all_take_succ (P := fun x : Int => x.toNat ∉ X) HI.out hlt' hp)
      obtain ⟨x, hx⟩ : ∃ x, x = a.fin[k] := ⟨_, rfl⟩
      rw [← hx] at hcell HMem HUn
      have hf1 : 0 ≤ x := by rw [hx]; exact hq.1
      have hf2 : x < (N : Int) := by have q := hq.2; rw [hN, ← hx] at q; exact q
      obtain ⟨q, rfl⟩ := Int.eq_ofNat_of_zero_le hf1
      have hx1 := (HR.out.on HBr.out).2 q (by omega)
      have e3 : (k : Int) < (kf : Int) := by omega
      by_cases hqv : q ∈ X
      · have HE := Lib.hid (finN_yes HMem.out hqv)
        rw [decide_eq_true hqv] at hx1
        clear HI hqv hx hq hlt' HUn HMem
        go_wp2
        go_ret
        exact ⟨by rw [HE.out]; rfl, HB2.out⟩
      · have HN1 := Lib.hid (HUn.out hqv)
        rw [decide_eq_false hqv] at hx1
        clear HI hqv hx hq hlt' HUn HMem
        go_wp2
        go_roundw
        case rel => exact ⟨k + 1, by omega, by go_num, HBr, HN1⟩
        case measure => simp [intOf]; omega
    · have HE := Lib.hid (finN_no (all_take_end HI.out (show a.fin.length ≤ k by rw [HS.out]; omega)))
      clear HI
      go_wp2
      go_ret
      exact ⟨by rw [HE.out]; rfl, HB2.out⟩
theorem rset_take {a : Nfa} {X : List Nat} {z : List Int} {k : Nat} (h : k < z.length) : runN a X (z.take (k + 1)) = goN a (runN a X (z.take k)) z[k] := by
  unfold runN
  rw [List.take_succ_eq_append_getElem h, List.foldl_append]; rfl
theorem runN_end {a : Nfa} {X : List Nat} {z : List Int} {k : Nat} (h : z.length ≤ k) : runN a X (z.take k) = runN a X z := by rw [List.take_of_length_le h]
end Go.Proofs.YtnlkkfcjonchgaaDoor.Nf
