/- The walk of the reference's same: two rows of bools. For the walk of the reference's NfaMake: what is found over rows of bools, and what is owned on the way. The walk of the reference's NfaMake. -/
import Derived.Test.YtnlkkfcjonchgaaDoorRefSet
import Derived.Test.YtnlkkfcjonchgaaDoorNfaC
import Derived.Test.YtnlkkfcjonchgaaDoorRefPair

namespace Go.Proofs.YtnlkkfcjonchgaaDoor.Nf
open Go.RowKit Go.IntWalk Go.Proofs.YtnlkkfcjonchgaaDoor.Wd Go.Proofs.YtnlkkfcjonchgaaDoor.Wo Go.Proofs.YtnlkkfcjonchgaaDoor.Df Go.Proofs.YtnlkkfcjonchgaaDoor.Rc

/-- What reads as a row of bools. -/
def RowL (w : World) (g N : Nat) (l : List Bool) : Prop := l.length = N ∧ g < w.heap.size ∧ ∀ t x, l[t]? = some x → w.cell? ⟨g, t, none⟩ = some (.bool x)
theorem RowL.on {w w' : World} {g N : Nat} {l : List Bool} (h : RowL w g N l) (hb : Below w.heap.size w w') : RowL w' g N l :=
  ⟨h.1, Nat.lt_of_lt_of_le h.2.1 hb.size, fun t x ht => (hb.cell (p := ⟨g, t, none⟩) h.2.1).trans (h.2.2 t x ht)⟩
theorem take_both {l m : List Bool} {k : Nat} (h : l.take k = m.take k) (e : l[k]? = m[k]?) : l.take (k + 1) = m.take (k + 1) := by
  rw [List.take_add_one, List.take_add_one, h, e]
theorem take_all {l m : List Bool} {k N : Nat} (hl : l.length = N) (hm : m.length = N) (hk : N ≤ k) (h : l.take k = m.take k) : l = m := by
  rw [List.take_of_length_le (by omega), List.take_of_length_le (by omega)] at h; exact h
set_option maxRecDepth 100000 in
set_option maxHeartbeats 2000000 in
theorem rsame_any (g h N : Nat) (l m : List Bool) (w : World) (hl : RowL w g N l) (hm : RowL w h N m) (hN : N ≤ 1000) :
    Calls Tryd.prog 21 #[rowV g N, rowV h N] w fun e w' => e = .returned (.bool (decide (l = m))) ∧ Below w.heap.size w w' := by
  have HL := Lib.hid hl
  have HM := Lib.hid hm
  have HT : Hid (l.take 0 = m.take 0) := rfl
  have HB : Hid (Below w.heap.size w w) := Below.refl _ _
  clear hl hm
  go_enter Tryd.func21, Tryd.ntmps21
  go_wp2
  go_loopw [5] (fun i wr => ∃ (k : Nat), k ≤ N ∧ i = .int .i64 k ∧ Hid (Below w.heap.size w wr) ∧ Hid (l.take k = m.take k)) (fun i _ => N - (intOf i).toNat)
  case atStart => exact ⟨0, by omega, rfl, HB, HT⟩
  case round =>
    clear HT HB
    obtain ⟨k, hk, rfl, HB, HT⟩ := hrel
    by_cases hlt : k < N
    · obtain ⟨x, hx⟩ : ∃ x, l[k]? = some x := ⟨_, List.getElem?_eq_getElem (by rw [HL.out.1]; exact hlt)⟩
      obtain ⟨y, hy⟩ : ∃ y, m[k]? = some y := ⟨_, List.getElem?_eq_getElem (by rw [HM.out.1]; exact hlt)⟩
      have hc1 := (HL.out.on HB.out).2.2 k x hx
      have hc2 := (HM.out.on HB.out).2.2 k y hy
      have e3 : (k : Int) < (N : Int) := by omega
      have HBd := Lib.hid (HB.out.drew)
      by_cases hxy : x = y
      · subst hxy
        have HN := Lib.hid (take_both HT.out (hx.trans hy.symm))
        have hne : (x != x) = false := by cases x <;> rfl
        have hbb : (x == x) = true := beq_self_eq_true _
        clear hx hy HT
        go_wp2
        go_region
        go_wp2
        go_roundw
        case rel => exact ⟨k + 1, by omega, by go_num, HBd, HN⟩
        case measure => simp [intOf]; omega
      · have HE : Hid (decide (l = m) = false) := decide_eq_false fun q => hxy (by rw [q, hy] at hx; exact (Option.some.inj hx).symm)
        have hne : (x != y) = true := by cases x <;> cases y <;> first | rfl | exact absurd rfl hxy
        have hbb : (x == y) = false := by cases x <;> cases y <;> first | rfl | exact absurd rfl hxy
        clear hx hy HT hxy
        go_wp2
        go_region
        go_wp2
        go_ret
        exact ⟨by rw [HE.out]; rfl, HBd.out⟩
    · have HE : Hid (decide (l = m) = true) := decide_eq_true (take_all HL.out.1 HM.out.1 (by omega) HT.out)
      clear HT
      go_wp2
      go_ret
      exact ⟨by rw [HE.out]; rfl, HB.out⟩
end Go.Proofs.YtnlkkfcjonchgaaDoor.Nf

namespace Go.Proofs.YtnlkkfcjonchgaaDoor.Nf
open Go.RowKit Go.IntWalk Go.Proofs.YtnlkkfcjonchgaaDoor.Wd Go.Proofs.YtnlkkfcjonchgaaDoor.Wo Go.Proofs.YtnlkkfcjonchgaaDoor.Df Go.Proofs.YtnlkkfcjonchgaaDoor.Rc

theorem tb_get {a : Nfa} (r : List Bool) {c : Nat} (hc : c < a.L.toNat) : (TB a r)[c]? = some (rowQ a (goN a (decB a r) (c : Int))) := by
  unfold TB T
  rw [List.getElem?_map, List.getElem?_map, List.getElem?_range hc]; rfl
theorem tb_len (a : Nfa) (r : List Bool) : (TB a r).length = a.L.toNat := by simp [TB, T]
theorem tb_row {a : Nfa} {r t : List Bool} (h : t ∈ TB a r) : t.length = a.n.toNat := by
  unfold TB at h
  obtain ⟨X, _, rfl⟩ := List.mem_map.1 h
  exact rowQ_len a X
theorem rch_row {a : Nfa} {r : List Bool} (h : Rch (TB a) (rowQ a (beg a)) r) : r.length = a.n.toNat := by
  induction h with
  | base => exact rowQ_len a _
  | next _ ht _ => exact tb_row ht
def finB (a : Nfa) (r : List Bool) : Bool := finN a (decB a r)
/-- What the reference makes over rows is what is made. -/
theorem makeOut_rows {a : Nfa} (g : Good a) : explOut a.L (TB a) (rowQ a (beg a)) (finB a) = makeOut a := by
  rw [makeOut_ok (nchk_iff.2 g)]
  exact makeB g (finB a) fun X hX => by unfold finB; rw [decB_row (rch_canon g hX)]
theorem mem_decB {a : Nfa} {r : List Bool} {t : Nat} {x : Bool} (ht : t < a.n.toNat) (h : r[t]? = some x) : decide (t ∈ decB a r) = x := by
  unfold decB
  rcases x with _ | _
  · exact decide_eq_false fun q => by have := (mem_setQ.1 q).2; rw [h] at this; cases this
  · exact decide_eq_true (mem_setQ.2 ⟨ht, by rw [h]; rfl⟩)
theorem RowL.rowAt {w : World} {g N : Nat} {a : Nfa} {r : List Bool} (hN : a.n = (N : Int)) (h : RowL w g N r) : RowAt w g N (decB a r) := by
  have e : a.n.toNat = N := by rw [hN]; rfl
  refine ⟨h.2.1, fun t ht => ?_⟩
  obtain ⟨x, hx⟩ : ∃ x, r[t]? = some x := ⟨_, List.getElem?_eq_getElem (by rw [h.1]; exact ht)⟩
  rw [mem_decB (by rw [e]; exact ht) hx]
  exact h.2.2 t x hx
theorem own_rowL {w0 w : World} {es fs : List Ent} {g N : Nat} {l : List Bool} (h : Own w0 w es fs) (hm : eBools (rowV g N) l ∈ es ++ fs) (hl : l.length = N) (h1 : 0 < N) : RowL w g N l := by
  have q : ∀ t x, l[t]? = some x → w.cell? ⟨g, t, none⟩ = some (.bool x) := fun t x ht => (own_bools_cell (g := g) (n := N) (cap := N) h hm hl ht).1
  refine ⟨hl, ?_, q⟩
  obtain ⟨x, hx⟩ : ∃ x, l[0]? = some x := ⟨_, List.getElem?_eq_getElem (by rw [hl]; exact h1)⟩
  exact World.block_lt_of_cell? w _ (q 0 x hx)
/-- A row of one element at the head goes behind the tail. -/
theorem own_behind {w0 w : World} {e : Ent} {es fs : List Ent} (h : Own w0 w (e :: es) fs) : Own w0 w (es ++ [e]) fs := h.perm (List.perm_append_comm (l₁ := [e]) (l₂ := es))
/-- The state, midway. -/
def MkQ (w1 wr : World) (g gr N : Nat) (a : Nfa) (i : Nat) (lv : Value) : Prop :=
  ∃ (bl : List Br) (nv fv : Value) (rs : List (Value × List Int)), Part (TB a) (rowQ a (beg a)) i (bl.map (·.2)) ∧
    Build w1 wr g (eDfa gr zero4 :: eBRows lv (bl.map (brV N)) :: eEachB N bl) a.L 0 (((bl.map (·.2)).take i).map (srow (TB a) (bl.map (·.2)))) (((bl.map (·.2)).take i).map (finB a)) nv fv rs
/-- The same within a row. -/
def MkT (w1 wi : World) (g gr N : Nat) (a : Nfa) (k : Nat) (l : List (List Bool)) (r : List Bool) (n c : Nat) (nv fv : Value) (rs : List (Value × List Int)) (lv rv : Value) : Prop :=
  ∃ bl : List Br, bl.map (·.2) = addAll l ((TB a r).take c) ∧
    Own w1 wi (eBRows lv (bl.map (brV N)) :: eInts rv (trow (TB a) l r c) :: eRows nv (rs.map (·.1)) :: eBools fv ((l.take k).map (finB a)) :: eDfa g [.int .i64 (n : Int), .int .i64 0, nv, fv] :: eDfa gr zero4 :: eEachB N bl) (eEach rs)
theorem mkT_form {w1 wi : World} {N : Nat} {bl : List Br} {lv : Value} {es fs : List Ent} (h : Own w1 wi es fs) (hm : eBRows lv (bl.map (brV N)) ∈ es ++ fs) : ∃ A cap, lv = .slice A bl.length cap ∧ Cells wi wi.heap.size A (bl.map (brV N)) := by
  obtain ⟨A, cap, hv, _⟩ := h.form hm
  simp only [eBRows, List.length_map] at hv
  subst hv
  refine ⟨A, cap, rfl, ?_⟩
  have e : eBRows (.slice A bl.length cap) (bl.map (brV N)) = ⟨25, 1, .slice A bl.length cap, bl.length, bl.map (brV N)⟩ := by unfold eBRows; rw [List.length_map]
  rw [e] at hm
  exact h.cells hm
/-- One of the rows: where it stands, and what it reads as. -/
theorem mkT_row {w1 wi : World} {N : Nat} {bl : List Br} {A : Option Addr} {es fs : List Ent} (h : Own w1 wi es fs) (hE : ∀ e ∈ eEachB N bl, e ∈ es ++ fs) (hA : Cells wi wi.heap.size A (bl.map (brV N))) (hl : ∀ r ∈ bl.map (·.2), r.length = N) (h1 : 0 < N)
    {j : Nat} {r : List Bool} (hr : (bl.map (·.2))[j]? = some r) : ∃ g ad, A = some ad ∧ ad.block < wi.heap.size ∧ wi.cell? (ad.add j) = some (rowV g N) ∧ RowL wi g N r := by
  rw [List.getElem?_map] at hr
  obtain ⟨b, hb, rfl⟩ := Option.map_eq_some_iff.1 hr
  obtain ⟨ad, e, h2, h3⟩ := hA j (brV N b) (by rw [List.getElem?_map, hb]; rfl)
  have hmem := List.mem_of_getElem? hb
  exact ⟨b.1, ad, e, h2, h3, own_rowL h (hE _ (List.mem_map.2 ⟨b, hmem, rfl⟩)) (hl _ (List.mem_map.2 ⟨b, hmem, rfl⟩)) h1⟩
end Go.Proofs.YtnlkkfcjonchgaaDoor.Nf

namespace Go.Proofs.YtnlkkfcjonchgaaDoor.Nf
open Go.RowKit Go.IntWalk Go.Proofs.YtnlkkfcjonchgaaDoor.Wd Go.Proofs.YtnlkkfcjonchgaaDoor.Wo Go.Proofs.YtnlkkfcjonchgaaDoor.Df Go.Proofs.YtnlkkfcjonchgaaDoor.Rc

theorem own_front {w0 w : World} (l1 : List Ent) {x : Ent} {es fs : List Ent} (h : Own w0 w (l1 ++ x :: es) fs) : Own w0 w (x :: (l1 ++ es)) fs := h.perm List.perm_middle
theorem own_back {w0 w : World} (l1 : List Ent) {x : Ent} {es fs : List Ent} (h : Own w0 w (x :: (l1 ++ es)) fs) : Own w0 w (l1 ++ x :: es) fs := h.perm List.perm_middle.symm
set_option linter.unusedSimpArgs false in
set_option maxRecDepth 100000 in
set_option maxHeartbeats 4000000 in
theorem rmake_any (v : Value) (a : Nfa) (w : World) (h : NfaAt w w.heap.size v a) (hg : Good a) :
    Calls Tryd.prog 22 #[v] w fun e w' => Hid (∃ x, e = .returned (.tuple #[x, .int .i64 ((makeOut a).2 : Nat)]) ∧ DfaOwn w w' x (makeOut a).1) := by
  have HV := h
  obtain ⟨L0, n0, A, c, M, cm, F, cf, rfl, h⟩ := h
  obtain ⟨N, rfl⟩ := Int.eq_ofNat_of_zero_le (show 0 ≤ n0 by have := hg.n1; have := h.en; omega)
  obtain ⟨n, rfl⟩ := Int.eq_ofNat_of_zero_le (show 0 ≤ L0 by have := hg.l1; have := h.eL; omega)
  have hN : a.n = (N : Int) := h.en
  have hL : a.L = (n : Int) := h.eL
  have h0 : 0 < N := by have := hg.n1; omega
  have hn1 : 1 ≤ n := by have := hg.l1; omega
  have hn6 : n ≤ 6 := by have := hg.l6; omega
  have hnt : a.n.toNat = N := by rw [hN]; rfl
  have hlt : a.L.toNat = n := by rw [hL]; rfl
  obtain ⟨w1, hw1, hB1, hs1, hX1, hd1⟩ := box_nfa w h
  have HB := Lib.hid hB1
  have HX := Lib.hid hX1
  have HV1 := Lib.hid (HV.on hB1)
  have HO := ((own_start w1).dfa (.int .i64 0) (.int .i64 0) (.slice none 0 0) (.slice none 0 0)).dfa (.int .i64 (n : Int)) (.int .i64 0) (.slice none 0 0) (.slice none 0 0)
  rw [show (w1.alloc (.cells #[.int .i64 0, .int .i64 0, .slice none 0 0, .slice none 0 0] 27)).heap.size = w1.heap.size + 1 by simp] at HO
  obtain ⟨gr, hgr⟩ : ∃ gr, gr = w.heap.size + 1 := ⟨_, rfl⟩
  obtain ⟨g, hgm⟩ : ∃ g, g = gr + 1 := ⟨_, rfl⟩
  rw [hs1, ← hgr, ← hgm] at HO
  obtain ⟨w3, hw3⟩ : ∃ w3, w3 = (w1.alloc (.cells #[.int .i64 0, .int .i64 0, .slice none 0 0, .slice none 0 0] 27)).alloc (.cells #[.int .i64 (n : Int), .int .i64 0, .slice none 0 0, .slice none 0 0] 27) := ⟨_, rfl⟩
  rw [← hw3] at HO
  have HO3 := Lib.hid HO
  have HW : Hid (w3 = ((w.alloc (.cells #[.int .i64 (n : Int), .int .i64 (N : Int), .slice A a.st.length c, .slice M a.mv.length cm, .slice F a.fin.length cf] 56)).alloc (.cells #[.int .i64 0, .int .i64 0, .slice none 0 0, .slice none 0 0] 27)).alloc (.cells #[.int .i64 (n : Int), .int .i64 0, .slice none 0 0, .slice none 0 0] 27)) := by rw [Hid, ← hw1]; exact hw3
  have HAg : Hid (∀ W, Below w1.heap.size w1 W → W.cell? ⟨w.heap.size, 0, none⟩ = some (.int .i64 (n : Int)) ∧ W.cell? ⟨w.heap.size, 1, none⟩ = some (.int .i64 (N : Int)) ∧ W.cell? ⟨w.heap.size, 2, none⟩ = some (.slice A a.st.length c) ∧ W.cell? ⟨w.heap.size, 3, none⟩ = some (.slice M a.mv.length cm) ∧ W.cell? ⟨w.heap.size, 4, none⟩ = some (.slice F a.fin.length cf)) := fun W hW => box_agg (hX1.on hW)
  have HBe := Lib.hid (begin_any _ a w3 N ((HV.on hB1).on HO.below) hg hN)
  have HSt := Lib.hid (fun (W : World) (r : List Bool) (y : Int) (gs : Nat) (hW : Below w1.heap.size w1 W) (hR : RowL W gs N r) => step_any _ a (decB a r) y gs W N ((HV.on hB1).on hW) hg hN (hR.rowAt hN))
  have HFi := Lib.hid (fun (W : World) (r : List Bool) (gs : Nat) (hW : Below w1.heap.size w1 W) (hR : RowL W gs N r) => final_any _ a (decB a r) gs W N ((HV.on hB1).on hW) hg hN (hR.rowAt hN))
  have HMk := Lib.hid (makeOut_rows hg)
  have HLN : Hid (a.L = (n : Int) ∧ a.L.toNat = n ∧ a.n.toNat = N) := ⟨hL, hlt, hnt⟩
  have hN40 : N ≤ 40 := by have := hg.n40; omega
  obtain ⟨hc0, hc1, hc2, hc3, hc4⟩ := HAg.out _ HO.below
  clear h hw1 hB1 hs1 hX1 hd1 HO hw3 hg HV hN hL hnt hlt
  have HGr := Lib.hid hgr
  have HGm := Lib.hid hgm
  clear hgr hgm
  generalize a.st.length = ks at *
  generalize a.mv.length = km at *
  generalize a.fin.length = kf at *
  go_enter Tryd.func22, Tryd.ntmps22
  go_wp2_with fail
  rw [← HW.out, ← HGr.out, ← HGm.out]
  clear HW HGr HGm
  refine HBe.out.mono ?_
  rintro e w5 he
  obtain ⟨g5, rfl, ho⟩ := he.out
  have HQ : Hid (MkQ w1 (w5.alloc (.cells #[rowV g5 N] 25)) g gr N a 0 (.slice (some ⟨w5.heap.size, 0, none⟩) 1 1)) := by
    have h1 := (HO3.out.join ho).lit 25 1 1 #[rowV g5 N] rfl (by simp [maxLen])
    refine ⟨[(g5, rowQ a (beg a))], .slice none 0 0, .slice none 0 0, [], part_zero _ _, rfl, ?_⟩
    rw [HLN.out.1]
    exact ((h1.re [2, 3, 0, 1] 4 rfl (by decide)).nil 4 1).nil 37 1
  clear he ho HBe hc0 hc1 hc2 hc3 hc4 HO3
  go_wp2
  generalize w5.alloc (.cells #[rowV g5 N] 25) = w6 at *
  generalize (Value.slice (some ⟨w5.heap.size, 0, none⟩) 1 1) = lv0 at *
  go_loopw [5, 6] (fun lv i wr => ∃ (k : Nat), k ≤ 40 ∧ i = .int .i64 k ∧ Hid (MkQ w1 wr g gr N a k lv)) (fun _ i _ => 41 - (intOf i).toNat)
  case atStart => exact ⟨0, by omega, rfl, HQ⟩
  case round =>
    clear HQ
    obtain ⟨k, hk, rfl, HQ⟩ := hrel
    obtain ⟨bl, nv, fv, rs, hpart, hbd⟩ := HQ.out
    have HP := Lib.hid hpart
    have HBd := Lib.hid hbd
    obtain ⟨Al, cl, hlv, _⟩ := mkT_form hbd.2 (N := N) (bl := bl) (lv := u5) (by simp)
    subst hlv
    have h40 := hpart.n40
    have hkl := hpart.le
    rw [List.length_map] at h40 hkl
    clear HQ hpart hbd
    by_cases hltk : k < bl.length
    · obtain ⟨r, hr⟩ : ∃ r, (bl.map (·.2))[k]? = some r := ⟨_, List.getElem?_eq_getElem (by rw [List.length_map]; exact hltk)⟩
      have HRr := Lib.hid hr
      obtain ⟨HRS, hown⟩ := HBd.out
      have HRS := Lib.hid HRS
      have HT0 : Hid (MkT w1 wr g gr N a k (bl.map (·.2)) r n 0 nv fv rs (.slice Al bl.length cl) (.slice none 0 0)) := by
        refine ⟨bl, rfl, ?_⟩
        rw [← HLN.out.1]
        exact own_front [_, _, _, _, _] (hown.nil 3 1)
      clear hown hr HBd
      generalize bl.map (·.2) = l at *
      go_wp2
      go_loopw [5, 7, 8] (fun lv rv i wi => ∃ (q : Nat), q ≤ n ∧ i = .int .i64 q ∧ Hid (MkT w1 wi g gr N a k l r n q nv fv rs lv rv)) (fun _ _ i _ => n - (intOf i).toNat)
      case atStart => exact ⟨0, by omega, rfl, HT0⟩
      case round =>
        clear HT0
        obtain ⟨q, hq, rfl, HT⟩ := hrel
        obtain ⟨bq, hbq, hto⟩ := HT.out
        have HBq := Lib.hid hbq
        obtain ⟨hc0, hc1, hc2, hc3, hc4⟩ := HAg.out _ hto.below
        obtain ⟨Aq, cq, hlv, hAq⟩ := mkT_form hto (N := N) (bl := bq) (lv := u5) (by simp)
        subst hlv
        by_cases hqn : q < n
        · as_aux_lemma =>
          have hlen : bq.length ≤ 100 := by
            have h1 := congrArg List.length hbq
            rw [List.length_map] at h1
            have h2 := addAll_length_le l ((TB a r).take q)
            have h3 := List.length_take (i := q) (l := TB a r)
            have h4 := HP.out.n40
            omega
          have hrow : ∀ s ∈ bq.map (·.2), s.length = N := by
            intro s hs
            rw [hbq] at hs
            rcases mem_addAll.1 hs with hs | hs
            · rw [rch_row (HP.out.rch s hs), HLN.out.2.2]
            · rw [tb_row (List.mem_of_mem_take hs), HLN.out.2.2]
          have hkr : (bq.map (·.2))[k]? = some r := by
            obtain ⟨m, hm⟩ := addAll_prefix l ((TB a r).take q)
            rw [hbq, hm, List.getElem?_append_left (List.getElem?_eq_some_iff.1 HRr.out).1]; exact HRr.out
          have HRow := Lib.hid hrow
          have HTg := Lib.hid (tb_get (a := a) r (c := q) (by rw [HLN.out.2.1]; exact hqn))
          have HAS := Lib.hid (addAll_succ (l := l) HTg.out)
          have HTS := Lib.hid (trow_step (l := l) HTg.out)
          have hTl : (trow (TB a) l r q).length ≤ 100 := by
            unfold trow
            have h2 := List.length_take (i := q) (l := TB a r)
            rw [List.length_map]; omega
          obtain ⟨gk, ad, e, hadb, hcell, hRk⟩ := mkT_row hto (fun e he => by simp [he]) hAq hrow h0 hkr
          subst e
          have HDr : Hid (Below wr.heap.size wr wr.drew) := (Below.refl _ _).drew
          have HBw := Lib.hid hto.below
          have HC := Lib.hid (HSt.out wr.drew r (q : Int) gk (HBw.out.drew) (hRk.on HDr.out))
          have HKp : Hid (∀ W, Below wr.heap.size wr W → (W.cell? ⟨w.heap.size, 0, none⟩ = some (.int .i64 (n : Int)) ∧ W.cell? ⟨w.heap.size, 1, none⟩ = some (.int .i64 (N : Int)) ∧ W.cell? ⟨w.heap.size, 2, none⟩ = some (.slice A ks c) ∧ W.cell? ⟨w.heap.size, 3, none⟩ = some (.slice M km cm) ∧ W.cell? ⟨w.heap.size, 4, none⟩ = some (.slice F kf cf)) ∧ W.cell? (ad.add k) = some (rowV gk N)) := fun W hW =>
            ⟨HAg.out _ (HBw.out.trans (hW.mono HBw.out.size)), (hW.cell (p := ad.add k) (by rw [Wd.block_add]; exact hadb)).trans hcell⟩
          have HTo := Lib.hid (hto.on HDr.out)
          have hkb : k < bq.length := by have h1 := (List.getElem?_eq_some_iff.1 hkr).1; rwa [List.length_map] at h1
          have e5 : (k : Int) < (bq.length : Int) := by omega
          have HTN : Hid ((rowQ a (goN a (decB a r) (q : Int))).length = N) := by rw [Hid, rowQ_len, HLN.out.2.2]
          generalize rowQ a (goN a (decB a r) (q : Int)) = t at *
          generalize trow (TB a) l r q = tq at *
          generalize hbs : (l.take k).map (finB a) = bs at *
          have HBs := Lib.hid hbs
          clear hbs hto HT hcell hRk hkr hrow hbq hAq
          go_wp2
          go_region_held3 (fun W => (W.cell? ⟨w.heap.size, 0, none⟩ = some (.int .i64 (n : Int)) ∧ W.cell? ⟨w.heap.size, 1, none⟩ = some (.int .i64 (N : Int)) ∧ W.cell? ⟨w.heap.size, 2, none⟩ = some (.slice A ks c) ∧ W.cell? ⟨w.heap.size, 3, none⟩ = some (.slice M km cm) ∧ W.cell? ⟨w.heap.size, 4, none⟩ = some (.slice F kf cf)) ∧ W.cell? (ad.add k) = some (rowV gk N))
            (first | exact HKp.out _ HB6.out | exact HKp.out _ HDr.out)
            ((go_at_call 45; refine HC.out.mono ?_; rintro e w6 he; obtain ⟨g6, h6, ho⟩ := he.out; subst h6; have HB6 := Lib.hid (HDr.out.trans (ho.below.mono HDr.out.size)); have HO6 := Lib.hid (HTo.out.join ho); clear ho he))
          all_goals
            clear HC HKp HB6 HDr HTo hc0 hc1 hc2 hc3 hc4
            go_wp2
            have HR2 : Hid (Own w1 w6 (eBools (rowV g6 N) t :: eBRows (.slice (some ad) bq.length cq) (bq.map (brV N)) :: eInts u7 tq :: eRows nv (rs.map (·.1)) :: eBools fv bs :: eDfa g [.int .i64 (n : Int), .int .i64 0, nv, fv] :: eDfa gr zero4 :: eEachB N bq) (eEach rs)) := HO6.out
            have HY0 : Hid (t ∉ (bq.map (·.2)).take 0) := by simp [Hid]
            clear HO6
            go_loopw [10] (fun i wi => ∃ (j : Nat), j ≤ bq.length ∧ i = .int .i64 j ∧ Hid (Own w1 wi (eBools (rowV g6 N) t :: eBRows (.slice (some ad) bq.length cq) (bq.map (brV N)) :: eInts u7 tq :: eRows nv (rs.map (·.1)) :: eBools fv bs :: eDfa g [.int .i64 (n : Int), .int .i64 0, nv, fv] :: eDfa gr zero4 :: eEachB N bq) (eEach rs)) ∧ Hid (t ∉ (bq.map (·.2)).take j)) (fun i _ => bq.length - (intOf i).toNat)
            case atStart => exact ⟨0, by omega, rfl, HR2, HY0⟩
            case round =>
              clear HR2 HY0
              obtain ⟨j, hj, rfl, HR, HJ⟩ := hrel
              by_cases hjl : j < bq.length
              · have hjl' : j < (bq.map (·.2)).length := by rw [List.length_map]; exact hjl
                have hs := List.getElem?_eq_getElem hjl'
                obtain ⟨Ar, cr, elv, hAr⟩ := mkT_form HR.out (N := N) (bl := bq) (lv := .slice (some ad) bq.length cq) (by simp)
                simp only [Value.slice.injEq, true_and] at elv
                obtain ⟨eAr, ecr⟩ := elv
                subst eAr ecr
                obtain ⟨gj, adj, e, hadj, hcj, hRj⟩ := mkT_row HR.out (fun e he => by simp [he]) hAr HRow.out h0 hs
                obtain rfl := Option.some.inj e
                have hRt : RowL wr g6 N t := own_rowL HR.out (by simp) HTN.out h0
                have HS := Lib.hid (rsame_any gj g6 N _ t wr hRj hRt (by omega))
                have e6 : (j : Int) < (bq.length : Int) := by omega
                by_cases hst : (bq.map (·.2))[j] = t
                · as_aux_lemma =>
                  have HF1 : Hid (addTo (bq.map (·.2)) t = bq.map (·.2) ∧ num (bq.map (·.2)) t = j) := ⟨by unfold addTo; rw [if_pos (hst ▸ List.getElem_mem hjl')], idx_at HJ.out hjl' hst.symm⟩
                  rw [decide_eq_true hst] at HS
                  have f3 := int_ne (show (j : Int) ≠ (bq.length : Int) by omega)
                  clear hst hs hRj hRt hAr HJ e
                  go_wp2_with fail
                  refine HS.out.mono ?_
                  rintro e w8 ⟨rfl, hb⟩
                  have HR3 := Lib.hid ((HR.out.on hb).tail.two)
                  clear hb HS HR hcj hadj
                  go_wp2_with (at_builtin; refine own_int (by rfl) _ _ (by rfl) (by rfl) HR3.out (by rfl) (by omega) ?_)
                  intro g9 cap9 w9 ho9
                  have HN1 : Hid (MkT w1 w9 g gr N a k l r n (q + 1) nv fv rs (.slice (some ad) bq.length cq) (.slice (some ⟨g9, 0, none⟩) (tq.length + 1) cap9)) := by
                    refine ⟨bq, by rw [HAS.out, ← HBq.out, HF1.out.1], ?_⟩
                    rw [HTS.out, ← HBq.out, HF1.out.1, HF1.out.2, HBs.out]
                    exact ho9.two
                  clear ho9 HR3
                  go_wp2
                  go_roundw
                  case rel => exact ⟨q + 1, by omega, by go_num, HN1⟩
                  case measure => simp [intOf]; omega
                · as_aux_lemma =>
                  have HJ1 := Lib.hid (notin_take_succ HJ.out hjl' (fun q => hst q.symm))
                  rw [decide_eq_false hst] at HS
                  clear hst hs hRj hRt hAr HJ e
                  go_wp2_with fail
                  refine HS.out.mono ?_
                  rintro e w8 ⟨rfl, hb⟩
                  have HR3 := Lib.hid (HR.out.on hb)
                  clear hb HS HR hcj hadj
                  go_wp2
                  go_roundw
                  case rel => exact ⟨j + 1, by omega, by go_num, HR3, HJ1⟩
                  case measure => simp [intOf]; omega
              · as_aux_lemma =>
                obtain rfl : j = bq.length := by omega
                have hnm : t ∉ bq.map (·.2) := by
                  have := HJ.out
                  rwa [List.take_of_length_le (by rw [List.length_map]; exact Nat.le_refl _)] at this
                have HF2 : Hid (addTo (bq.map (·.2)) t = (bq ++ [(g6, t)]).map (·.2) ∧ num ((bq ++ [(g6, t)]).map (·.2)) t = bq.length) := by
                  rw [List.map_append]
                  refine ⟨by unfold addTo; rw [if_neg hnm]; rfl, ?_⟩
                  have q := idx_new hnm
                  rw [List.length_map] at q
                  exact q
                have f3 := int_eq (show (bq.length : Int) = (bq.length : Int) from rfl)
                have HR3 := Lib.hid HR.out.two
                have hl1 : (bq.map (brV N)).length < 1099511627776 := by rw [List.length_map]; omega
                clear hnm HJ HR
                go_wp2_with (at_builtin; refine own_brow (by rfl) _ _ (by rfl) (by rfl) HR3.out (by rfl) (by rfl) hl1 ?_)
                intro g7 cap7 w7 ho7
                have HO7 := Lib.hid ho7.three
                clear ho7 HR3
                go_wp2_with (at_builtin; refine own_int (by rfl) _ _ (by rfl) (by rfl) HO7.out (by rfl) (by omega) ?_)
                intro g9 cap9 w9 ho9
                have HN1 : Hid (MkT w1 w9 g gr N a k l r n (q + 1) nv fv rs (.slice (some ⟨g7, 0, none⟩) (bq.length + 1) cap7) (.slice (some ⟨g9, 0, none⟩) (tq.length + 1) cap9)) := by
                  refine ⟨bq ++ [(g6, t)], by rw [HAS.out, ← HBq.out, HF2.out.1], ?_⟩
                  rw [HTS.out, ← HBq.out, HF2.out.1, HF2.out.2, HBs.out, eEachB_snoc, List.map_append]
                  exact (own_behind ho9.three).two
                clear ho9 HO7
                go_wp2
                go_roundw
                case rel => exact ⟨q + 1, by omega, by go_num, HN1⟩
                case measure => simp [intOf]; omega
        · as_aux_lemma =>
          obtain rfl : q = n := by omega
          have hS2 : (TB a r).length = q := by rw [tb_len, HLN.out.2.1]
          rw [trow_full hS2] at hto
          rw [List.take_of_length_le (by omega)] at hbq
          have HStep := Lib.hid (HP.out.step HRr.out)
          have HRow := Lib.hid (rows_next HP.out HRr.out)
          have HFlag := Lib.hid (flags_next (S := TB a) (l := l) (finB a) HRr.out)
          have hkr : (bq.map (·.2))[k]? = some r := by
            obtain ⟨m, hm⟩ := addAll_prefix l (TB a r)
            rw [hbq, hm, List.getElem?_append_left (List.getElem?_eq_some_iff.1 HRr.out).1]; exact HRr.out
          have hrow : ∀ s ∈ bq.map (·.2), s.length = N := by
            intro s hs
            rw [hbq] at hs
            rcases mem_addAll.1 hs with hs | hs
            · rw [rch_row (HP.out.rch s hs), HLN.out.2.2]
            · rw [tb_row hs, HLN.out.2.2]
          rw [← hbq] at hto HStep HRow HFlag
          rw [List.length_map] at HStep
          have hkb : k < bq.length := by have h1 := (List.getElem?_eq_some_iff.1 hkr).1; rwa [List.length_map] at h1
          have hlb : l.length ≤ 40 := HP.out.n40
          clear hS2 HT HBq
          by_cases hfull : 40 < bq.length
          · as_aux_lemma =>
            have hfull' : (40 : Int) < (bq.length : Int) := by omega
            have HNo : Hid (makeOut a = (zeroA, 4)) := by rw [Hid, ← HMk.out]; exact explOut_none (HStep.out.1 hfull)
            have HR2 := Lib.hid (own_front [_, _, _, _, _] hto)
            obtain ⟨hr0, hf0⟩ := HR2.out.dcell (g := gr) (l := zero4) (j := 0) (by simp) rfl
            obtain ⟨hr1, hf1⟩ := HR2.out.dcell (g := gr) (l := zero4) (j := 1) (by simp) rfl
            obtain ⟨hr2, hf2⟩ := HR2.out.dcell (g := gr) (l := zero4) (j := 2) (by simp) rfl
            obtain ⟨hr3, hf3⟩ := HR2.out.dcell (g := gr) (l := zero4) (j := 3) (by simp) rfl
            have HEnd := Lib.hid (res_bad HR2.out rfl)
            clear HR2 hto hc1 hc2 hc3 hc4
            go_wp2
            obtain ⟨k2, k3, k4, k5, k6⟩ := HEnd.out
            exact bodyPost_ret (results_dfa rfl _ rfl k3 k4 k5 k6) rfl ⟨_, by rw [HNo.out]; rfl, by rw [HNo.out]; exact dfaOwn_zero (HB.out.trans (k2.mono HB.out.size))⟩
          · have hfull' : ¬ (40 : Int) < (bq.length : Int) := by omega
            have HPn := Lib.hid (HStep.out.2 hfull)
            obtain ⟨bk, hbk, hbr⟩ : ∃ b, bq[k]? = some b ∧ b.2 = r := by
              rw [List.getElem?_map] at hkr
              obtain ⟨b, hb, e⟩ := Option.map_eq_some_iff.1 hkr
              exact ⟨b, hb, e⟩
            obtain ⟨gk, hgk⟩ : ∃ gk, gk = bk.1 := ⟨_, rfl⟩
            have HBk : Hid (brV N bk = rowV gk N) := by rw [hgk]; rfl
            have HEk : Hid (eBools (rowV gk N) r ∈ eEachB N bq) := by
              rw [← hbr, hgk]; exact List.mem_map.2 ⟨bk, List.mem_of_getElem? hbk, rfl⟩
            have HBb := Lib.hid hbk
            obtain ⟨adl, eA, hadb, hcell⟩ := hAq k (brV N bk) (by rw [List.getElem?_map, hbk]; rfl)
            subst eA
            obtain ⟨Ar', cr', hrv, _⟩ := own_read hto (v := u7) (l := srow (TB a) (bq.map (·.2)) r) (by simp)
            subst hrv
            have hrN : r.length = N := hrow r (List.mem_of_getElem? hkr)
            have HLen : Hid ((rs.map (·.1)).length < 1099511627776 ∧ ((l.take k).map (finB a)).length < 17592186044416) := by
              have h1 := congrArg List.length HRS.out
              rw [List.length_map, List.length_map, List.length_take] at h1
              exact ⟨by rw [List.length_map]; omega, by rw [List.length_map, List.length_take]; omega⟩
            have HR3 := Lib.hid (own_front [_, _] hto)
            obtain ⟨hg2, hgf2⟩ := hto.dcell (g := g) (l := [.int .i64 (q : Int), .int .i64 0, nv, fv]) (j := 2) (by simp) rfl
            have HBw := Lib.hid hto.below
            clear hto hbk hbr hgk hcell hAq HStep hkr hrow hbq
            generalize hrw : (l.take k).map (srow (TB a) l) = rws at *
            generalize hbs : (l.take k).map (finB a) = bs at *
            generalize hr9 : ((bq.map (·.2)).take (k + 1)).map (srow (TB a) (bq.map (·.2))) = rws9 at *
            have HR9 := Lib.hid hr9
            generalize hs9 : srow (TB a) (bq.map (·.2)) r = row at *
            clear hrw hbs hr9 hs9
            go_wp2_with (at_builtin; refine own_row (by rfl) _ _ (by rfl) (by rfl) HR3.out (by rfl) (by rfl) HLen.out.1 ?_)
            intro g8 cap8 w8 ho8
            have hlr : rs.length = (rs.map (·.1)).length := (List.length_map _).symm
            have HB9 : Hid (Build w1 (w8.setCell ⟨g, 2, none⟩ (.slice (some ⟨g8, 0, none⟩) (rs.length + 1) cap8)) g (eDfa gr zero4 :: eBRows (.slice (some adl) bq.length cq) (bq.map (brV N)) :: eEachB N bq) (q : Int) 0 (rws ++ [row]) bs (.slice (some ⟨g8, 0, none⟩) (rs.length + 1) cap8) fv (rs ++ [(.slice Ar' row.length cr', row)])) :=
              build_row HRS.out (own_back [_, _, _, _, _] ho8.two) rfl
            obtain ⟨hk8, hf8⟩ := ho8.dcell (g := g) (l := [.int .i64 (q : Int), .int .i64 0, nv, fv]) (j := 2) (by simp) rfl
            rw [← HRow.out] at HB9
            clear ho8 hg2 hgf2 HR3 hlr hc0 hc1 hc2 hc3 hc4
            go_wp2
            generalize hw9 : w8.setCell ⟨g, 2, none⟩ (.slice (some ⟨g8, 0, none⟩) (rs.length + 1) cap8) = w9 at *
            generalize (Value.slice (some ⟨g8, 0, none⟩) (rs.length + 1) cap8) = nv9 at *
            generalize (rs ++ [(Value.slice Ar' row.length cr', row)]) = rs9 at *
            clear hk8 hf8 hw9
            have HK : Hid (∀ W es fs, Own w1 W es fs → eDfa g [.int .i64 (q : Int), .int .i64 0, nv9, fv] ∈ es ++ fs ∧ eBRows (.slice (some adl) bq.length cq) (bq.map (brV N)) ∈ es ++ fs → W.cell? ⟨g, 3, none⟩ = some fv ∧ W.cell? ⟨w.heap.size, 0, none⟩ = some (.int .i64 (q : Int)) ∧ W.cell? ⟨w.heap.size, 1, none⟩ = some (.int .i64 (N : Int)) ∧ W.cell? ⟨w.heap.size, 2, none⟩ = some (.slice A ks c) ∧ W.cell? ⟨w.heap.size, 3, none⟩ = some (.slice M km cm) ∧ W.cell? ⟨w.heap.size, 4, none⟩ = some (.slice F kf cf) ∧ W.cell? (adl.add k) = some (rowV gk N)) := fun W es fs hW hm => by
              obtain ⟨b0, b1, b2, b3, b4⟩ := HAg.out _ hW.below
              refine ⟨(hW.dcell hm.1 rfl).1, b0, b1, b2, b3, b4, ?_⟩
              obtain ⟨A9, c9, e9, h9⟩ := mkT_form hW hm.2
              simp only [Value.slice.injEq, true_and] at e9
              obtain ⟨rfl, rfl⟩ := e9
              obtain ⟨ad9, e9, _, h9⟩ := h9 k (brV N bk) (by rw [List.getElem?_map, HBb.out]; rfl)
              cases e9
              rw [h9, HBk.out]
            have HO9 := Lib.hid HB9.out.2.two
            have HFc := Lib.hid (HFi.out w9.drew r gk ((HB9.out.2.on (Below.refl _ _).drew).below) (own_rowL (HB9.out.2.on (Below.refl _ _).drew) (List.mem_append_left _ (by simp [HEk.out])) hrN h0))
            have e7 : (k : Int) < (bq.length : Int) := by omega
            have HFn : Hid (finN a (decB a r) = finB a r) := rfl
            rw [HFn.out] at HFc
            generalize finB a r = bb at *
            refine wp_region_Z ((fun W => W.cell? ⟨g, 3, none⟩ = some fv ∧ W.cell? ⟨w.heap.size, 0, none⟩ = some (.int .i64 (q : Int)) ∧ W.cell? ⟨w.heap.size, 1, none⟩ = some (.int .i64 (N : Int)) ∧ W.cell? ⟨w.heap.size, 2, none⟩ = some (.slice A ks c) ∧ W.cell? ⟨w.heap.size, 3, none⟩ = some (.slice M km cm) ∧ W.cell? ⟨w.heap.size, 4, none⟩ = some (.slice F kf cf) ∧ W.cell? (adl.add k) = some (rowV gk N))) 11 (by kernel_rfl) (HK.out _ _ _ (HB9.out.2.on (Below.refl _ _).drew) (by simp)) (fun hHeld => ?_)
            refine wpZ_take (i := 0) (v := ?_) rfl (by kernel_rfl) (by kernel_rfl) (by kernel_rfl) (by kernel_rfl) (fun _ _ _ h => h) (Or.inl ⟨by rfl, ?_⟩) hHeld ?_
            rotate_left
            · (go_light; intro w9 hSw; (try dsimp only at hSw); go_simp; try with_reducible rfl)
            try simp only [Act.put, List.setIfInBounds_toArray, List.set_cons_zero, List.set_cons_succ]
            refine wpZ_take (i := 1) (v := ?_) rfl (by kernel_rfl) (by kernel_rfl) (by kernel_rfl) (by kernel_rfl) (fun _ _ _ h => h) (Or.inl ⟨by rfl, ?_⟩) hHeld ?_
            rotate_left
            · (go_light; intro w9 hSw; (try dsimp only at hSw); go_simp; try with_reducible rfl)
            try simp only [Act.put, List.setIfInBounds_toArray, List.set_cons_zero, List.set_cons_succ]
            refine wpZ_take (i := 2) (v := ?_) rfl (by kernel_rfl) (by kernel_rfl) (by kernel_rfl) (by kernel_rfl) (fun _ _ _ h => h) (Or.inl ⟨by rfl, ?_⟩) hHeld ?_
            rotate_left
            · (go_light; intro w9 hSw; (try dsimp only at hSw); go_simp; try with_reducible rfl)
            try simp only [Act.put, List.setIfInBounds_toArray, List.set_cons_zero, List.set_cons_succ]
            refine wpZ_take (i := 3) (v := ?_) rfl (by kernel_rfl) (by kernel_rfl) (by kernel_rfl) (by kernel_rfl) (fun _ _ _ h => h) (Or.inl ⟨by rfl, ?_⟩) hHeld ?_
            rotate_left
            · (go_light; intro w9 hSw; (try dsimp only at hSw); go_simp; try with_reducible rfl)
            try simp only [Act.put, List.setIfInBounds_toArray, List.set_cons_zero, List.set_cons_succ]
            refine wpZ_take (i := 4) (v := ?_) rfl (by kernel_rfl) (by kernel_rfl) (by kernel_rfl) (by kernel_rfl) (fun _ _ _ h => h) (Or.inl ⟨by rfl, ?_⟩) hHeld ?_
            rotate_left
            · (go_light; intro w9 hSw; (try dsimp only at hSw); go_simp; try with_reducible rfl)
            try simp only [Act.put, List.setIfInBounds_toArray, List.set_cons_zero, List.set_cons_succ]
            refine wpZ_take (i := 5) (v := ?_) rfl (by kernel_rfl) (by kernel_rfl) (by kernel_rfl) (by kernel_rfl) (fun _ _ _ h => h) (Or.inl ⟨by rfl, ?_⟩) hHeld ?_
            rotate_left
            · (go_light; intro w9 hSw; (try dsimp only at hSw); go_simp; try with_reducible rfl)
            try simp only [Act.put, List.setIfInBounds_toArray, List.set_cons_zero, List.set_cons_succ]
            refine wpZ_take (i := 6) (v := ?_) rfl (by kernel_rfl) (by kernel_rfl) (by kernel_rfl) (by kernel_rfl) (fun _ _ _ h => h) (Or.inl ⟨by rfl, ?_⟩) hHeld ?_
            rotate_left
            · (go_light; intro w9 hSw; (try dsimp only at hSw); go_simp; try with_reducible rfl)
            try simp only [Act.put, List.setIfInBounds_toArray, List.set_cons_zero, List.set_cons_succ]
            refine wpZ_one (i := 7) rfl (by kernel_rfl) (fun K hK => ?_)
            go_simp
            refine HFc.out.mono ?_
            rintro e w10 ⟨rfl, hb⟩
            have HO10 := Lib.hid ((HO9.out.on (Below.refl _ _).drew).on hb)
            clear hb
            try simp only []
            refine hK.out _ _ (fun _ => HK.out _ _ _ HO10.out (by simp)) (fun hHeld9 => ?_)
            replace hHeld := hHeld9 (by decide)
            clear hHeld9
            clear hK K
            try simp only [Act.put, List.setIfInBounds_toArray, List.set_cons_zero, List.set_cons_succ]
            refine wpZ_one (i := 8) rfl (by kernel_rfl) (fun K hK => ?_)
            go_simp
            refine hK.out _ _ (fun _ => HK.out _ _ _ (HO10.out.alloc _) (by simp)) (fun hHeld9 => ?_)
            replace hHeld := hHeld9 (by decide)
            clear hHeld9
            clear hK K
            try simp only [Act.put, List.setIfInBounds_toArray, List.set_cons_zero, List.set_cons_succ]
            refine wpZ_one (i := 9) rfl (by kernel_rfl) (fun K hK => ?_)
            refine step_own_bool (by rfl) _ _ (by rfl) (by rfl) HO10.out (by rfl) HLen.out.2 ?_
            intro g11 cap11 w11 ho11
            refine hK.out _ _ (fun _ => HK.out _ _ _ ho11 (by simp)) (fun hHeld9 => ?_)
            replace hHeld := hHeld9 (by decide)
            clear hHeld9
            clear hK K
            try simp only [Act.put, List.setIfInBounds_toArray, List.set_cons_zero, List.set_cons_succ]
            refine wpZ_take (i := 10) (v := ?_) rfl (by kernel_rfl) (by kernel_rfl) (by kernel_rfl) (by kernel_rfl) (fun _ _ _ h => h) (Or.inl ⟨by rfl, ?_⟩) hHeld ?_
            rotate_left
            · (go_light; intro w9 hSw; (try dsimp only at hSw); go_simp; try with_reducible rfl)
            try simp only [Act.put, List.setIfInBounds_toArray, List.set_cons_zero, List.set_cons_succ]
            refine wpZ_one (i := 11) rfl (by kernel_rfl) (fun K hK => ?_)
            have hk4 := (ho11.dcell (g := g) (l := [.int .i64 (q : Int), .int .i64 0, nv9, fv]) (j := 3) (by simp) rfl).2
            go_simp
            refine hK.out _ _ (fun k => absurd rfl k) (fun _ => ?_)
            clear hK K
            try simp only [Act.put, List.setIfInBounds_toArray, List.set_cons_zero, List.set_cons_succ]
            refine wpZ_done (by kernel_rfl) ?_ _
            have HBf := build_flag HB9.out.1 ho11 rfl
            have HN1 : Hid (MkQ w1 (w11.setCell ⟨g, 3, none⟩ (.slice (some ⟨g11, 0, none⟩) (bs.length + 1) cap11)) g gr N a (k + 1) (.slice (some adl) bq.length cq)) := by
              refine ⟨bq, nv9, .slice (some ⟨g11, 0, none⟩) (bs.length + 1) cap11, rs9, HPn.out, ?_⟩
              rw [HFlag.out, HR9.out, HLN.out.1]
              exact HBf
            clear HBf ho11 HB9 HO9 HO10 HK hk4 hHeld HFc
            go_wp2
            go_roundw
            case rel => exact ⟨k + 1, by omega, by go_num, HN1⟩
            case measure => simp [intOf]; omega
    · as_aux_lemma =>
      obtain rfl : k = bl.length := by omega
      have HNo : Hid (makeOut a = (⟨(n : Int), 0, (bl.map (·.2)).map (srow (TB a) (bl.map (·.2))), (bl.map (·.2)).map (finB a)⟩, 0)) := by
        rw [Hid, ← HMk.out, ← HLN.out.1]
        exact explOut_some (HP.out.stop (by rw [List.length_map]; exact Nat.le_refl _))
      rw [List.take_of_length_le (by rw [List.length_map]; exact Nat.le_refl _), HLN.out.1] at HBd
      have HSm := Lib.hid (srow_small (TB a) (bl.map (·.2)) (by rw [List.length_map]; exact h40))
      clear HP
      generalize (bl.map (·.2)).map (srow (TB a) (bl.map (·.2))) = rows at *
      generalize (bl.map (·.2)).map (finB a) = bs at *
      obtain ⟨A2, c2, F2, cf2, e1, e2⟩ := HBd.out.form
      obtain ⟨hg0, hg1, hg2, hg3⟩ := HBd.out.str
      obtain ⟨hr0, hf0⟩ := HBd.out.res (j := 0) (by omega)
      obtain ⟨hr1, hf1⟩ := HBd.out.res (j := 1) (by omega)
      obtain ⟨hr2, hf2⟩ := HBd.out.res (j := 2) (by omega)
      obtain ⟨hr3, hf3⟩ := HBd.out.res (j := 3) (by omega)
      subst e1 e2
      have HEnd := Lib.hid (build_end HBd.out HSm.out ⟨by omega, by omega⟩ ⟨by omega, by omega⟩ rfl)
      generalize rows.length = nr at *
      generalize bs.length = nb at *
      go_wp2
      obtain ⟨k1, k3, k4, k5, k6⟩ := HEnd.out
      exact bodyPost_ret (results_dfa rfl _ rfl k3 k4 k5 k6) rfl ⟨_, by rw [HNo.out]; rfl, by rw [HNo.out]; exact k1.base HB.out⟩
end Go.Proofs.YtnlkkfcjonchgaaDoor.Nf
