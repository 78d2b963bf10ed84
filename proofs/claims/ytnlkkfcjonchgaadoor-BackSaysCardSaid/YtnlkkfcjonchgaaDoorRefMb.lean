/- The walk of the document's answer for Back: an automaton of a formula, by a word for each state. The walk of the document's answer for Make: an automaton of a formula that reads forwards. -/
import Derived.Test.YtnlkkfcjonchgaaDoorRefAt
import Derived.Test.YtnlkkfcjonchgaaDoorRefMk
import Derived.Test.YtnlkkfcjonchgaaDoorRefMir
import Derived.Test.YtnlkkfcjonchgaaDoorBackM
import Derived.Test.YtnlkkfcjonchgaaDoorBackQ

namespace Go.Proofs.YtnlkkfcjonchgaaDoor.Fm
open Go.RowKit Go.IntWalk Go.Proofs.YtnlkkfcjonchgaaDoor.Wd Go.Proofs.YtnlkkfcjonchgaaDoor.Wo Go.Proofs.YtnlkkfcjonchgaaDoor.Df Go.Proofs.YtnlkkfcjonchgaaDoor.Rc

/-! ### two rows of bools -/
set_option maxRecDepth 100000 in
set_option maxHeartbeats 2000000 in
theorem same_any (X Y : Option Addr) (cx cy N : Nat) (l m : List Bool) (w : World) (hl : Df.BoolsAt w w.heap.size X l) (hm : Df.BoolsAt w w.heap.size Y m) (hN : N ≤ 1000) (e1 : l.length = N) (e2 : m.length = N) :
    Calls Tryd.prog 21 #[.slice X N cx, .slice Y N cy] w fun e w' => e = .returned (.bool (decide (l = m))) ∧ Below w.heap.size w w' := by
  have HL := Lib.hid hl
  have HM := Lib.hid hm
  have HT : Hid (l.take 0 = m.take 0) := rfl
  have HB : Hid (Below w.heap.size w w) := Below.refl _ _
  have H1 := Lib.hid e1
  have H2 := Lib.hid e2
  clear hl hm e1 e2
  go_enter Tryd.func21, Tryd.ntmps21
  go_wp2
  go_loopw [5] (fun i wr => ∃ (k : Nat), k ≤ N ∧ i = .int .i64 k ∧ Hid (Below w.heap.size w wr) ∧ Hid (l.take k = m.take k)) (fun i _ => N - (intOf i).toNat)
  case atStart => exact ⟨0, by omega, rfl, HB, HT⟩
  case round =>
    clear HT HB
    obtain ⟨k, hk, rfl, HB, HT⟩ := hrel
    by_cases hlt : k < N
    · obtain ⟨x, hx⟩ : ∃ x, l[k]? = some x := ⟨_, List.getElem?_eq_getElem (by rw [H1.out]; exact hlt)⟩
      obtain ⟨y, hy⟩ : ∃ y, m[k]? = some y := ⟨_, List.getElem?_eq_getElem (by rw [H2.out]; exact hlt)⟩
      obtain ⟨ad, eX, hadb, hc1, hq1⟩ := (HL.out.on HB.out).at_ hx
      obtain ⟨ae, eY, haeb, hc2, hq2⟩ := (HM.out.on HB.out).at_ hy
      subst eX eY
      clear hadb haeb hq1 hq2
      have e3 : (k : Int) < (N : Int) := by omega
      have HBd := Lib.hid (HB.out.drew)
      by_cases hxy : x = y
      · subst hxy
        have HN := Lib.hid (Nf.take_both HT.out (hx.trans hy.symm))
        have hne : (x != x) = false := by cases x <;> rfl
        have hbb : (x == x) = true := beq_self_eq_true _
        clear hx hy HT
        go_wp2
        go_region
        go_wp2
        go_roundw
        case rel => exact ⟨k + 1, by omega, by go_num, HBd, HN⟩
        case measure => simp [intOf]; omega
      · have HE : Hid (decide (l = m) = false) := decide_eq_false fun q => hxy (by rw [q, hy] at hx; exact (Option.some.inj hx).symm)
        have hne : (x != y) = true := by cases x <;> cases y <;> first | rfl | exact absurd rfl hxy
        have hbb : (x == y) = false := by cases x <;> cases y <;> first | rfl | exact absurd rfl hxy
        clear hx hy HT hxy
        go_wp2
        go_region
        go_wp2
        go_ret
        exact ⟨by rw [HE.out]; rfl, HBd.out⟩
    · have HE : Hid (decide (l = m) = true) := decide_eq_true (Nf.take_all H1.out H2.out (by omega) HT.out)
      clear HT
      go_wp2
      go_ret
      exact ⟨by rw [HE.out]; rfl, HB.out⟩

/-! ### states with their words -/
/-- A state: its row of values and where it stands, its word and where that stands. -/
abbrev Sb := (Value × List Bool) × (Value × List Int)
def sRow (b : Sb) : List Bool := b.1.2
def eSt (bl : List Sb) : List Ent := bl.flatMap fun b => [eBools b.1.1 b.1.2, eInts b.2.1 b.2.2]
theorem eSt_snoc (bl : List Sb) (b : Sb) : eSt (bl ++ [b]) = eSt bl ++ [eBools b.1.1 b.1.2, eInts b.2.1 b.2.2] := by simp [eSt]
theorem eSt_mem {bl : List Sb} {b : Sb} (h : b ∈ bl) : eBools b.1.1 b.1.2 ∈ eSt bl ∧ eInts b.2.1 b.2.2 ∈ eSt bl :=
  ⟨List.mem_flatMap.2 ⟨b, h, by simp⟩, List.mem_flatMap.2 ⟨b, h, by simp⟩⟩
/-- Each state has the values of its word. -/
def WOk (n : Nat) (f : List Nd) (bl : List Sb) : Prop := ∀ (j : Nat) (b : Sb), bl[j]? = some b → b.1.2 = vec f b.2.2 ∧ b.2.2.length ≤ j ∧ ∀ x ∈ b.2.2, 0 ≤ x ∧ x < (n : Int)
theorem WOk.snoc {n : Nat} {f : List Nd} {bl : List Sb} {b : Sb} (h : WOk n f bl) (h1 : b.1.2 = vec f b.2.2) (h2 : b.2.2.length ≤ bl.length) (h3 : ∀ x ∈ b.2.2, 0 ≤ x ∧ x < (n : Int)) : WOk n f (bl ++ [b]) := fun j c hj => by
  by_cases hlt : j < bl.length
  · rw [List.getElem?_append_left hlt] at hj; exact h j c hj
  · rw [List.getElem?_append_right (by omega)] at hj
    rcases hk : j - bl.length with _ | k
    · rw [hk] at hj
      obtain rfl := Option.some.inj hj
      exact ⟨h1, by omega, h3⟩
    · rw [hk] at hj; simp at hj
theorem own_behind2 {w0 w : World} {x y : Ent} {es fs : List Ent} (h : Own w0 w (x :: y :: es) fs) : Own w0 w (es ++ [x, y]) fs := h.perm (List.perm_append_comm (l₁ := [x, y]) (l₂ := es))
theorem backS_row {L : Int} {f : List Nd} (hg : ∀ j n, f[j]? = some n → NdGood L j n) (u : List Int) {t : List Bool} (h : t ∈ backS L f (vec f u)) : t.length = f.length := by
  obtain ⟨a, _, rfl⟩ := List.mem_map.1 h
  rw [vec_next hg, vec_length]
theorem rch_len {L : Int} {f : List Nd} (hg : ∀ j n, f[j]? = some n → NdGood L j n) {r : List Bool} (h : Rch (backS L f) (vec f []) r) : ∃ u, r = vec f u := by
  induction h with
  | base => exact ⟨[], rfl⟩
  | next _ ht ih =>
    obtain ⟨u, rfl⟩ := ih
    obtain ⟨a, _, rfl⟩ := List.mem_map.1 ht
    exact ⟨(a : Int) :: u, vec_next hg _ _⟩
/-- A table's cells. -/
theorem tab_form {w0 wi : World} {es fs : List Ent} (h : Own w0 wi es fs) {t : TypeId} {v : Value} {l : List Value} (hm : ⟨t, 1, v, l.length, l⟩ ∈ es ++ fs) : ∃ A cap, v = .slice A l.length cap ∧ Cells wi wi.heap.size A l := by
  obtain ⟨A, cap, hv, _⟩ := h.form hm
  simp only at hv
  subst hv
  exact ⟨A, cap, rfl, h.cells hm⟩
theorem words_at {w0 wi : World} {es fs : List Ent} (h : Own w0 wi es fs) {v : Value} {l : List Int} (hm : eInts v l ∈ es ++ fs) (hs : ∀ x ∈ l, Small x) : ∃ A cap, v = .slice A l.length cap ∧ IntsAt wi wi.heap.size A l := by
  obtain ⟨A, cap, hv, _⟩ := h.form hm
  simp only [eInts] at hv
  subst hv
  exact ⟨A, cap, rfl, h.cells hm, hs⟩
/-- The state, midway. -/
def BkQ (w1 wr : World) (g gr n : Nat) (f : List Nd) (i : Nat) (lv wv : Value) : Prop :=
  ∃ (bl : List Sb) (nv fv : Value) (rs : List (Value × List Int)), Part (backS (n : Int) f) (vec f []) i (bl.map sRow) ∧ WOk n f bl ∧
    Build w1 wr g (eDfa gr zero4 :: eBRows lv (bl.map (·.1.1)) :: eRows wv (bl.map (·.2.1)) :: eSt bl) (n : Int) 0 (((bl.map sRow).take i).map (srow (backS (n : Int) f) (bl.map sRow))) (((bl.map sRow).take i).map (backF f)) nv fv rs
/-- The same within a row. -/
def BkT (w1 wi : World) (g gr n : Nat) (f : List Nd) (k : Nat) (l : List (List Bool)) (r : List Bool) (c : Nat) (nv fv : Value) (rs : List (Value × List Int)) (lv wv rv : Value) : Prop :=
  ∃ bl : List Sb, bl.map sRow = addAll l ((backS (n : Int) f r).take c) ∧ WOk n f bl ∧
    Own w1 wi (eBRows lv (bl.map (·.1.1)) :: eRows wv (bl.map (·.2.1)) :: eInts rv (trow (backS (n : Int) f) l r c) :: eRows nv (rs.map (·.1)) :: eBools fv ((l.take k).map (backF f)) :: eDfa g [.int .i64 (n : Int), .int .i64 0, nv, fv] :: eDfa gr zero4 :: eSt bl) (eEach rs)

/-- The first rows in another order. -/
theorem own_re_front {w0 w : World} {front xs fs : List Ent} (h : Own w0 w (front ++ xs) fs) (σ : List Nat) (n : Nat) (hn : front.length = n) (hσ : σ.Perm (List.range n)) : Own w0 w ((σ.filterMap fun i => front[i]?) ++ xs) fs := by
  refine h.perm ?_
  subst hn
  have := hσ.symm.filterMap (fun i => front[i]?)
  rw [filterMap_range] at this
  exact this.append_right xs
/-- From between two rows to within one. -/
theorem bk_order {w1 wr : World} {a b c d e g : Ent} {xs fs : List Ent} (h : Own w1 wr (a :: b :: c :: d :: e :: g :: xs) fs) : Own w1 wr (e :: g :: ⟨3, 1, .slice none 0 0, 0, []⟩ :: a :: b :: c :: d :: xs) fs :=
  own_re_front (front := [⟨3, 1, .slice none 0 0, 0, []⟩, a, b, c, d, e, g]) (h.nil 3 1) [5, 6, 0, 1, 2, 3, 4] 7 rfl (by decide)
theorem bk_close {w1 wr : World} {a b c d e g r x y : Ent} {xs fs : List Ent} (h : Own w1 wr (a :: b :: c :: x :: y :: d :: e :: g :: r :: xs) fs) : Own w1 wr (c :: b :: a :: d :: e :: g :: r :: (xs ++ [x, y])) fs :=
  own_behind2 (es := c :: b :: a :: d :: e :: g :: r :: xs) (own_re_front (front := [a, b, c, x, y, d, e, g, r]) h [3, 4, 2, 1, 0, 5, 6, 7, 8] 9 rfl (by decide))
theorem bk_rows {w1 wr : World} {a b c d e g r : Ent} {xs fs : List Ent} (h : Own w1 wr (a :: b :: c :: d :: e :: g :: r :: xs) fs) : Own w1 wr (a :: d :: e :: g :: r :: b :: c :: xs) fs :=
  own_re_front (front := [a, b, c, d, e, g, r]) h [0, 3, 4, 5, 6, 1, 2] 7 rfl (by decide)
set_option linter.unusedSimpArgs false in
set_option maxRecDepth 100000 in
set_option maxHeartbeats 4000000 in
theorem rback_any (n : Nat) (A0 : Option Addr) (c0 : Nat) (f : List Nd) (w : World) (hA : NodesAt w w.heap.size A0 f) (hg : FGood (n : Int) f) :
    Calls Tryd.prog 7 #[.int .i64 (n : Int), .slice A0 f.length c0] w fun e w' => Hid (∃ x, e = .returned (.tuple #[x, .int .i64 ((backOut (n : Int) f).2 : Nat)]) ∧ DfaOwn w w' x (backOut (n : Int) f).1) := by
  have h0 := hg.ne
  have hn1 : 1 ≤ n := by have := hg.l1; omega
  have hn6 : n ≤ 6 := by have := hg.l6; omega
  have hN40 := hg.le
  have HO := ((own_start w).dfa (.int .i64 0) (.int .i64 0) (.slice none 0 0) (.slice none 0 0)).dfa (.int .i64 (n : Int)) (.int .i64 0) (.slice none 0 0) (.slice none 0 0)
  rw [show (w.alloc (.cells #[.int .i64 0, .int .i64 0, .slice none 0 0, .slice none 0 0] 27)).heap.size = w.heap.size + 1 by simp] at HO
  have HO := HO.lit 37 1 1 #[.slice none 0 0] rfl (by simp [maxLen])
  rw [show ((w.alloc (.cells #[.int .i64 0, .int .i64 0, .slice none 0 0, .slice none 0 0] 27)).alloc (.cells #[.int .i64 (n : Int), .int .i64 0, .slice none 0 0, .slice none 0 0] 27)).heap.size = w.heap.size + 1 + 1 by simp] at HO
  obtain ⟨w3, hw3⟩ : ∃ w3, w3 = ((w.alloc (.cells #[.int .i64 0, .int .i64 0, .slice none 0 0, .slice none 0 0] 27)).alloc (.cells #[.int .i64 (n : Int), .int .i64 0, .slice none 0 0, .slice none 0 0] 27)).alloc (.cells #[.slice none 0 0] 37) := ⟨_, rfl⟩
  rw [← hw3] at HO
  have HW := Lib.hid hw3
  have HO3 := Lib.hid HO
  have HAt := Lib.hid (fun (W : World) (B : Option Addr) (cb : Nat) (zz : List Int) (hW : Below w.heap.size w W) (hB : IntsAt W W.heap.size B zz) (hz : Fine (n : Int) zz) => at_own A0 c0 f B cb zz W (hA.on hW) hB hg hz)
  have HG := Lib.hid hg
  have HFn : Hid (Fine (n : Int) []) := ⟨⟨hg.l1, hg.l6⟩, by simp, by simp⟩
  obtain ⟨gr, hgr⟩ : ∃ gr, gr = w.heap.size := ⟨_, rfl⟩
  obtain ⟨g, hgm⟩ : ∃ g, g = gr + 1 := ⟨_, rfl⟩
  have HGr := Lib.hid hgr
  have HGm := Lib.hid hgm
  clear hw3 HO hA hg hgr hgm
  have HVl := Lib.hid (vec_length f)
  obtain ⟨N, hN⟩ : ∃ N, f.length = N := ⟨_, rfl⟩
  have HN := Lib.hid hN
  rw [hN] at h0 hN40 HAt
  rw [hN]
  clear hN
  go_enter Tryd.func7, Tryd.ntmps7
  go_wp2_with fail
  rw [← HW.out]
  clear HW
  refine (HAt.out w3 none 0 [] HO3.out.below (IntsAt.nil _ _ _) HFn.out).mono ?_
  rintro e w5 he
  obtain ⟨A5, c5, rfl, ho⟩ := he.out
  have HQ : Hid (BkQ w (w5.alloc (.cells #[.slice A5 N c5] 25)) g gr n f 0 (.slice (some ⟨w5.heap.size, 0, none⟩) 1 1) (.slice (some ⟨g + 1, 0, none⟩) 1 1)) := by
    have h1 := ((HO3.out.join ho).nil 3 1).lit 25 1 1 #[.slice A5 N c5] rfl (by simp [maxLen])
    refine ⟨[((.slice A5 N c5, vec f []), (.slice none 0 0, []))], .slice none 0 0, .slice none 0 0, [], part_zero _ _, fun j b hj => ?_, rfl, ?_⟩
    · rcases j with _ | j
      · obtain rfl := Option.some.inj hj
        exact ⟨rfl, Nat.le_refl _, by simp⟩
      · simp at hj
    · rw [HGm.out, HGr.out]
      exact ((h1.re [4, 5, 0, 3, 2, 1] 6 rfl (by decide)).nil 4 1).nil 37 1
  clear he ho HO3 HFn
  rw [← HGr.out, ← HGm.out]
  go_wp2
  generalize w5.alloc (.cells #[.slice A5 N c5] 25) = w6 at *
  generalize (Value.slice (some ⟨w5.heap.size, 0, none⟩) 1 1) = lv0 at *
  generalize hwv0 : (Value.slice (some ⟨g + 1, 0, none⟩) 1 1) = wv0 at *
  clear hwv0
  go_loopw [7, 8, 9] (fun wv lv i wr => ∃ (k : Nat), k ≤ 40 ∧ i = .int .i64 k ∧ Hid (BkQ w wr g gr n f k lv wv)) (fun _ _ i _ => 41 - (intOf i).toNat)
  case atStart => exact ⟨0, by omega, rfl, HQ⟩
  case round =>
    clear HQ
    obtain ⟨k, hk, rfl, HQ⟩ := hrel
    obtain ⟨bl, nv, fv, rs, hpart, hwok, hbd⟩ := HQ.out
    have HP := Lib.hid hpart
    have HBd := Lib.hid hbd
    have HWo := Lib.hid hwok
    obtain ⟨Al, cl, hlv, _⟩ := tab_form hbd.2 (t := 25) (v := u8) (l := bl.map (·.1.1)) (by simp [eBRows])
    obtain ⟨Aw, cw, hwv, _⟩ := tab_form hbd.2 (t := 37) (v := u7) (l := bl.map (·.2.1)) (by simp [eRows])
    rw [List.length_map] at hlv hwv
    subst hlv hwv
    have h40 := hpart.n40
    have hkl := hpart.le
    rw [List.length_map] at h40 hkl
    clear HQ hpart hbd hwok
    by_cases hltk : k < bl.length
    · obtain ⟨r, hr⟩ : ∃ r, (bl.map sRow)[k]? = some r := ⟨_, List.getElem?_eq_getElem (by rw [List.length_map]; exact hltk)⟩
      have HRr := Lib.hid hr
      obtain ⟨HRS, hown⟩ := HBd.out
      have HRS := Lib.hid HRS
      have HT0 : Hid (BkT w wr g gr n f k (bl.map sRow) r 0 nv fv rs (.slice Al bl.length cl) (.slice Aw bl.length cw) (.slice none 0 0)) :=
        ⟨bl, rfl, HWo.out, bk_order hown⟩
      clear hown hr HBd
      generalize bl.map sRow = l at *
      go_wp2
      go_loopw [7, 8, 10, 11] (fun wv lv rv i wi => ∃ (q : Nat), q ≤ n ∧ i = .int .i64 q ∧ Hid (BkT w wi g gr n f k l r q nv fv rs lv wv rv)) (fun _ _ _ i _ => n - (intOf i).toNat)
      case atStart => exact ⟨0, by omega, rfl, HT0⟩
      case round =>
        clear HT0
        obtain ⟨q, hq, rfl, HT⟩ := hrel
        obtain ⟨bq, hbq, hwo, hto⟩ := HT.out
        have HBq := Lib.hid hbq
        have HWq := Lib.hid hwo
        obtain ⟨Aq, cq, hlv, hAq⟩ := tab_form hto (t := 25) (v := u8) (l := bq.map (·.1.1)) (by simp [eBRows])
        obtain ⟨Av, cv, hwv, hAv⟩ := tab_form hto (t := 37) (v := u7) (l := bq.map (·.2.1)) (by simp [eRows])
        rw [List.length_map] at hlv hwv
        subst hlv hwv
        have hrow : ∀ s ∈ bq.map sRow, s.length = N := by
          intro s hs
          obtain ⟨b, hb, rfl⟩ := List.mem_map.1 hs
          obtain ⟨j, hj, e⟩ := List.mem_iff_getElem.1 hb
          show b.1.2.length = N
          rw [(hwo j b (by rw [List.getElem?_eq_getElem hj, e])).1, HVl.out, HN.out]
        have hkr : (bq.map sRow)[k]? = some r := by
          obtain ⟨m, hm⟩ := addAll_prefix l ((backS (n : Int) f r).take q)
          rw [hbq, hm, List.getElem?_append_left (List.getElem?_eq_some_iff.1 HRr.out).1]; exact HRr.out
        obtain ⟨bk, hbk, hbr⟩ : ∃ b, bq[k]? = some b ∧ sRow b = r := by
          rw [List.getElem?_map] at hkr
          obtain ⟨b, hb, e⟩ := Option.map_eq_some_iff.1 hkr
          exact ⟨b, hb, e⟩
        obtain ⟨hk1, hk2, hk3⟩ := hwo k bk hbk
        have hkb : k < bq.length := (List.getElem?_eq_some_iff.1 hbk).1
        have hrv : r = vec f bk.2.2 := by rw [← hbr]; exact hk1
        by_cases hqn : q < n
        · as_aux_lemma =>
          have hlen : bq.length ≤ 46 := by
            have h1 := congrArg List.length hbq
            rw [List.length_map] at h1
            have h2 := addAll_length_le l ((backS (n : Int) f r).take q)
            have h3 := List.length_take (i := q) (l := backS (n : Int) f r)
            have h4 := HP.out.n40
            omega
          have HRow := Lib.hid hrow
          have hTg : (backS (n : Int) f r)[q]? = some (vec f ((q : Int) :: bk.2.2)) := by rw [hrv, backS_get f _ (by omega), vec_next HG.out.nd]
          have HTg := Lib.hid hTg
          have HAS := Lib.hid (addAll_succ (l := l) hTg)
          have HTS := Lib.hid (trow_step (l := l) hTg)
          have hTl : (trow (backS (n : Int) f) l r q).length ≤ 100 := by
            unfold trow
            have h2 := List.length_take (i := q) (l := backS (n : Int) f r)
            rw [List.length_map]; omega
          have hfine : Fine (n : Int) ((q : Int) :: bk.2.2) := ⟨⟨by omega, by omega⟩, by simp; omega, fun x hx => by
            rcases List.mem_cons.1 hx with rfl | hx
            · exact ⟨by omega, by omega⟩
            · exact hk3 x hx⟩
          have hsm : ∀ x ∈ bk.2.2, Small x := fun x hx => by have := hk3 x hx; exact ⟨by omega, by omega⟩
          obtain ⟨Ak, ck, hwk, hIk⟩ := words_at hto (v := bk.2.1) (l := bk.2.2) (List.mem_append_left _ (by simp [(eSt_mem (List.mem_of_getElem? hbk)).2])) hsm
          obtain ⟨adw, eAv, hadw, hcw⟩ := hAv k bk.2.1 (by rw [List.getElem?_map, hbk]; rfl)
          subst eAv
          rw [hwk] at hcw
          have HLit : Hid (Nums wr.heap.size wr [(q : Int)] (.slice (some ⟨wr.heap.size, 0, none⟩) 1 1) (wr.alloc (.cells #[.int .i64 (q : Int)] 3))) := ((own_start wr).lit 3 1 1 #[.int .i64 (q : Int)] rfl (by simp [maxLen])).to_nums
          have hbw := below_alloc wr (.cells #[.int .i64 (q : Int)] 3)
          have hcw1 := (hbw.cell (p := adw.add k) (by rw [Wd.block_add]; exact hadw)).trans hcw
          have HIk := Lib.hid (hIk.on hbw)
          have HTo := Lib.hid hto
          have HFi := Lib.hid hfine
          have HWl : Hid (bk.2.2.length ≤ k) := hk2
          have hwl : bk.2.2.length ≤ 100 := by omega
          have e5 : (k : Int) < (bq.length : Int) := by omega
          have HX1 : Hid ((vec f ((q : Int) :: bk.2.2)).length = N) := by rw [Hid, HVl.out, HN.out]
          have HK3 := Lib.hid hfine.2.2
          generalize hwd : bk.2.2 = wd at *
          generalize hbs : (l.take k).map (backF f) = bs at *
          have HBs := Lib.hid hbs
          generalize trow (backS (n : Int) f) l r q = tq at *
          clear hbs hto HT hcw hadw hIk hfine hTg hkr hrow hbq hwo hAq hAv hbr hk1 hk2 hk3 hrv hsm hbk hwd hwk
          go_wp2_with (at_builtin; refine app_ints (by rfl) _ _ (by rfl) (by rfl) HLit.out (by rfl) HIk.out (by simp; omega) ?_)
          intro v7 w7 hn7
          have hn7 : Nums wr.heap.size wr ((q : Int) :: wd) v7 w7 := hn7
          obtain ⟨A7, c7, hv7, hI7⟩ := words_at (Own.of_nums hn7) (v := v7) (l := (q : Int) :: wd) (by simp) (fun x hx => by have := HK3.out x hx; exact ⟨by omega, by omega⟩)
          subst hv7
          have HO7 := Lib.hid (HTo.out.join (Own.of_nums hn7))
          have HI7 := Lib.hid hI7
          clear hn7 hI7 HLit HIk HTo hcw1 hbw
          generalize hwt : (q : Int) :: wd = wt at *
          have HWt := Lib.hid hwt
          clear hwt
          go_wp2_with fail
          refine (HAt.out w7 A7 c7 wt HO7.out.below HI7.out HFi.out).mono ?_
          rintro e w8 he
          obtain ⟨A8, c8, rfl, ho8⟩ := he.out
          have HO8 := Lib.hid (HO7.out.join ho8)
          clear he ho8 HO7 HI7
          generalize ht : vec f wt = t at *
          have HVt := Lib.hid ht
          clear ht
          have HR2 : Hid (Own w w8 (eBools (.slice A8 N c8) t :: eInts (.slice A7 wt.length c7) wt :: eBRows (.slice Aq bq.length cq) (bq.map (·.1.1)) :: eRows (.slice (some adw) bq.length cv) (bq.map (·.2.1)) :: eInts u10 tq :: eRows nv (rs.map (·.1)) :: eBools fv bs :: eDfa g [.int .i64 (n : Int), .int .i64 0, nv, fv] :: eDfa gr zero4 :: eSt bq) (eEach rs)) := HO8.out
          have HY0 : Hid (t ∉ (bq.map sRow).take 0) := by simp [Hid]
          clear HO8
          go_wp2
          go_loopw [14] (fun i wi => ∃ (j : Nat), j ≤ bq.length ∧ i = .int .i64 j ∧ Hid (Own w wi (eBools (.slice A8 N c8) t :: eInts (.slice A7 wt.length c7) wt :: eBRows (.slice Aq bq.length cq) (bq.map (·.1.1)) :: eRows (.slice (some adw) bq.length cv) (bq.map (·.2.1)) :: eInts u10 tq :: eRows nv (rs.map (·.1)) :: eBools fv bs :: eDfa g [.int .i64 (n : Int), .int .i64 0, nv, fv] :: eDfa gr zero4 :: eSt bq) (eEach rs)) ∧ Hid (t ∉ (bq.map sRow).take j)) (fun i _ => bq.length - (intOf i).toNat)
          case atStart => exact ⟨0, by omega, rfl, HR2, HY0⟩
          case round =>
            clear HR2 HY0
            obtain ⟨j, hj, rfl, HR, HJ⟩ := hrel
            by_cases hjl : j < bq.length
            · have hjl' : j < (bq.map sRow).length := by rw [List.length_map]; exact hjl
              obtain ⟨bj, hbj⟩ : ∃ b, bq[j]? = some b := ⟨_, List.getElem?_eq_getElem hjl⟩
              have hs : (bq.map sRow)[j] = sRow bj := by rw [List.getElem_map]; exact congrArg sRow (Option.some.inj ((List.getElem?_eq_getElem hjl).symm.trans hbj))
              have hlj : (sRow bj).length = N := by rw [← hs]; exact HRow.out _ (List.getElem_mem _)
              obtain ⟨Ar, cr, elv, hAr⟩ := tab_form HR.out (t := 25) (v := .slice Aq bq.length cq) (l := bq.map (·.1.1)) (by simp [eBRows])
              rw [List.length_map] at elv
              simp only [Value.slice.injEq, true_and] at elv
              obtain ⟨rfl, rfl⟩ := elv
              obtain ⟨adj, eAj, hadj, hcj⟩ := hAr j bj.1.1 (by rw [List.getElem?_map, hbj]; rfl)
              subst eAj
              obtain ⟨Aj, cj, hvj, _, _, hRj⟩ := Df.own_bools HR.out (fv := bj.1.1) (bs := bj.1.2) (List.mem_append_left _ (by simp [(eSt_mem (List.mem_of_getElem? hbj)).1]))
              rw [hvj, show bj.1.2.length = N from hlj] at hcj
              obtain ⟨At, ct, hvt, _, _, hRt⟩ := Df.own_bools HR.out (fv := .slice A8 N c8) (bs := t) (by simp)
              rw [HX1.out] at hvt
              simp only [Value.slice.injEq, true_and] at hvt
              obtain ⟨rfl, rfl⟩ := hvt
              have HS := Lib.hid (same_any Aj A8 cj c8 N (sRow bj) t wr hRj hRt (by omega) hlj HX1.out)
              have e6 : (j : Int) < (bq.length : Int) := by omega
              by_cases hst : sRow bj = t
              · as_aux_lemma =>
                have HF1 : Hid (addTo (bq.map sRow) t = bq.map sRow ∧ num (bq.map sRow) t = j) := ⟨by unfold addTo; rw [if_pos (by rw [← hst, ← hs]; exact List.getElem_mem hjl')], idx_at HJ.out hjl' (by rw [← hst, ← hs])⟩
                rw [decide_eq_true hst] at HS
                have f3 := int_ne (show (j : Int) ≠ (bq.length : Int) by omega)
                clear hst hs hRj hRt hAr HJ hvj hbj hlj
                go_wp2_with fail
                refine HS.out.mono ?_
                rintro e w9 ⟨rfl, hb⟩
                have HR3 := Lib.hid ((HR.out.on hb).tail.tail.three)
                clear hb HS HR hcj hadj
                go_wp2_with (at_builtin; refine own_int (by rfl) _ _ (by rfl) (by rfl) HR3.out (by rfl) (by omega) ?_)
                intro g9 cap9 w9 ho9
                have HN1 : Hid (BkT w w9 g gr n f k l r (q + 1) nv fv rs (.slice (some adj) bq.length cq) (.slice (some adw) bq.length cv) (.slice (some ⟨g9, 0, none⟩) (tq.length + 1) cap9)) := by
                  refine ⟨bq, by rw [HAS.out, ← HBq.out, HF1.out.1], HWq.out, ?_⟩
                  rw [HTS.out, ← HBq.out, HF1.out.1, HF1.out.2, HBs.out]
                  exact ho9.three'
                clear ho9 HR3
                go_wp2
                go_roundw
                case rel => exact ⟨q + 1, by omega, by go_num, HN1⟩
                case measure => simp [intOf]; omega
              · as_aux_lemma =>
                have HJ1 := Lib.hid (notin_take_succ HJ.out hjl' (fun q => hst (by rw [← hs]; exact q.symm)))
                rw [decide_eq_false hst] at HS
                clear hst hs hRj hRt hAr HJ hvj hbj hlj
                go_wp2_with fail
                refine HS.out.mono ?_
                rintro e w9 ⟨rfl, hb⟩
                have HR3 := Lib.hid (HR.out.on hb)
                clear hb HS HR hcj hadj
                go_wp2
                go_roundw
                case rel => exact ⟨j + 1, by omega, by go_num, HR3, HJ1⟩
                case measure => simp [intOf]; omega
            · as_aux_lemma =>
              obtain rfl : j = bq.length := by omega
              have hnm : t ∉ bq.map sRow := by
                have := HJ.out
                rwa [List.take_of_length_le (by rw [List.length_map]; exact Nat.le_refl _)] at this
              have HF2 : Hid (addTo (bq.map sRow) t = (bq ++ [((Value.slice A8 N c8, t), (Value.slice A7 wt.length c7, wt))]).map sRow ∧ num ((bq ++ [((Value.slice A8 N c8, t), (Value.slice A7 wt.length c7, wt))]).map sRow) t = bq.length) := by
                rw [List.map_append]
                refine ⟨by unfold addTo; rw [if_neg hnm]; rfl, ?_⟩
                have q := idx_new hnm
                rw [List.length_map] at q
                exact q
              have HWn : Hid (WOk n f (bq ++ [((Value.slice A8 N c8, t), (Value.slice A7 wt.length c7, wt))])) := HWq.out.snoc HVt.out.symm (by have := HWl.out; show wt.length ≤ _; rw [← HWt.out, List.length_cons]; omega) HK3.out
              have f3 := int_eq (show (bq.length : Int) = (bq.length : Int) from rfl)
              have HR3 := Lib.hid HR.out.three
              have hl1 : (bq.map (·.1.1)).length < 1099511627776 := by rw [List.length_map]; omega
              have hl2 : (bq.map (·.2.1)).length < 1099511627776 := by rw [List.length_map]; omega
              clear hnm HJ HR
              go_wp2_with (at_builtin; refine own_brow (by rfl) _ _ (by rfl) (by rfl) HR3.out (by rfl) (by rfl) hl1 ?_)
              intro g7 cap7 w9 ho9
              have HO9 := Lib.hid ho9.four
              clear ho9 HR3
              go_wp2_with (at_builtin; refine own_row (by rfl) _ _ (by rfl) (by rfl) HO9.out (by rfl) (by rfl) hl2 ?_)
              intro g8 cap8 w10 ho10
              have HO10 := Lib.hid ho10.five
              clear ho10 HO9
              go_wp2_with (at_builtin; refine own_int (by rfl) _ _ (by rfl) (by rfl) HO10.out (by rfl) (by omega) ?_)
              intro g9 cap9 w11 ho11
              have HN1 : Hid (BkT w w11 g gr n f k l r (q + 1) nv fv rs (.slice (some ⟨g7, 0, none⟩) (bq.length + 1) cap7) (.slice (some ⟨g8, 0, none⟩) (bq.length + 1) cap8) (.slice (some ⟨g9, 0, none⟩) (tq.length + 1) cap9)) := by
                refine ⟨bq ++ [((Value.slice A8 N c8, t), (Value.slice A7 wt.length c7, wt))], by rw [HAS.out, ← HBq.out, HF2.out.1], HWn.out, ?_⟩
                rw [HTS.out, ← HBq.out, HF2.out.1, HF2.out.2, HBs.out, eSt_snoc, List.map_append, List.map_append]
                exact bk_close ho11
              clear ho11 HO10
              go_wp2
              go_roundw
              case rel => exact ⟨q + 1, by omega, by go_num, HN1⟩
              case measure => simp [intOf]; omega
        · as_aux_lemma =>
          obtain rfl : q = n := by omega
          have hS2 : (backS (q : Int) f r).length = q := by unfold backS; simp
          rw [trow_full hS2] at hto
          rw [List.take_of_length_le (by omega)] at hbq
          have HStep := Lib.hid (HP.out.step HRr.out)
          have HRow := Lib.hid (rows_next HP.out HRr.out)
          have HFlag := Lib.hid (flags_next (S := backS (q : Int) f) (l := l) (backF f) HRr.out)
          rw [← hbq] at hto HStep HRow HFlag
          rw [List.length_map] at HStep
          have hlb : l.length ≤ 40 := HP.out.n40
          clear hS2 HT HBq
          by_cases hfull : 40 < bq.length
          · as_aux_lemma =>
            have hfull' : (40 : Int) < (bq.length : Int) := by omega
            have HNo : Hid (backOut (q : Int) f = (zeroA, 4)) := explOut_none (HStep.out.1 hfull)
            have HR2 := Lib.hid (Nf.own_front [_, _, _, _, _, _] hto)
            obtain ⟨hr0, hf0⟩ := HR2.out.dcell (g := gr) (l := zero4) (j := 0) (by simp) rfl
            obtain ⟨hr1, hf1⟩ := HR2.out.dcell (g := gr) (l := zero4) (j := 1) (by simp) rfl
            obtain ⟨hr2, hf2⟩ := HR2.out.dcell (g := gr) (l := zero4) (j := 2) (by simp) rfl
            obtain ⟨hr3, hf3⟩ := HR2.out.dcell (g := gr) (l := zero4) (j := 3) (by simp) rfl
            have HEnd := Lib.hid (res_bad HR2.out rfl)
            clear HR2 hto
            go_wp2
            obtain ⟨k2, k3, k4, k5, k6⟩ := HEnd.out
            exact bodyPost_ret (results_dfa rfl _ rfl k3 k4 k5 k6) rfl ⟨_, by rw [HNo.out]; rfl, by rw [HNo.out]; exact dfaOwn_zero k2⟩
          · have hfull' : ¬ (40 : Int) < (bq.length : Int) := by omega
            have HPn := Lib.hid (HStep.out.2 hfull)
            have HBb := Lib.hid hbk
            have HWk := Lib.hid hwo
            obtain ⟨adl, eA, hadb, hcell⟩ := hAq k bk.1.1 (by rw [List.getElem?_map, hbk]; rfl)
            subst eA
            have hkN : bk.1.2.length = N := by rw [hk1, HVl.out, HN.out]
            obtain ⟨Ak, ck, hvk, _, _, hRk⟩ := Df.own_bools hto (fv := bk.1.1) (bs := bk.1.2) (List.mem_append_left _ (by simp [(eSt_mem (List.mem_of_getElem? hbk)).1]))
            rw [hkN] at hvk
            have HVk := Lib.hid hvk
            obtain ⟨bb, hbb⟩ : ∃ b, bk.1.2[N - 1]? = some b := ⟨_, List.getElem?_eq_getElem (by omega)⟩
            have HBB := Lib.hid hbb
            obtain ⟨adr, eAk, hadr, hcr, _⟩ := hRk.at_ hbb
            subst eAk
            have HFb : Hid (backF f r = bb) := by
              rw [Hid, ← hbr]
              show bk.1.2.getD (f.length - 1) false = bb
              rw [HN.out, List.getD_eq_getElem?_getD, hbb]; rfl
            obtain ⟨Ar', cr', hrv2, _⟩ := own_read hto (v := u10) (l := srow (backS (q : Int) f) (bq.map sRow) r) (by simp)
            subst hrv2
            have HLen : Hid ((rs.map (·.1)).length < 1099511627776 ∧ ((l.take k).map (backF f)).length < 17592186044416) := by
              have h1 := congrArg List.length HRS.out
              rw [List.length_map, List.length_map, List.length_take] at h1
              exact ⟨by rw [List.length_map]; omega, by rw [List.length_map, List.length_take]; omega⟩
            have HR3 := Lib.hid (Nf.own_front [_, _, _] hto)
            obtain ⟨hg2, hgf2⟩ := hto.dcell (g := g) (l := [.int .i64 (q : Int), .int .i64 0, nv, fv]) (j := 2) (by simp) rfl
            clear hto hcell hAq hAv HStep hkr hrow hbq hadb hadr hcr hRk hvk hbb hkN hk1 hk2 hk3 hrv hbr hbk hwo
            generalize hrw : (l.take k).map (srow (backS (q : Int) f) l) = rws at *
            generalize hbs : (l.take k).map (backF f) = bs at *
            generalize hr9 : ((bq.map sRow).take (k + 1)).map (srow (backS (q : Int) f) (bq.map sRow)) = rws9 at *
            have HR9 := Lib.hid hr9
            generalize hs9 : srow (backS (q : Int) f) (bq.map sRow) r = row at *
            clear hrw hbs hr9 hs9
            go_wp2_with (at_builtin; refine own_row (by rfl) _ _ (by rfl) (by rfl) HR3.out (by rfl) (by rfl) HLen.out.1 ?_)
            intro g8 cap8 w8 ho8
            have hlr : rs.length = (rs.map (·.1)).length := (List.length_map _).symm
            have HB9 : Hid (Build w (w8.setCell ⟨g, 2, none⟩ (.slice (some ⟨g8, 0, none⟩) (rs.length + 1) cap8)) g (eDfa gr zero4 :: eBRows (.slice (some adl) bq.length cq) (bq.map (·.1.1)) :: eRows (.slice Av bq.length cv) (bq.map (·.2.1)) :: eSt bq) (q : Int) 0 (rws ++ [row]) bs (.slice (some ⟨g8, 0, none⟩) (rs.length + 1) cap8) fv (rs ++ [(.slice Ar' row.length cr', row)])) :=
              build_row HRS.out (bk_rows ho8) rfl
            obtain ⟨hk8, hf8⟩ := ho8.dcell (g := g) (l := [.int .i64 (q : Int), .int .i64 0, nv, fv]) (j := 2) (by simp) rfl
            rw [← HRow.out] at HB9
            clear ho8 hg2 hgf2 HR3 hlr
            go_wp2
            generalize hw9 : w8.setCell ⟨g, 2, none⟩ (.slice (some ⟨g8, 0, none⟩) (rs.length + 1) cap8) = w9 at *
            generalize (Value.slice (some ⟨g8, 0, none⟩) (rs.length + 1) cap8) = nv9 at *
            generalize (rs ++ [(Value.slice Ar' row.length cr', row)]) = rs9 at *
            clear hk8 hf8 hw9
            obtain ⟨m, hm⟩ : ∃ m, m = N - 1 := ⟨_, rfl⟩
            have e8 : IntKind.i64.wrap ((N : Int) - 1) = (m : Int) := by rw [IntWalk.i64_in _ ⟨by omega, by omega⟩]; omega
            have e9 : (m : Int) < (N : Int) := by omega
            have e10 : (0 : Int) ≤ (m : Int) := by omega
            rw [← hm] at HBB
            clear hm
            have HK : Hid (∀ W es fs, Own w W es fs → eDfa g [.int .i64 (q : Int), .int .i64 0, nv9, fv] ∈ es ++ fs ∧ eBRows (.slice (some adl) bq.length cq) (bq.map (·.1.1)) ∈ es ++ fs ∧ eBools bk.1.1 bk.1.2 ∈ es ++ fs → W.cell? ⟨g, 3, none⟩ = some fv ∧ W.cell? (adl.add k) = some (.slice (some adr) N ck) ∧ W.cell? (adr.add m) = some (.bool bb)) := fun W es fs hW hm => by
              have hm1 := hm.2.1
              have hlq : bq.length = (bq.map (·.1.1)).length := (List.length_map _).symm
              unfold eBRows at hm1
              obtain ⟨A9, c9, e9, h9⟩ := tab_form hW hm1
              rw [List.length_map] at e9
              simp only [Value.slice.injEq, true_and] at e9
              obtain ⟨rfl, rfl⟩ := e9
              obtain ⟨ad9, e9, _, h9⟩ := h9 k bk.1.1 (by rw [List.getElem?_map, HBb.out]; rfl)
              cases e9
              obtain ⟨A8, c8, e8, _, _, h8⟩ := Df.own_bools hW hm.2.2
              have e7 := HVk.out
              rw [e8] at e7
              simp only [Value.slice.injEq] at e7
              obtain ⟨rfl, _, rfl⟩ := e7
              obtain ⟨ad8, e7, _, h7, _⟩ := h8.at_ HBB.out
              cases e7
              exact ⟨(hW.dcell hm.1 rfl).1, by rw [h9, HVk.out], h7⟩
            have HO9 := Lib.hid HB9.out.2.two
            have HEk : Hid (eBools bk.1.1 bk.1.2 ∈ eSt bq) := (eSt_mem (List.mem_of_getElem? HBb.out)).1
            have e7 : (k : Int) < (bq.length : Int) := by omega
            refine wp_region_Z ((fun W => W.cell? ⟨g, 3, none⟩ = some fv ∧ W.cell? (adl.add k) = some (.slice (some adr) N ck) ∧ W.cell? (adr.add m) = some (.bool bb))) 14 (by kernel_rfl) (HK.out _ _ _ (HB9.out.2.on (Below.refl _ _).drew) (by simp [HEk.out])) (fun hHeld => ?_)
            refine Nf.wpZ_takeD (some 84) (i := 0) (v := ?_) rfl rfl (by kernel_rfl) (by kernel_rfl) (by kernel_rfl) (by kernel_rfl) (fun _ _ _ h => h) (Or.inl ⟨by rfl, ?_⟩) hHeld ?_
            rotate_left
            · (go_light; intro w9 hSw; (try dsimp only at hSw); go_simp; try with_reducible rfl)
            try simp only [Act.put, List.setIfInBounds_toArray, List.set_cons_zero, List.set_cons_succ]
            refine Nf.wpZ_takeD (some 85) (i := 1) (v := ?_) rfl rfl (by kernel_rfl) (by kernel_rfl) (by kernel_rfl) (by kernel_rfl) (fun _ _ _ h => h) (Or.inl ⟨by rfl, ?_⟩) hHeld ?_
            rotate_left
            · (go_light; intro w9 hSw; (try dsimp only at hSw); go_simp; try with_reducible rfl)
            try simp only [Act.put, List.setIfInBounds_toArray, List.set_cons_zero, List.set_cons_succ]
            refine Nf.wpZ_takeD (some 86) (i := 2) (v := ?_) rfl rfl (by kernel_rfl) (by kernel_rfl) (by kernel_rfl) (by kernel_rfl) (fun _ _ _ h => h) (Or.inl ⟨by rfl, ?_⟩) hHeld ?_
            rotate_left
            · (go_light; intro w9 hSw; (try dsimp only at hSw); go_simp; try with_reducible rfl)
            try simp only [Act.put, List.setIfInBounds_toArray, List.set_cons_zero, List.set_cons_succ]
            refine Nf.wpZ_takeD (some 87) (i := 3) (v := ?_) rfl rfl (by kernel_rfl) (by kernel_rfl) (by kernel_rfl) (by kernel_rfl) (fun _ _ _ h => h) (Or.inl ⟨by rfl, ?_⟩) hHeld ?_
            rotate_left
            · (go_light; intro w9 hSw; (try dsimp only at hSw); go_simp; try with_reducible rfl)
            try simp only [Act.put, List.setIfInBounds_toArray, List.set_cons_zero, List.set_cons_succ]
            refine Nf.wpZ_takeD (some 88) (i := 4) (v := ?_) rfl rfl (by kernel_rfl) (by kernel_rfl) (by kernel_rfl) (by kernel_rfl) (fun _ _ _ h => h) (Or.inl ⟨by rfl, ?_⟩) hHeld ?_
            rotate_left
            · (go_light; intro w9 hSw; (try dsimp only at hSw); go_simp; try with_reducible rfl)
            try simp only [Act.put, List.setIfInBounds_toArray, List.set_cons_zero, List.set_cons_succ]
            refine Nf.wpZ_takeD (some 89) (i := 5) (v := ?_) rfl rfl (by kernel_rfl) (by kernel_rfl) (by kernel_rfl) (by kernel_rfl) (fun _ _ _ h => h) (Or.inl ⟨by rfl, ?_⟩) hHeld ?_
            rotate_left
            · (go_light; intro w9 hSw; (try dsimp only at hSw); go_simp; try with_reducible rfl)
            try simp only [Act.put, List.setIfInBounds_toArray, List.set_cons_zero, List.set_cons_succ]
            refine Nf.wpZ_takeD (some 90) (i := 6) (v := ?_) rfl rfl (by kernel_rfl) (by kernel_rfl) (by kernel_rfl) (by kernel_rfl) (fun _ _ _ h => h) (Or.inl ⟨by rfl, ?_⟩) hHeld ?_
            rotate_left
            · (go_light; intro w9 hSw; (try dsimp only at hSw); go_simp; try with_reducible rfl)
            try simp only [Act.put, List.setIfInBounds_toArray, List.set_cons_zero, List.set_cons_succ]
            refine Nf.wpZ_takeD (some 91) (i := 7) (v := ?_) rfl rfl (by kernel_rfl) (by kernel_rfl) (by kernel_rfl) (by kernel_rfl) (fun _ _ _ h => h) (Or.inl ⟨by rfl, ?_⟩) hHeld ?_
            rotate_left
            · (go_light; intro w9 hSw; (try dsimp only at hSw); go_simp; try with_reducible rfl)
            try simp only [Act.put, List.setIfInBounds_toArray, List.set_cons_zero, List.set_cons_succ]
            refine Nf.wpZ_takeD (some 92) (i := 8) (v := ?_) rfl rfl (by kernel_rfl) (by kernel_rfl) (by kernel_rfl) (by kernel_rfl) (fun _ _ _ h => h) (Or.inl ⟨by rfl, ?_⟩) hHeld ?_
            rotate_left
            · (go_light; intro w9 hSw; (try dsimp only at hSw); go_simp; try with_reducible rfl)
            try simp only [Act.put, List.setIfInBounds_toArray, List.set_cons_zero, List.set_cons_succ]
            refine Nf.wpZ_takeD (some 93) (i := 9) (v := ?_) rfl rfl (by kernel_rfl) (by kernel_rfl) (by kernel_rfl) (by kernel_rfl) (fun _ _ _ h => h) (Or.inl ⟨by rfl, ?_⟩) hHeld ?_
            rotate_left
            · (go_light; intro w9 hSw; (try dsimp only at hSw); go_simp; try with_reducible rfl)
            try simp only [Act.put, List.setIfInBounds_toArray, List.set_cons_zero, List.set_cons_succ]
            refine Nf.wpZ_takeD (some 94) (i := 10) (v := ?_) rfl rfl (by kernel_rfl) (by kernel_rfl) (by kernel_rfl) (by kernel_rfl) (fun _ _ _ h => h) (Or.inl ⟨by rfl, ?_⟩) hHeld ?_
            rotate_left
            · (go_light; intro w9 hSw; (try dsimp only at hSw); go_simp; try with_reducible rfl)
            try simp only [Act.put, List.setIfInBounds_toArray, List.set_cons_zero, List.set_cons_succ]
            refine wpZ_one (i := 11) rfl (by kernel_rfl) (fun K hK => ?_)
            go_simp
            refine hK.out _ _ (fun _ => HK.out _ _ _ ((HO9.out.on (Below.refl _ _).drew).alloc _) (by simp [HEk.out])) (fun hHeld9 => ?_)
            replace hHeld := hHeld9 (by decide)
            clear hHeld9
            clear hK K
            try simp only [Act.put, List.setIfInBounds_toArray, List.set_cons_zero, List.set_cons_succ]
            refine wpZ_one (i := 12) rfl (by kernel_rfl) (fun K hK => ?_)
            refine step_own_bool (by rfl) _ _ (by rfl) (by rfl) (HO9.out.on (Below.refl _ _).drew) (by rfl) HLen.out.2 ?_
            intro g11 cap11 w11 ho11
            refine hK.out _ _ (fun _ => HK.out _ _ _ ho11 (by simp [HEk.out])) (fun hHeld9 => ?_)
            replace hHeld := hHeld9 (by decide)
            clear hHeld9
            clear hK K
            try simp only [Act.put, List.setIfInBounds_toArray, List.set_cons_zero, List.set_cons_succ]
            refine Nf.wpZ_takeD (some 97) (i := 13) (v := ?_) rfl rfl (by kernel_rfl) (by kernel_rfl) (by kernel_rfl) (by kernel_rfl) (fun _ _ _ h => h) (Or.inl ⟨by rfl, ?_⟩) hHeld ?_
            rotate_left
            · (go_light; intro w9 hSw; (try dsimp only at hSw); go_simp; try with_reducible rfl)
            try simp only [Act.put, List.setIfInBounds_toArray, List.set_cons_zero, List.set_cons_succ]
            refine wpZ_one (i := 14) rfl (by kernel_rfl) (fun K hK => ?_)
            have hk4 := (ho11.dcell (g := g) (l := [.int .i64 (q : Int), .int .i64 0, nv9, fv]) (j := 3) (by simp) rfl).2
            go_simp
            refine hK.out _ _ (fun k => absurd rfl k) (fun _ => ?_)
            clear hK K
            try simp only [Act.put, List.setIfInBounds_toArray, List.set_cons_zero, List.set_cons_succ]
            refine wpZ_done (by kernel_rfl) ?_ _
            have HBf := build_flag HB9.out.1 ho11 rfl
            have HN1 : Hid (BkQ w (w11.setCell ⟨g, 3, none⟩ (.slice (some ⟨g11, 0, none⟩) (bs.length + 1) cap11)) g gr q f (k + 1) (.slice (some adl) bq.length cq) (.slice Av bq.length cv)) := by
              refine ⟨bq, nv9, .slice (some ⟨g11, 0, none⟩) (bs.length + 1) cap11, rs9, HPn.out, HWk.out, ?_⟩
              rw [HFlag.out, HR9.out, HFb.out]
              exact HBf
            clear HBf ho11 HB9 HO9 HK hk4 hHeld
            go_wp2
            go_roundw
            case rel => exact ⟨k + 1, by omega, by go_num, HN1⟩
            case measure => simp [intOf]; omega
    · as_aux_lemma =>
      obtain rfl : k = bl.length := by omega
      have HNo : Hid (backOut (n : Int) f = (⟨(n : Int), 0, (bl.map sRow).map (srow (backS (n : Int) f) (bl.map sRow)), (bl.map sRow).map (backF f)⟩, 0)) := explOut_some (HP.out.stop (by rw [List.length_map]; exact Nat.le_refl _))
      rw [List.take_of_length_le (by rw [List.length_map]; exact Nat.le_refl _)] at HBd
      have HSm := Lib.hid (srow_small (backS (n : Int) f) (bl.map sRow) (by rw [List.length_map]; exact h40))
      clear HP
      generalize (bl.map sRow).map (srow (backS (n : Int) f) (bl.map sRow)) = rows at *
      generalize (bl.map sRow).map (backF f) = bs at *
      obtain ⟨A2, c2, F2, cf2, e1, e2⟩ := HBd.out.form
      obtain ⟨hg0, hg1, hg2, hg3⟩ := HBd.out.str
      obtain ⟨hr0, hf0⟩ := HBd.out.res (j := 0) (by omega)
      obtain ⟨hr1, hf1⟩ := HBd.out.res (j := 1) (by omega)
      obtain ⟨hr2, hf2⟩ := HBd.out.res (j := 2) (by omega)
      obtain ⟨hr3, hf3⟩ := HBd.out.res (j := 3) (by omega)
      subst e1 e2
      have HEnd := Lib.hid (build_end HBd.out HSm.out ⟨by omega, by omega⟩ ⟨by omega, by omega⟩ rfl)
      generalize rows.length = nr at *
      generalize bs.length = nb at *
      go_wp2
      obtain ⟨k1, k3, k4, k5, k6⟩ := HEnd.out
      exact bodyPost_ret (results_dfa rfl _ rfl k3 k4 k5 k6) rfl ⟨_, by rw [HNo.out]; rfl, by rw [HNo.out]; exact k1⟩
end Go.Proofs.YtnlkkfcjonchgaaDoor.Fm

namespace Go.Proofs.YtnlkkfcjonchgaaDoor.Fm
open Go.RowKit Go.IntWalk Go.Proofs.YtnlkkfcjonchgaaDoor.Wd Go.Proofs.YtnlkkfcjonchgaaDoor.Wo Go.Proofs.YtnlkkfcjonchgaaDoor.Df

set_option maxRecDepth 100000 in
set_option maxHeartbeats 4000000 in
theorem rbmake_any (n : Nat) (A0 : Option Addr) (c0 : Nat) (f : List Nd) (w : World) (hA : NodesAt w w.heap.size A0 f) (hg : FGood (n : Int) f) :
    Calls Tryd.prog 8 #[.int .i64 (n : Int), .slice A0 f.length c0] w fun e w' => Hid (∃ x, e = .returned (.tuple #[x, .int .i64 ((mkOut (n : Int) f).2 : Nat)]) ∧ DfaOwn w w' x (mkOut (n : Int) f).1) := by
  obtain ⟨w1, hw1⟩ : ∃ w1, w1 = w.alloc (.cells #[.int .i64 0, .int .i64 0, .slice none 0 0, .slice none 0 0] 27) := ⟨_, rfl⟩
  have hO : Own w w1 [eDfa w.heap.size zero4] [] := by rw [hw1]; exact (own_start w).dfa (.int .i64 0) (.int .i64 0) (.slice none 0 0) (.slice none 0 0)
  have HBk := Lib.hid (rback_any n A0 c0 f w1 (hA.on hO.below) hg)
  have hbo : bkOut (n : Int) f = backOut (n : Int) f := bkOut_ok (fchk_iff.2 hg)
  rw [← hbo] at HBk
  have W0 := Lib.hid hw1
  have R := Lib.hid hO
  have B := Lib.hid hO.below
  clear hw1 hO hA hbo
  by_cases h0 : (bkOut (n : Int) f).2 = 0
  · obtain ⟨_, _, _, _, gd⟩ := bkOut_good h0
    have HM : Hid (mkOut (n : Int) f = Nf.makeOut (Nf.mir (Nf.ofA (bkOut (n : Int) f).1))) := by unfold Hid mkOut; rw [if_pos h0]
    rw [h0] at HBk
    generalize (bkOut (n : Int) f).1 = d at *
    have go := Nf.of_good gd
    have HOf := Lib.hid (fun W v (h : DfaAt W W.heap.size v d) => Nf.rof_any v d W h gd)
    have HMir := Lib.hid (fun W v (h : Nf.NfaAt W W.heap.size v (Nf.ofA d)) => Nf.rmir_any v (Nf.ofA d) W h go)
    have HMk := Lib.hid (fun W v (h : Nf.NfaAt W W.heap.size v (Nf.mir (Nf.ofA d))) => Nf.rmake_any v (Nf.mir (Nf.ofA d)) W h (Nf.mir_good go))
    rw [HM.out]
    generalize Nf.makeOut (Nf.mir (Nf.ofA d)) = PO at *
    obtain ⟨po, en⟩ := PO
    simp only at HMk ⊢
    clear h0 HM gd go hg
    generalize Nf.mir (Nf.ofA d) = M at *
    generalize Nf.ofA d = O at *
    generalize (en : Int) = E at *
    generalize f.length = N at *
    go_enter Tryd.func8, Tryd.ntmps8
    go_wp2_with fail
    rw [← W0.out]
    clear W0
    refine HBk.out.mono ?_
    rintro e u0 he
    obtain ⟨x, h6, ho⟩ := he.out
    subst h6
    have hd := Lib.hid ho.at_
    have hb := ho.below
    have R := Lib.hid (R.out.on hb)
    have B := Lib.hid (B.out.trans (hb.mono B.out.size))
    obtain ⟨L5, s5, A5, n5, c5, F5, m5, k5, rfl⟩ := hd.out.form
    obtain ⟨x1, hx1, hbn, Vn⟩ := var_new u0 hd.out
    have HX := Lib.hid hx1
    have VA := Lib.hid Vn
    have R := Lib.hid (R.out.on hbn)
    have B := Lib.hid (B.out.trans (hbn.mono B.out.size))
    clear hbn hd hx1 hb ho he HBk Vn
    obtain ⟨p0, p1, p2, p3, p4⟩ := VA.out.box
    go_wp2_with fail
    rw [← HX.out]
    clear HX
    refine (HOf.out _ _ VA.out.at_).mono ?_
    rintro e u1 ⟨he, hb⟩
    obtain ⟨x, rfl, ho⟩ := he.out
    have HA1 := Lib.hid ho.at_
    have R := Lib.hid (R.out.on hb)
    have B := Lib.hid (B.out.trans (hb.mono B.out.size))
    clear hb p0 p1 p2 p3 p4 HOf VA he ho
    go_wp2_with fail
    refine (HMir.out _ _ HA1.out).mono ?_
    rintro e u2 ⟨he, hb⟩
    obtain ⟨x2, rfl, ho⟩ := he.out
    have HA2 := Lib.hid ho.at_
    have R := Lib.hid (R.out.on hb)
    have B := Lib.hid (B.out.trans (hb.mono B.out.size))
    clear hb HMir he ho HA1
    go_wp2_with fail
    refine (HMk.out _ _ HA2.out).mono ?_
    rintro e u3 he
    obtain ⟨x3, h6, ho⟩ := he.out
    subst h6
    obtain ⟨L13, s13, A13, n13, c13, F13, m13, k13, rfl⟩ := ho.at_.form
    have HRO := Lib.hid (res_own R.out ho rfl)
    have R := Lib.hid (R.out.on ho.below)
    obtain ⟨hr0, hf0⟩ := R.out.dcell (g := w.heap.size) (l := zero4) (j := 0) (by simp) rfl
    obtain ⟨hr1, hf1⟩ := R.out.dcell (g := w.heap.size) (l := zero4) (j := 1) (by simp) rfl
    obtain ⟨hr2, hf2⟩ := R.out.dcell (g := w.heap.size) (l := zero4) (j := 2) (by simp) rfl
    obtain ⟨hr3, hf3⟩ := R.out.dcell (g := w.heap.size) (l := zero4) (j := 3) (by simp) rfl
    clear HMk he ho R B HA2
    go_wp2
    obtain ⟨k1, k3, k4, k5, k6⟩ := HRO.out
    exact bodyPost_ret (results_dfa rfl _ rfl k3 k4 k5 k6) rfl ⟨_, rfl, k1⟩
  · have HNo : Hid (mkOut (n : Int) f = (zeroA, (bkOut (n : Int) f).2)) := by unfold Hid mkOut; rw [if_neg h0]
    obtain ⟨E, hE⟩ : ∃ E : Int, E = ((bkOut (n : Int) f).2 : Int) := ⟨_, rfl⟩
    have hne := bne_iff_ne.2 (show E ≠ 0 by omega)
    have heq := beq_eq_false_iff_ne.2 (show E ≠ 0 by omega)
    rw [← hE] at HBk
    have HE := Lib.hid hE
    clear hE h0 hg
    generalize (bkOut (n : Int) f).1 = d at *
    generalize f.length = N at *
    go_enter Tryd.func8, Tryd.ntmps8
    go_wp2_with fail
    rw [← W0.out]
    clear W0
    refine HBk.out.mono ?_
    rintro e u0 he
    obtain ⟨x, h6, ho⟩ := he.out
    subst h6
    have hd := Lib.hid ho.at_
    have hb := ho.below
    have R := Lib.hid (R.out.on hb)
    obtain ⟨L5, s5, A5, n5, c5, F5, m5, k5, rfl⟩ := hd.out.form
    obtain ⟨x1, hx1, hbn, Vn⟩ := var_new u0 hd.out
    have HX := Lib.hid hx1
    have R := Lib.hid (R.out.on hbn)
    clear hbn hd hb ho he HBk Vn B
    rw [hx1] at R
    clear hx1 HX
    obtain ⟨hr0, hf0⟩ := R.out.dcell (g := w.heap.size) (l := zero4) (j := 0) (by simp) rfl
    obtain ⟨hr1, hf1⟩ := R.out.dcell (g := w.heap.size) (l := zero4) (j := 1) (by simp) rfl
    obtain ⟨hr2, hf2⟩ := R.out.dcell (g := w.heap.size) (l := zero4) (j := 2) (by simp) rfl
    obtain ⟨hr3, hf3⟩ := R.out.dcell (g := w.heap.size) (l := zero4) (j := 3) (by simp) rfl
    have HEnd := Lib.hid (res_bad R.out rfl)
    clear R
    go_wp2
    obtain ⟨k2, k3, k4, k5, k6⟩ := HEnd.out
    refine bodyPost_ret (results_dfa rfl _ rfl k3 k4 k5 k6) rfl ⟨_, by rw [HNo.out, HE.out]; rfl, by rw [HNo.out]; exact dfaOwn_zero k2⟩
end Go.Proofs.YtnlkkfcjonchgaaDoor.Fm
