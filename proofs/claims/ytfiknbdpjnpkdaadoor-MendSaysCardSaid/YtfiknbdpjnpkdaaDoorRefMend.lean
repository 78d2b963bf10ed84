/- The document's Mend. -/
import Derived.Test.YtfiknbdpjnpkdaaDoorRefPut
namespace Go.Proofs.YtfiknbdpjnpkdaaDoor.Me
open Go.RowKit Go.IntWalk Go.Proofs.YtfiknbdpjnpkdaaDoor.Wd Go.Proofs.YtfiknbdpjnpkdaaDoor.Wo Go.Proofs.YtfiknbdpjnpkdaaDoor.Df Go.Proofs.YtfiknbdpjnpkdaaDoor.Rc Go.Proofs.YtfiknbdpjnpkdaaDoor.Ne

/-- The row of all states for the first letters of the word, in memory. -/
structure MR (w wr : World) (d : Aut) (z : List Int) (bx : Ent) (n g cap i : Nat) (l : List Lv) (fs : List Ent) : Prop where
  own : Own w wr [eLab (.slice (some ⟨g, 0, none⟩) n cap) l] fs
  box : bx ∈ fs
  nil0 : eInts (.slice none 0 0) [] ∈ fs
  len : l.length = n
  words : Words fs l
  cost : ∀ s x, rowF l s = some x → x.1 ≤ 41 * i + 40
  best : ∀ s, rowF l s = at_ d (z.take i) s
/-- No label yet. -/
def noL : Lv := (none, .slice none 0 0)
def zeroL : Lv := (some (0, []), .slice none 0 0)
/-- What is left of a label when a letter is read and not written. -/
def delL (p : Lv) : Lv := match p.1 with | some y => (some (y.1 + 1, y.2), p.2) | none => noL
theorem delL_some (y : Lb) (u : Value) : delL (some y, u) = (some (y.1 + 1, y.2), u) := rfl
theorem delL_none (u : Value) : delL (none, u) = noL := rfl
theorem flip_no_get {n k : Nat} (h : k < n) : (flipTo (fun _ => noL) (List.replicate n zeroL) k)[k]? = some zeroL := by rw [flip_get (by simpa using h)]; simp
theorem row_start {d : Aut} {n : Nat} (hn : d.next.length = n) (g : Df.Good d) : rowF (((List.range n).map fun _ => noL).set d.s.toNat zeroL) = row0 d := by
  have hs : d.s.toNat < ((List.range n).map fun _ => noL).length := by have := g.s_lt; simpa [hn] using this
  rw [rowF_set hs]
  funext s
  unfold row0
  by_cases e : s = d.s.toNat
  · rw [if_pos e, if_pos e]; rfl
  · rw [if_neg e, if_neg e]
    unfold rowF
    by_cases h : s < n
    · rw [List.getElem?_map, List.getElem?_range h]; rfl
    · rw [List.getElem?_eq_none (by simpa using h)]; rfl
theorem words_all {fs : List Ent} {l : List Lv} (hn : eInts (.slice none 0 0) [] ∈ fs) (h : ∀ p ∈ l, p = noL ∨ p = zeroL) : Words fs l := fun p hp => by
  rcases h p hp with rfl | rfl
  · exact ⟨[], hn, by simp, fun x hx => by cases hx⟩
  · exact ⟨[], hn, by simp, fun x hx => by obtain rfl := Option.some.inj hx; rfl⟩
/-- The labels behind a letter that is not written. -/
def delRow (n : Nat) (l : List Lv) : List Lv := (List.range n).map fun k => delL (l[k]?.getD noL)
theorem delRow_get {n : Nat} {l : List Lv} {s : Nat} {q : Lv} (hs : s < n) (h : l[s]? = some q) : (delRow n l)[s]? = some (delL q) := by unfold delRow; rw [List.getElem?_map, List.getElem?_range hs, Option.map_some, h]; rfl
theorem delRow_row {n : Nat} {l : List Lv} (hl : l.length = n) (s : Nat) : rowF (delRow n l) s = (rowF l s).map fun y => (y.1 + 1, y.2) := by
  by_cases h : s < n
  · have h1 : l[s]? = some (l[s]'(by omega)) := List.getElem?_eq_getElem _
    rw [rowF_get (delRow_get h h1), rowF_get h1]
    rcases l[s]'(by omega) with ⟨_ | y, u⟩
    · rfl
    · rfl
  · rw [rowF_none (by unfold delRow; simp; omega), rowF_none (by omega)]; rfl
theorem delRow_words {fs : List Ent} {n : Nat} {l : List Lv} (hl : l.length = n) (hn : eInts (.slice none 0 0) [] ∈ fs) (h : Words fs l) : Words fs (delRow n l) := fun p hp => by
  unfold delRow at hp
  obtain ⟨k, hk, rfl⟩ := List.mem_map.1 hp
  have hk := List.mem_range.1 hk
  have h1 : l[k]? = some (l[k]'(by omega)) := List.getElem?_eq_getElem _
  have h2 := h _ (List.mem_of_getElem? h1)
  rw [h1]
  show ∃ z, eInts (delL (l[k]'(by omega))).2 z ∈ fs ∧ _
  generalize l[k]'(by omega) = q at *
  obtain ⟨_ | y, u⟩ := q
  · exact ⟨[], hn, by simp, fun x hx => by cases hx⟩
  · obtain ⟨z, h3, h4, h5⟩ := h2
    exact ⟨z, h3, h4, fun x hx => by obtain rfl := Option.some.inj hx; exact h5 y rfl⟩
theorem at_sound (d : Aut) (p : List Int) : Sound d p (at_ d p) := fun s x hx => by
  have h := bestOf_iff.1 hx
  exact ⟨h.word, h.p, by have := h.cost; omega⟩
def DoneP (d : Aut) (R : Row) (x : Int) (l : List Lv) (s c : Nat) : Prop := ∀ s' c' y, (s' < s ∨ (s' = s ∧ c' < c)) → (c' : Int) < d.L → R s' = some y → leO (rowF l (Df.step d s' c')) (ext (neq x (c' : Int)) (c' : Int) y)
theorem doneP_next {d : Aut} {R : Row} {x : Int} {l : List Lv} {s c : Nat} (h : DoneP d R x l s c) (hc : d.L ≤ (c : Int) ∨ R s = none) : DoneP d R x l (s + 1) 0 := fun s' c' y hs hl hy => by
  rcases hc with hc | hc
  · exact h s' c' y (by omega) hl hy
  · by_cases e : s' = s
    · subst e; rw [hc] at hy; cases hy
    · exact h s' c' y (by omega) hl hy
theorem doneP_step {d : Aut} {R : Row} {x : Int} {l l' : List Lv} {s c : Nat} {y : Lb} (h : DoneP d R x l s c) (hy : R s = some y) (hl' : rowF l' = lay (rowF l) (Df.step d s c) (ext (neq x (c : Int)) (c : Int) y)) : DoneP d R x l' s (c + 1) := fun s' c' y' hs hl hy' => by
  rw [hl']
  by_cases e : s' = s ∧ c' = c
  · obtain ⟨rfl, rfl⟩ := e
    rw [hy] at hy'
    obtain rfl := Option.some.inj hy'
    exact lay_le _ _ _
  · exact lay_lower _ _ _ _ _ (h s' c' y' (by omega) hl hy')
theorem full_then {d : Aut} {p : List Int} {x : Int} {n : Nat} {l l2 : List Lv} (hl : l.length = n) (hR : ∀ s, rowF l s = at_ d p s) (hlow : lower (rowF l2) (rowF (delRow n l))) (hd : DoneP d (rowF l) x l2 n 0) : Full d (p ++ [x]) (rowF l2) := by
  refine full_next hR (fun s y hy => hlow s _ ?_) (fun s y a hy h0 h1 => ?_)
  · rw [delRow_row hl, hy]; exact leO_self _
  · have hs : s < n := by rw [← hl]; exact rowF_lt hy
    have h2 := hd s a.toNat y (.inl hs) (by omega) hy
    rw [Int.toNat_of_nonneg h0] at h2
    exact h2
set_option linter.unusedSimpArgs false in
set_option maxRecDepth 100000 in
set_option maxHeartbeats 4000000 in
theorem rmend_any (v : Value) (d : Aut) (A2 : Option Addr) (c2 : Nat) (z : List Int) (w : World) (hd : DfaAt w w.heap.size v d) (gd : Df.Good d) (hZ : IntsAt w w.heap.size A2 z) (hz : Word d.L z) (hz80 : z.length ≤ 80) :
    Calls Tryd.prog 9 #[v, .slice A2 z.length c2] w fun e w' => Hid ((∃ x u, mendW d z = some x ∧ e = .returned (.tuple #[u, .int .i64 (x.1 : Int), .int .i64 0]) ∧ Own w w' [] [eInts u x.2]) ∨ mendW d z = none ∧ e = .returned (.tuple #[.slice none 0 0, .int .i64 0, .int .i64 5]) ∧ Below w.heap.size w w') := by
  have HV := Lib.hid hd
  obtain ⟨L, s, A, c, F, cf, rfl, h⟩ := hd
  obtain ⟨q0, rfl⟩ : ∃ q : Nat, s = (q : Int) := ⟨s.toNat, by have := gd.st.1; rw [h.es] at this; omega⟩
  have hq0 : d.s.toNat = q0 := by rw [h.es, Int.toNat_natCast]
  have hqn := gd.s_lt
  obtain ⟨n, hn⟩ : ∃ n, d.next.length = n := ⟨_, rfl⟩
  obtain ⟨m, hm⟩ : ∃ m, d.fin.length = m := ⟨_, rfl⟩
  rw [hn] at hqn
  rw [hq0] at hqn
  obtain ⟨w1, hw1⟩ : ∃ w1, w1 = w.alloc (.cells #[.int .i64 L, .int .i64 (q0 : Int), .slice A n c, .slice F m cf] 25) := ⟨_, rfl⟩
  obtain ⟨bx, hbx⟩ : ∃ bx, bx = eDfa w.heap.size [.int .i64 L, .int .i64 (q0 : Int), .slice A n c, .slice F m cf] := ⟨_, rfl⟩
  have hO1 : Own w w1 [] [eInts (.slice none 0 0) [], bx] := by
    have h1 := ((own_start w).dfa (.int .i64 L) (.int .i64 (q0 : Int)) (.slice A n c) (.slice F m cf)).fin
    rw [← hw1, ← hbx] at h1
    exact (h1.nil 3 1).fin
  have HD := Lib.hid h
  have HG := Lib.hid gd
  have HW := Lib.hid hw1
  have HL := Lib.hid h.eL
  have hn40 : n ≤ 40 := by rw [← hn]; exact gd.n40
  have hn1 : 1 ≤ n := by rw [← hn]; exact gd.n1
  have HN := Lib.hid hn
  have HM := Lib.hid hm
  have HQ := Lib.hid hq0
  have HZ := Lib.hid hZ
  have HZw := Lib.hid hz
  have HO1 := Lib.hid hO1
  have HBx := Lib.hid hbx
  have hbc : ∀ (wr : World) (es fs : List Ent), Own w wr es fs → bx ∈ fs → ∀ (j : Nat) (u : Value), [Value.int .i64 L, .int .i64 (q0 : Int), .slice A n c, .slice F m cf][j]? = some u → wr.cell? ⟨w.heap.size, j, none⟩ = some u := fun wr es fs ho hb j u hj => (ho.dcell (g := w.heap.size) (List.mem_append_right _ (by rw [← hbx]; exact hb)) hj).1
  have HBc := Lib.hid hbc
  have k2 := hbc w1 _ _ hO1 (by simp) 2 _ rfl
  obtain ⟨zl, hzl⟩ : ∃ zl, z.length = zl := ⟨_, rfl⟩
  rw [hzl] at hz80
  rw [hn, hm, hzl]
  have HZl := Lib.hid hzl
  clear h gd hw1 hn hm hq0 hZ hz hO1 hbx hbc hzl
  go_enter Tryd.func9, Tryd.ntmps9
  rw [HW.out] at k2
  go_wp2_with (at_make; rw [← HW.out]; refine mk_labs rfl _ _ rfl n rfl rfl (by omega) ?_)
  intro w2 ho2
  have HO2 : Hid (Own w w2 [eLab (.slice (some ⟨w1.heap.size, 0, none⟩) n n) (flipTo (fun _ => noL) (List.replicate n zeroL) 0)] [eInts (.slice none 0 0) [], bx]) := by
    rw [flip_zero]
    exact HO1.out.join ho2
  clear ho2 HO1 k2
  obtain ⟨g0, hg0⟩ : ∃ g0, w1.heap.size = g0 := ⟨_, rfl⟩
  rw [hg0] at HO2 ⊢
  clear hg0 HW
  go_wp2
  go_loopw [8] (fun sv wr => ∃ k : Nat, k ≤ n ∧ sv = .int .i64 k ∧ Hid (Own w wr [eLab (.slice (some ⟨g0, 0, none⟩) n n) (flipTo (fun _ => noL) (List.replicate n zeroL) k)] [eInts (.slice none 0 0) [], bx])) (fun sv _ => n - (intOf sv).toNat)
  case atStart => exact ⟨0, by omega, rfl, HO2⟩
  case round =>
    clear HO2
    obtain ⟨k, hk, rfl, HS⟩ := hrel
    by_cases hlt : k < n
    · have hlen : (flipTo (fun _ => noL) (List.replicate n zeroL) k).length = n := by rw [flip_length (by simp; omega)]; simp
      obtain ⟨⟨p0, f0⟩, _⟩ := own_lab_cell HS.out List.mem_cons_self hlen (flip_no_get hlt)
      have HNew : Hid (Own w (wr.setCell ⟨g0, k * 2, none⟩ (.int .i64 (-1))) [eLab (.slice (some ⟨g0, 0, none⟩) n n) (flipTo (fun _ => noL) (List.replicate n zeroL) (k + 1))] [eInts (.slice none 0 0) [], bx]) := by
        have h1 := own_lab_cost HS.out hlen (flip_no_get hlt) none
        rw [show (none, zeroL.2) = noL from rfl, flip_set (f := fun _ => noL) (by simpa using hlt)] at h1
        exact h1
      have e1 : (k : Int) < (n : Int) := by omega
      clear HS hlen
      go_wp2
      go_roundw
      case rel => exact ⟨k + 1, by omega, by go_num, HNew⟩
      case measure => simp [intOf]; omega
    · obtain rfl : n = k := by omega
      have hl0 : ((List.range n).map fun _ => noL)[q0]? = some noL := by rw [List.getElem?_map, List.getElem?_range hqn]; rfl
      have hln : ((List.range n).map fun _ => noL).length = n := by simp
      have hS : Own w wr [eLab (.slice (some ⟨g0, 0, none⟩) n n) ((List.range n).map fun _ => noL)] [eInts (.slice none 0 0) [], bx] := by
        have h1 := HS.out
        rw [flip_all (by simp)] at h1
        exact h1
      obtain ⟨⟨p0, f0⟩, _⟩ := own_lab_cell hS List.mem_cons_self hln hl0
      have k0 := HBc.out wr _ _ hS (by simp) 0 _ rfl
      have k1 := HBc.out wr _ _ hS (by simp) 1 _ rfl
      have h2 := own_lab_cost hS hln hl0 (some (0, []))
      rw [show (some ((0 : Nat), ([] : List Int)), noL.2) = zeroL from rfl, show costO (some ((0 : Nat), ([] : List Int))) = 0 from rfl] at h2
      obtain ⟨w3, hw3⟩ : ∃ w3, w3 = wr.setCell ⟨g0, q0 * 2, none⟩ (.int .i64 0) := ⟨_, rfl⟩
      rw [← hw3] at h2
      have hrow := row_start HN.out HG.out
      rw [HQ.out] at hrow
      have hPS : PS w w3 d [] 0 n g0 n [] [eInts (.slice none 0 0) [], bx] (rowF (((List.range n).map fun _ => noL).set q0 zeroL)) (((List.range n).map fun _ => noL).set q0 zeroL) [eInts (.slice none 0 0) [], bx] := by
        refine ⟨h2, fun e he => he, by simp, words_all (by simp) (fun p hp => ?_), by rw [hrow]; exact row0_sound d, fun s x hx => ?_, lower_refl _⟩
        · rcases List.mem_or_eq_of_mem_set hp with hp | rfl
          · obtain ⟨_, _, rfl⟩ := List.mem_map.1 hp
            exact .inl rfl
          · exact .inr rfl
        · rw [hrow] at hx
          unfold row0 at hx
          split at hx
          · obtain rfl := Option.some.inj hx; simp
          · cases hx
      have HPut := Lib.hid (put_any _ d [] 0 n g0 n _ w w3 _ _ _ _ HV.out HG.out HN.out (by simp) (by omega) (by rw [hrow]; exact row0_full d) hPS)
      have hb0 := HBc.out w3 _ _ h2 (by simp) 0 _ rfl
      have hb1 := HBc.out w3 _ _ h2 (by simp) 1 _ rfl
      have hb2 := HBc.out w3 _ _ h2 (by simp) 2 _ rfl
      have hb3 := HBc.out w3 _ _ h2 (by simp) 3 _ rfl
      rw [hw3] at hb0 hb1 hb2 hb3
      have HW3 := Lib.hid hw3
      rw [HN.out, HM.out] at HPut
      have eq0 : (q0 : Int) < (n : Int) := by omega
      clear HS hS h2 hPS hrow hl0 hln hw3
      go_wp2_with fail
      rw [← HW3.out]
      refine HPut.out.mono ?_
      rintro e w4 he
      obtain ⟨rfl, l4, fs4, ho4, hm4, hl4, hw4, hc4, hb4⟩ := he.out
      have HS4 : Hid (∃ (g cap : Nat) (l : List Lv) (fs : List Ent), Value.slice (some ⟨g0, 0, none⟩) n n = .slice (some ⟨g, 0, none⟩) n cap ∧ MR w w4 d z bx n g cap 0 l fs) :=
        ⟨g0, n, l4, fs4, rfl, ho4, hm4 _ (by simp), hm4 _ (by simp), hl4, hw4, fun s x hx => by have h1 := hc4 s x hx; have h2 := cnt0_le l4; omega, hb4⟩
      clear he ho4 hm4 hl4 hw4 hc4 hb4 HPut hb0 hb1 hb2 hb3 HW3 k0 k1 p0 f0
      generalize Value.slice (some ⟨g0, 0, none⟩) n n = rv at *
      go_wp2
      go_loopw [7, 9] (fun rv iv w5 => ∃ i : Nat, i ≤ zl ∧ iv = .int .i64 i ∧ Hid (∃ (g cap : Nat) (l : List Lv) (fs : List Ent), rv = .slice (some ⟨g, 0, none⟩) n cap ∧ MR w w5 d z bx n g cap i l fs)) (fun _ iv _ => zl - (intOf iv).toNat)
      case atStart => exact ⟨0, by omega, rfl, HS4⟩
      case round =>
        clear HS4
        obtain ⟨i, hi, rfl, HS5⟩ := hrel
        obtain ⟨g, cap, l, fs, rfl, hMR⟩ := HS5.out
        by_cases hlt : i < zl
        · have e1 : (i : Int) < (zl : Int) := by omega
          go_wp2_with (at_make; refine mk_labs rfl _ _ rfl n rfl rfl (by omega) ?_)
          intro w6 ho6
          obtain ⟨g2, hg2⟩ : ∃ g2, wr.heap.size = g2 := ⟨_, rfl⟩
          rw [hg2] at ho6 ⊢
          have HMR := Lib.hid (And.intro hMR.box (And.intro hMR.nil0 (And.intro hMR.len (And.intro hMR.words (And.intro hMR.cost hMR.best)))))
          have HS6 : Hid (Own w w6 [eLab (.slice (some ⟨g2, 0, none⟩) n n) (flipTo (fun k => delL (l[k]?.getD noL)) (List.replicate n zeroL) 0)] (eLab (.slice (some ⟨g, 0, none⟩) n cap) l :: fs)) := by
            rw [flip_zero]
            exact (hMR.own.join ho6).two.fin
          clear HS5 hMR ho6 hg2
          go_wp2
          go_loopw [11] (fun sv wr => ∃ k : Nat, k ≤ n ∧ sv = .int .i64 k ∧ Hid (Own w wr [eLab (.slice (some ⟨g2, 0, none⟩) n n) (flipTo (fun k => delL (l[k]?.getD noL)) (List.replicate n zeroL) k)] (eLab (.slice (some ⟨g, 0, none⟩) n cap) l :: fs))) (fun sv _ => n - (intOf sv).toNat)
          case atStart => exact ⟨0, by omega, rfl, HS6⟩
          case round =>
            clear HS6
            obtain ⟨k, hk, rfl, HS7⟩ := hrel
            by_cases hkn : k < n
            · have e2 : (k : Int) < (n : Int) := by omega
              have hlen : (flipTo (fun k => delL (l[k]?.getD noL)) (List.replicate n zeroL) k).length = n := by rw [flip_length (by simp; omega)]; simp
              have hget : (flipTo (fun k => delL (l[k]?.getD noL)) (List.replicate n zeroL) k)[k]? = some zeroL := by rw [flip_get (by simpa using hkn)]; simp
              have hset := flip_set (f := fun k => delL (l[k]?.getD noL)) (l := List.replicate n zeroL) (k := k) (by simpa using hkn)
              obtain ⟨⟨t0, ft0⟩, _⟩ := own_lab_cell HS7.out List.mem_cons_self hlen hget
              have hlk : l[k]? = some (l[k]'(by rw [HMR.out.2.2.1]; exact hkn)) := List.getElem?_eq_getElem _
              have h1 := own_lab_cost HS7.out hlen hget none
              rw [show costO none = -1 from rfl] at h1
              obtain ⟨w8, hw8⟩ : ∃ w8, w8 = wr.setCell ⟨g2, k * 2, none⟩ (.int .i64 (-1)) := ⟨_, rfl⟩
              rw [← hw8] at h1
              obtain ⟨⟨r0, _⟩, r1, _⟩ := own_lab_cell h1 (List.mem_append_right _ List.mem_cons_self) HMR.out.2.2.1 hlk
              have hcost := fun y (hy : (l[k]'(by rw [HMR.out.2.2.1]; exact hkn)).1 = some y) => HMR.out.2.2.2.2.1 k y ((rowF_get hlk).trans hy)
              obtain ⟨Aw, cw, zw, hpv, _⟩ := lab_value h1 (words_more HMR.out.2.2.2.1 (fun e he => List.mem_cons_of_mem _ he)) hlk
              rw [hlk] at hset
              generalize l[k]'(by rw [HMR.out.2.2.1]; exact hkn) = pk at *
              obtain ⟨ok, uk⟩ := pk
              obtain rfl : uk = .slice Aw zw.length cw := hpv
              generalize zw.length = zn at *
              rcases ok with _ | y
              · have HNew : Hid (Own w w8 [eLab (.slice (some ⟨g2, 0, none⟩) n n) (flipTo (fun k => delL (l[k]?.getD noL)) (List.replicate n zeroL) (k + 1))] (eLab (.slice (some ⟨g, 0, none⟩) n cap) l :: fs)) := by
                  rw [← hset]; exact h1
                have r0' : w8.cell? ⟨g, k * 2, none⟩ = some (.int .i64 (-1)) := r0
                rw [hw8] at r0'
                rw [hw8] at HNew
                clear HS7 hlen hget hset h1 hw8 r0 r1 hcost hlk
                go_wp2
                go_roundw
                case rel => exact ⟨k + 1, by omega, by go_num, HNew⟩
                case measure => simp [intOf]; omega
              · have hyc := hcost y rfl
                have r0' : w8.cell? ⟨g, k * 2, none⟩ = some (.int .i64 (y.1 : Int)) := r0
                have hy0 : (0 : Int) ≤ (y.1 : Int) := by omega
                have hyw : IntKind.i64.wrap ((y.1 : Int) + 1) = (y.1 : Int) + 1 := IntWalk.i64_in _ ⟨by omega, by omega⟩
                have hl8 : ((flipTo (fun k => delL (l[k]?.getD noL)) (List.replicate n zeroL) k).set k (none, zeroL.2)).length = n := by rw [List.length_set]; exact hlen
                have hg8 : ((flipTo (fun k => delL (l[k]?.getD noL)) (List.replicate n zeroL) k).set k (none, zeroL.2))[k]? = some (none, zeroL.2) := List.getElem?_set_self (by rw [hlen]; exact hkn)
                obtain ⟨⟨s0, fs0⟩, s1, fs1⟩ := own_lab_cell h1 List.mem_cons_self hl8 hg8
                have HNew : Hid (Own w ((w8.drew.setCell ⟨g2, k * 2, none⟩ (.int .i64 ((y.1 : Int) + 1))).setCell ⟨g2, k * 2 + 1, none⟩ (.slice Aw zn cw)) [eLab (.slice (some ⟨g2, 0, none⟩) n n) (flipTo (fun k => delL (l[k]?.getD noL)) (List.replicate n zeroL) (k + 1))] (eLab (.slice (some ⟨g, 0, none⟩) n cap) l :: fs)) := by
                  have h2 := own_lab_set (h1.on (Below.refl _ _).drew) hl8 k (some (y.1 + 1, y.2), .slice Aw zn cw)
                  rw [List.set_set, show costO (some (y.1 + 1, y.2), Value.slice Aw zn cw).1 = (y.1 : Int) + 1 by simp [costO]] at h2
                  rw [← hset]; exact h2
                have HW8 := Lib.hid hw8
                have r0w := r0'
                rw [hw8] at r0w
                clear HS7 hlen hget hset h1 hw8 r0 hcost hlk hl8 hg8
                go_wp2_with fail
                clear r0w
                rw [← HW8.out]
                go_region
                all_goals
                  clear r0' r1 s0 s1 fs0 fs1 t0 ft0
                  go_wp2
                  go_roundw
                  case rel => exact ⟨k + 1, by omega, by go_num, HNew⟩
                  case measure => simp [intOf]; omega
            · obtain rfl : n = k := by omega
              have hS : Own w wr [eLab (.slice (some ⟨g2, 0, none⟩) n n) (delRow n l)] (eLab (.slice (some ⟨g, 0, none⟩) n cap) l :: fs) := by
                have h1 := HS7.out
                rw [flip_all (by simp)] at h1
                exact h1
              have hiz : i < z.length := by rw [HZl.out]; exact hlt
              obtain ⟨adz, hA2, hzb, hzc, _⟩ := (HZ.out.on hS.below).get (List.getElem?_eq_getElem hiz)
              have HGet : Hid (z[i]? = some z[i]) := List.getElem?_eq_getElem hiz
              have HTk : Hid (z.take (i + 1) = z.take i ++ [z[i]]) := (List.take_append_getElem hiz).symm
              have hil : (z.take i).length = i := by rw [List.length_take]; omega
              have hsound : Sound d (z.take i) (rowF l) := by rw [show rowF l = at_ d (z.take i) from funext HMR.out.2.2.2.2.2]; exact at_sound _ _
              have HSd := Lib.hid hsound
              have HIl := Lib.hid hil
              have HPS0 : Hid (∃ (l2 : List Lv) (fs2 : List Ent), PS w wr d (z.take i ++ [z[i]]) (41 * i + 41) n g2 n [] (eLab (.slice (some ⟨g, 0, none⟩) n cap) l :: fs) (rowF (delRow n l)) l2 fs2 ∧ DoneP d (rowF l) z[i] l2 0 0) := by
                refine ⟨delRow n l, _, ⟨hS, fun e he => he, by unfold delRow; simp, words_more (delRow_words HMR.out.2.2.1 HMR.out.2.1 HMR.out.2.2.2.1) (fun e he => List.mem_cons_of_mem _ he), fun s x hx => ?_, fun s x hx => ?_, lower_refl _⟩, fun s' c' y h => by omega⟩
                · rw [delRow_row HMR.out.2.2.1] at hx
                  rcases hy : rowF l s with _ | y
                  · rw [hy] at hx; cases hx
                  · rw [hy] at hx
                    obtain rfl := Option.some.inj hx
                    exact del_sound hsound hy z[i]
                · rw [delRow_row HMR.out.2.2.1] at hx
                  rcases hy : rowF l s with _ | y
                  · rw [hy] at hx; cases hx
                  · rw [hy] at hx
                    obtain rfl := Option.some.inj hx
                    have h9 := HMR.out.2.2.2.2.1 s y hy
                    show y.1 + 1 ≤ _
                    omega
              have hzl := HZw.out z[i] (List.getElem_mem hiz)
              clear HS7 hS hzb hzc hil hsound
              generalize z[i] = zx at *
              clear hiz
              subst hA2
              go_wp2
              go_loopw [12] (fun sv wr => ∃ k : Nat, k ≤ n ∧ sv = .int .i64 k ∧ Hid (∃ (l2 : List Lv) (fs2 : List Ent), PS w wr d (z.take i ++ [zx]) (41 * i + 41) n g2 n [] (eLab (.slice (some ⟨g, 0, none⟩) n cap) l :: fs) (rowF (delRow n l)) l2 fs2 ∧ DoneP d (rowF l) zx l2 k 0)) (fun sv _ => n - (intOf sv).toNat)
              case atStart => exact ⟨0, by omega, rfl, HPS0⟩
              case round =>
                clear HPS0
                obtain ⟨k, hk2, rfl, HS8⟩ := hrel
                by_cases hkn2 : k < n
                · have e2 : (k : Int) < (n : Int) := by omega
                  go_wp2
                  go_loopw [13] (fun av wr => ∃ c3 : Nat, (c3 : Int) ≤ L ∧ av = .int .i64 c3 ∧ Hid (∃ (l2 : List Lv) (fs2 : List Ent), PS w wr d (z.take i ++ [zx]) (41 * i + 41) n g2 n [] (eLab (.slice (some ⟨g, 0, none⟩) n cap) l :: fs) (rowF (delRow n l)) l2 fs2 ∧ DoneP d (rowF l) zx l2 k c3)) (fun av _ => L.toNat - (intOf av).toNat)
                  case atStart => exact ⟨0, by have := HG.out.l1; rw [HL.out] at this; omega, rfl, HS8⟩
                  case round =>
                    clear HS8
                    obtain ⟨c3, hc3, rfl, HS9⟩ := hrel
                    obtain ⟨l2, fs2, hps, hdn⟩ := HS9.out
                    have k0 := HBc.out wr _ _ hps.own (hps.more _ (List.mem_cons_of_mem _ HMR.out.1)) 0 _ rfl
                    have hlk2 : l[k]? = some (l[k]'(by rw [HMR.out.2.2.1]; exact hkn2)) := List.getElem?_eq_getElem _
                    obtain ⟨⟨q0, _⟩, q1, _⟩ := own_lab_cell hps.own (List.mem_append_right _ (hps.more _ List.mem_cons_self)) HMR.out.2.2.1 hlk2
                    have hrow := rowF_get hlk2
                    obtain ⟨Aw, cw, zw, hpv, hlab⟩ := lab_value hps.own (words_more HMR.out.2.2.2.1 (fun e he => hps.more _ (List.mem_cons_of_mem _ he))) hlk2
                    generalize l[k]'(by rw [HMR.out.2.2.1]; exact hkn2) = pk at *
                    obtain ⟨ok, uk⟩ := pk
                    obtain rfl : uk = .slice Aw zw.length cw := hpv
                    have HNx : Hid (d.L ≤ (c3 : Int) ∨ rowF l k = none → ∃ (l2 : List Lv) (fs2 : List Ent), PS w wr d (z.take i ++ [zx]) (41 * i + 41) n g2 n [] (eLab (.slice (some ⟨g, 0, none⟩) n cap) l :: fs) (rowF (delRow n l)) l2 fs2 ∧ DoneP d (rowF l) zx l2 (k + 1) 0) := fun h => ⟨l2, fs2, hps, doneP_next hdn h⟩
                    by_cases hcl : (c3 : Int) < L
                    · rcases ok with _ | y
                      · have HN3 := Lib.hid (HNx.out (.inr hrow))
                        have q0' : wr.cell? ⟨g, k * 2, none⟩ = some (.int .i64 (-1)) := q0
                        clear HS9 hps hdn hrow hlab q0 q1 hlk2 HNx
                        generalize zw.length = zwl at *
                        go_wp2
                        go_roundw
                        case rel => exact ⟨k + 1, by omega, by go_num, HN3⟩
                        case measure => simp [intOf]; omega
                      · clear HNx
                        have hzx2 := (HZ.out.on hps.own.below).get HGet.out
                        obtain ⟨adz2, hzz, _, hzcell, _⟩ := hzx2
                        obtain rfl := Option.some.inj hzz
                        clear hzz
                        by_cases hcx : (c3 : Int) = zx
                        · have hnq : neq zx (c3 : Int) = 0 := by rw [hcx]; exact neq_self _
                          have heq : ((c3 : Int) == zx) = true := by rw [hcx]; exact beq_self_eq_true _
                          clear hcx
                          as_aux_lemma =>
                            have hyb : y.2.length ≤ 999999 ∧ y.1 ≤ 41 * i + 40 := by
                              have h1 := HMR.out.2.2.2.2.1 k y hrow
                              have h3 := len_of_cost (HSd.out k y hrow).2.2
                              have h4 := HIl.out
                              omega
                            have hyc : costO (some y) = (y.1 : Int) := rfl
                            have HWi : Hid (Calls Tryd.prog 22 #[.agg #[.int .i64 (y.1 : Int), .slice Aw zw.length cw], .int .i64 0, .int .i64 (c3 : Int)] wr fun e w' => Hid (∃ u, e = .returned (.agg #[.int .i64 (y.1 : Int), u]) ∧ Own wr w' [] [eInts u (y.2 ++ [(c3 : Int)])])) := by
                              have h1 := with_any _ y 0 (c3 : Int) wr hlab (Nat.le_trans hyb.1 (by omega)) (by omega) (by decide) (by decide)
                              rw [Int.add_zero] at h1
                              exact h1
                            rw [hyc] at q0
                            have hy0 : (0 : Int) ≤ (y.1 : Int) := by omega
                            obtain ⟨r, hr1, _, hr2, hr3, hr4⟩ := HG.out.at_ (q := k) (a := c3) (by rw [HN.out]; exact hkn2) (by rw [HL.out]; exact hcl)
                            have hsnd := put_sound HSd.out hrow (x := zx) (a := (c3 : Int)) (by omega) (by rw [HL.out]; exact hcl)
                            rw [Int.toNat_natCast] at hsnd
                            rw [HN.out] at hr4
                            have HSnd := Lib.hid hsnd
                            obtain ⟨t, ht⟩ : ∃ t, Df.step d k c3 = t := ⟨_, rfl⟩
                            rw [ht] at hr3 hr4
                            have HT := Lib.hid ht
                            obtain ⟨x, hx⟩ : ∃ x, ext (neq zx (c3 : Int)) (c3 : Int) y = x := ⟨_, rfl⟩
                            have hx1 : x.1 = y.1 + 0 := by rw [← hx]; show y.1 + neq zx (c3 : Int) = _; rw [hnq]
                            have hxc : costO (some x) = (y.1 : Int) := by show ((x.1 : Nat) : Int) = _; rw [hx1]; simp
                            have hx2 : x.2 = y.2 ++ [(c3 : Int)] := by rw [← hx]; rfl
                            have HX := Lib.hid hx
                            have HX12 := Lib.hid (And.intro hxc (And.intro hx2 hx1))
                            have hlt3 : l2[t]? = some (l2[t]'(by rw [hps.len]; exact hr4)) := List.getElem?_eq_getElem _
                            have hrt := rowF_get hlt3
                            obtain ⟨At, ct, zt, hpt, _⟩ := lab_value hps.own hps.words hlt3
                            have htb : ∀ y2, rowF l2 t = some y2 → y2.2.length ≤ 1000000 := fun y2 hy2 => by
                              have h1 := hps.cap t y2 hy2
                              have h2 := cnt0_le l2
                              have h3 := len_of_cost (hps.sound t y2 hy2).2.2
                              have h4 := hps.len
                              rw [List.length_append, HIl.out] at h3
                              simp only [List.length_cons, List.length_nil] at h3
                              omega
                            have hxsm : ∀ q ∈ x.2, Small q := fun q hq => by
                              have h1 := HSnd.out.1 q (by rw [hx]; exact hq)
                              have h2 := HG.out.l6
                              exact ⟨by omega, by omega⟩
                            generalize l2[t]'(by rw [hps.len]; exact hr4) = pt at *
                            obtain ⟨ot, ut⟩ := pt
                            obtain rfl : ut = .slice At zt.length ct := hpt
                            have HPS := Lib.hid hps
                            have HDn := Lib.hid hdn
                            have HRow := Lib.hid (And.intro hrow hrt)
                            have HLt := Lib.hid hlt3
                            have HYb := Lib.hid (And.intro hyb htb)
                            have HSm := Lib.hid hxsm
                            clear HS9 hdn hlab hyc hsnd ht hx hxc hx2 hx1 hyb htb hxsm hrow hrt hlk2 hlt3
                            generalize zw.length = zwl at *
                            go_wp2_with fail
                            refine HWi.out.mono ?_
                            rintro e w4 he
                            obtain ⟨u, rfl, hou⟩ := he.out
                            rw [← HX12.out.2.1] at hou
                            obtain ⟨gu, cu, hu⟩ := owns_some (hou.done _ List.mem_cons_self) (by show 0 < x.2.length; rw [HX12.out.2.1]; simp)
                            change u = .slice (some ⟨gu, 0, none⟩) x.2.length cu at hu
                            subst hu
                            have hO4 : Own w w4 [eLab (.slice (some ⟨g2, 0, none⟩) n n) l2] (eInts (.slice (some ⟨gu, 0, none⟩) x.2.length cu) x.2 :: fs2) := HPS.out.own.join hou
                            clear he hou HWi q0 q1 k0 hps
                            obtain ⟨xl, hxl⟩ : ∃ xl, x.2.length = xl := ⟨_, rfl⟩
                            obtain ⟨w5, hw5⟩ : ∃ w5, w5 = w4.alloc (.cells #[.int .i64 (y.1 : Int), .slice (some ⟨gu, 0, none⟩) xl cu] 51) := ⟨_, rfl⟩
                            have hB5 : Below w4.heap.size w4 w5 := by rw [hw5]; exact below_alloc _ _
                            have hO5 := hO4.on hB5
                            have x0 : w5.cell? ⟨w4.heap.size, 0, none⟩ = some (.int .i64 (y.1 : Int)) := by rw [hw5]; exact cell_of_row _ _ 0 _ _ _ (heap_alloc_new w4 _)
                            have x1 : w5.cell? ⟨w4.heap.size, 1, none⟩ = some (.slice (some ⟨gu, 0, none⟩) xl cu) := by rw [hw5]; exact cell_of_row _ _ 1 _ _ _ (heap_alloc_new w4 _)
                            have HMore : Hid (∀ e ∈ eLab (.slice (some ⟨g, 0, none⟩) n cap) l :: fs, e ∈ eInts (.slice (some ⟨gu, 0, none⟩) x.2.length cu) x.2 :: fs2) := fun e he => List.mem_cons_of_mem _ (HPS.out.more e he)
                            have HO5 := Lib.hid hO5
                            have b2 := HBc.out w5 _ _ HO5.out (HMore.out _ (List.mem_cons_of_mem _ HMR.out.1)) 2 _ rfl
                            have hD := HD.out.on HO5.out.below
                            obtain ⟨ada, Ar, cr, hAe, hrb, hrc, hrl, hrl2, hri⟩ := hD.rows _ _ hr1
                            subst hAe
                            obtain ⟨adr, rfl, _, hrcell, hrlt⟩ := hri.get hr3
                            have HCt : Hid (∀ W, Below w5.heap.size w5 W → (W.cell? ⟨g2, t * 2, none⟩ = some (.int .i64 (costO ot)) ∧ W.frozen? ⟨g2, t * 2, none⟩ = false) ∧ W.cell? ⟨g2, t * 2 + 1, none⟩ = some (.slice At zt.length ct) ∧ W.frozen? ⟨g2, t * 2 + 1, none⟩ = false) := fun W hW => own_lab_cell (HO5.out.on hW) List.mem_cons_self HPS.out.len HLt.out
                            have HXc : Hid (∀ W, Below w5.heap.size w5 W → W.cell? ⟨w4.heap.size, 0, none⟩ = some (.int .i64 (y.1 : Int)) ∧ W.cell? ⟨w4.heap.size, 1, none⟩ = some (.slice (some ⟨gu, 0, none⟩) xl cu)) := fun W hW => ⟨(hW.cell (World.block_lt_of_cell? _ _ x0)).trans x0, (hW.cell (World.block_lt_of_cell? _ _ x1)).trans x1⟩
                            have HBt : Hid (∀ W, Below w5.heap.size w5 W → Calls Tryd.prog 23 #[.agg #[.int .i64 (y.1 : Int), .slice (some ⟨gu, 0, none⟩) xl cu], .agg #[.int .i64 (costO ot), .slice At zt.length ct]] W fun e w' => e = .returned (.bool (btr (some x) ot)) ∧ Below W.heap.size W w') := fun W hW => by
                              have hOW := HO5.out.on hW
                              obtain ⟨A9, c9, e9, q9, _, hI9⟩ := own_ints_at hOW (v := .slice (some ⟨gu, 0, none⟩) x.2.length cu) (l := x.2) (List.mem_append_right _ List.mem_cons_self) HSm.out
                              simp only [Value.slice.injEq] at e9
                              obtain ⟨hA9, _, hc9⟩ := e9
                              subst hA9
                              subst hc9
                              obtain ⟨A8, c8, z8, e8, hl8⟩ := lab_value hOW (words_more HPS.out.words (fun e he => List.mem_cons_of_mem _ he)) HLt.out
                              rw [← e8] at hl8
                              have hl9 : LabAt W (.agg #[.int .i64 (y.1 : Int), .slice (some ⟨gu, 0, none⟩) xl cu]) (some x) := ⟨some ⟨gu, 0, none⟩, cu, x.2, by rw [← HX12.out.1, hxl], hI9, q9, fun q hq => by obtain rfl := Option.some.inj hq; rfl⟩
                              exact (better_any _ _ (some x) ot W hl9 hl8 (fun q hq => by obtain rfl := Option.some.inj hq; have := HX12.out.2.1; have h2 := HYb.out.1.1; rw [this, List.length_append]; simp; omega) (fun q hq => HYb.out.2 q (HRow.out.2.trans hq))).mono fun e w' ⟨h1, h2⟩ => ⟨h1.out, h2⟩
                            rw [hxl]
                            have HXl := Lib.hid hxl
                            clear hxl
                            have HK : Hid (∀ W, Below w5.heap.size w5 W → W.cell? ⟨w4.heap.size, 0, none⟩ = some (.int .i64 (y.1 : Int)) ∧ W.cell? ⟨w4.heap.size, 1, none⟩ = some (.slice (some ⟨gu, 0, none⟩) xl cu) ∧ W.cell? ⟨g2, t * 2, none⟩ = some (.int .i64 (costO ot)) ∧ W.cell? ⟨g2, t * 2 + 1, none⟩ = some (.slice At zt.length ct)) := fun W hW => ⟨(HXc.out W hW).1, (HXc.out W hW).2, (HCt.out W hW).1.1, (HCt.out W hW).2.1⟩
                            have HD5 : Hid (Below w5.heap.size w5 w5.drew) := (Below.refl _ _).drew
                            have HW5 := Lib.hid hw5
                            have hrl9 : (c3 : Int) < (r.length : Int) := by omega
                            have et : (t : Int) < (n : Int) := by omega
                            rw [hw5] at b2 hrc hrcell
                            clear hw5 hB5 hO5 hO4 x0 x1 hD hri hr1 hr2 hr3
                            generalize r.length = rl at *
                            generalize zt.length = zl2 at *
                            go_wp2_with fail
                            rw [← HW5.out]
                            go_region_held3 (fun W => W.cell? ⟨w4.heap.size, 0, none⟩ = some (.int .i64 (y.1 : Int)) ∧ W.cell? ⟨w4.heap.size, 1, none⟩ = some (.slice (some ⟨gu, 0, none⟩) xl cu) ∧ W.cell? ⟨g2, t * 2, none⟩ = some (.int .i64 (costO ot)) ∧ W.cell? ⟨g2, t * 2 + 1, none⟩ = some (.slice At zl2 ct))
                              (first | exact HK.out _ HB6.out | exact HK.out _ HD5.out)
                              (first | (go_at_call 23; refine (HBt.out _ HD5.out).mono ?_; rintro e w6 ⟨rfl, hb⟩; have HB6 := Lib.hid (HD5.out.trans (hb.mono HD5.out.size)); clear hb))
                            all_goals
                              obtain ⟨⟨t0, ft0⟩, t1, ft1⟩ := HCt.out _ HB6.out
                              obtain ⟨y0, y1⟩ := HXc.out _ HB6.out
                              rcases hbt : btr (some x) ot with _ | _
                              · have HNew : Hid (∃ (l2 : List Lv) (fs2 : List Ent), PS w w6 d (z.take i ++ [zx]) (41 * i + 41) n g2 n [] (eLab (.slice (some ⟨g, 0, none⟩) n cap) l :: fs) (rowF (delRow n l)) l2 fs2 ∧ DoneP d (rowF l) zx l2 k (c3 + 1)) := by
                                  refine ⟨l2, _, ⟨HO5.out.on HB6.out, HMore.out, HPS.out.len, words_more HPS.out.words (fun e he => List.mem_cons_of_mem _ he), HPS.out.sound, HPS.out.cap, HPS.out.low⟩, doneP_step HDn.out HRow.out.1 ?_⟩
                                  rw [HT.out, HX.out, lay_miss (by rw [HRow.out.2]; exact hbt)]
                                clear HBt HK HD5 HCt HXc HO5 HMore HDn HPS HB6 t0 ft0 t1 ft1 y0 y1 hbt
                                go_wp2
                                go_roundw
                                case rel => exact ⟨c3 + 1, by omega, by go_num, HNew⟩
                                case measure => simp [intOf]; omega
                              · have HNew : Hid (∃ (l2 : List Lv) (fs2 : List Ent), PS w ((w6.setCell ⟨g2, t * 2, none⟩ (.int .i64 (y.1 : Int))).setCell ⟨g2, t * 2 + 1, none⟩ (.slice (some ⟨gu, 0, none⟩) xl cu)) d (z.take i ++ [zx]) (41 * i + 41) n g2 n [] (eLab (.slice (some ⟨g, 0, none⟩) n cap) l :: fs) (rowF (delRow n l)) l2 fs2 ∧ DoneP d (rowF l) zx l2 k (c3 + 1)) := by
                                  have htl : t < l2.length := by rw [HPS.out.len]; exact hr4
                                  have hbt2 : btr (some x) (rowF l2 t) = true := by rw [HRow.out.2]; exact hbt
                                  obtain ⟨k1, k2, k3⟩ := HSnd.out
                                  rw [HX.out] at k1 k2 k3
                                  rw [HT.out] at k2
                                  have hlay := rowF_lay htl (.slice (some ⟨gu, 0, none⟩) xl cu) hbt2
                                  have ho := own_lab_set (HO5.out.on HB6.out) HPS.out.len t (some x, .slice (some ⟨gu, 0, none⟩) xl cu)
                                  rw [show costO (some x, Value.slice (some ⟨gu, 0, none⟩) xl cu).1 = (y.1 : Int) from HX12.out.1] at ho
                                  refine ⟨l2.set t (some x, .slice (some ⟨gu, 0, none⟩) xl cu), _, ⟨ho, HMore.out, by rw [List.length_set]; exact HPS.out.len, words_set HPS.out.words (fun e he => List.mem_cons_of_mem _ he) t (by rw [← HXl.out]; exact List.mem_cons_self) HSm.out, ?_, ?_, ?_⟩, ?_⟩
                                  · rw [hlay]; exact lay_sound HPS.out.sound k1 k2 k3
                                  · exact capd_set HPS.out.cap htl _ hbt2 (by rw [HX12.out.2.2]; have := HYb.out.1.2; omega)
                                  · rw [hlay]; exact lower_trans (lay_lower _ _ _) HPS.out.low
                                  · exact doneP_step HDn.out HRow.out.1 (by rw [HT.out, HX.out]; exact hlay)
                                clear HBt HK HD5 HCt HXc HO5 HMore HDn HPS HB6 hbt
                                go_wp2
                                go_roundw
                                case rel => exact ⟨c3 + 1, by omega, by go_num, HNew⟩
                                case measure => simp [intOf]; omega
                        · have hnq : neq zx (c3 : Int) = 1 := by unfold neq; rw [if_neg (fun h => hcx h.symm)]
                          have heq : ((c3 : Int) == zx) = false := beq_eq_false_iff_ne.2 hcx
                          clear hcx
                          as_aux_lemma =>
                            have hyb : y.2.length ≤ 999999 ∧ y.1 ≤ 41 * i + 40 := by
                              have h1 := HMR.out.2.2.2.2.1 k y hrow
                              have h3 := len_of_cost (HSd.out k y hrow).2.2
                              have h4 := HIl.out
                              omega
                            have hyc : costO (some y) = (y.1 : Int) := rfl
                            have HWi : Hid (Calls Tryd.prog 22 #[.agg #[.int .i64 (y.1 : Int), .slice Aw zw.length cw], .int .i64 1, .int .i64 (c3 : Int)] wr fun e w' => Hid (∃ u, e = .returned (.agg #[.int .i64 ((y.1 : Int) + 1), u]) ∧ Own wr w' [] [eInts u (y.2 ++ [(c3 : Int)])])) := by
                              have h1 := with_any _ y 1 (c3 : Int) wr hlab (Nat.le_trans hyb.1 (by omega)) (by omega) (by decide) (by decide)
                              skip
                              exact h1
                            rw [hyc] at q0
                            have hy0 : (0 : Int) ≤ (y.1 : Int) := by omega
                            obtain ⟨r, hr1, _, hr2, hr3, hr4⟩ := HG.out.at_ (q := k) (a := c3) (by rw [HN.out]; exact hkn2) (by rw [HL.out]; exact hcl)
                            have hsnd := put_sound HSd.out hrow (x := zx) (a := (c3 : Int)) (by omega) (by rw [HL.out]; exact hcl)
                            rw [Int.toNat_natCast] at hsnd
                            rw [HN.out] at hr4
                            have HSnd := Lib.hid hsnd
                            obtain ⟨t, ht⟩ : ∃ t, Df.step d k c3 = t := ⟨_, rfl⟩
                            rw [ht] at hr3 hr4
                            have HT := Lib.hid ht
                            obtain ⟨x, hx⟩ : ∃ x, ext (neq zx (c3 : Int)) (c3 : Int) y = x := ⟨_, rfl⟩
                            have hx1 : x.1 = y.1 + 1 := by rw [← hx]; show y.1 + neq zx (c3 : Int) = _; rw [hnq]
                            have hxc : costO (some x) = ((y.1 : Int) + 1) := by show ((x.1 : Nat) : Int) = _; rw [hx1]; simp
                            have hx2 : x.2 = y.2 ++ [(c3 : Int)] := by rw [← hx]; rfl
                            have HX := Lib.hid hx
                            have HX12 := Lib.hid (And.intro hxc (And.intro hx2 hx1))
                            have hlt3 : l2[t]? = some (l2[t]'(by rw [hps.len]; exact hr4)) := List.getElem?_eq_getElem _
                            have hrt := rowF_get hlt3
                            obtain ⟨At, ct, zt, hpt, _⟩ := lab_value hps.own hps.words hlt3
                            have htb : ∀ y2, rowF l2 t = some y2 → y2.2.length ≤ 1000000 := fun y2 hy2 => by
                              have h1 := hps.cap t y2 hy2
                              have h2 := cnt0_le l2
                              have h3 := len_of_cost (hps.sound t y2 hy2).2.2
                              have h4 := hps.len
                              rw [List.length_append, HIl.out] at h3
                              simp only [List.length_cons, List.length_nil] at h3
                              omega
                            have hxsm : ∀ q ∈ x.2, Small q := fun q hq => by
                              have h1 := HSnd.out.1 q (by rw [hx]; exact hq)
                              have h2 := HG.out.l6
                              exact ⟨by omega, by omega⟩
                            generalize l2[t]'(by rw [hps.len]; exact hr4) = pt at *
                            obtain ⟨ot, ut⟩ := pt
                            obtain rfl : ut = .slice At zt.length ct := hpt
                            have HPS := Lib.hid hps
                            have HDn := Lib.hid hdn
                            have HRow := Lib.hid (And.intro hrow hrt)
                            have HLt := Lib.hid hlt3
                            have HYb := Lib.hid (And.intro hyb htb)
                            have HSm := Lib.hid hxsm
                            clear HS9 hdn hlab hyc hsnd ht hx hxc hx2 hx1 hyb htb hxsm hrow hrt hlk2 hlt3
                            generalize zw.length = zwl at *
                            go_wp2_with fail
                            refine HWi.out.mono ?_
                            rintro e w4 he
                            obtain ⟨u, rfl, hou⟩ := he.out
                            rw [← HX12.out.2.1] at hou
                            obtain ⟨gu, cu, hu⟩ := owns_some (hou.done _ List.mem_cons_self) (by show 0 < x.2.length; rw [HX12.out.2.1]; simp)
                            change u = .slice (some ⟨gu, 0, none⟩) x.2.length cu at hu
                            subst hu
                            have hO4 : Own w w4 [eLab (.slice (some ⟨g2, 0, none⟩) n n) l2] (eInts (.slice (some ⟨gu, 0, none⟩) x.2.length cu) x.2 :: fs2) := HPS.out.own.join hou
                            clear he hou HWi q0 q1 k0 hps
                            obtain ⟨xl, hxl⟩ : ∃ xl, x.2.length = xl := ⟨_, rfl⟩
                            obtain ⟨w5, hw5⟩ : ∃ w5, w5 = w4.alloc (.cells #[.int .i64 ((y.1 : Int) + 1), .slice (some ⟨gu, 0, none⟩) xl cu] 51) := ⟨_, rfl⟩
                            have hB5 : Below w4.heap.size w4 w5 := by rw [hw5]; exact below_alloc _ _
                            have hO5 := hO4.on hB5
                            have x0 : w5.cell? ⟨w4.heap.size, 0, none⟩ = some (.int .i64 ((y.1 : Int) + 1)) := by rw [hw5]; exact cell_of_row _ _ 0 _ _ _ (heap_alloc_new w4 _)
                            have x1 : w5.cell? ⟨w4.heap.size, 1, none⟩ = some (.slice (some ⟨gu, 0, none⟩) xl cu) := by rw [hw5]; exact cell_of_row _ _ 1 _ _ _ (heap_alloc_new w4 _)
                            have HMore : Hid (∀ e ∈ eLab (.slice (some ⟨g, 0, none⟩) n cap) l :: fs, e ∈ eInts (.slice (some ⟨gu, 0, none⟩) x.2.length cu) x.2 :: fs2) := fun e he => List.mem_cons_of_mem _ (HPS.out.more e he)
                            have HO5 := Lib.hid hO5
                            have b2 := HBc.out w5 _ _ HO5.out (HMore.out _ (List.mem_cons_of_mem _ HMR.out.1)) 2 _ rfl
                            have hD := HD.out.on HO5.out.below
                            obtain ⟨ada, Ar, cr, hAe, hrb, hrc, hrl, hrl2, hri⟩ := hD.rows _ _ hr1
                            subst hAe
                            obtain ⟨adr, rfl, _, hrcell, hrlt⟩ := hri.get hr3
                            have HCt : Hid (∀ W, Below w5.heap.size w5 W → (W.cell? ⟨g2, t * 2, none⟩ = some (.int .i64 (costO ot)) ∧ W.frozen? ⟨g2, t * 2, none⟩ = false) ∧ W.cell? ⟨g2, t * 2 + 1, none⟩ = some (.slice At zt.length ct) ∧ W.frozen? ⟨g2, t * 2 + 1, none⟩ = false) := fun W hW => own_lab_cell (HO5.out.on hW) List.mem_cons_self HPS.out.len HLt.out
                            have HXc : Hid (∀ W, Below w5.heap.size w5 W → W.cell? ⟨w4.heap.size, 0, none⟩ = some (.int .i64 ((y.1 : Int) + 1)) ∧ W.cell? ⟨w4.heap.size, 1, none⟩ = some (.slice (some ⟨gu, 0, none⟩) xl cu)) := fun W hW => ⟨(hW.cell (World.block_lt_of_cell? _ _ x0)).trans x0, (hW.cell (World.block_lt_of_cell? _ _ x1)).trans x1⟩
                            have HBt : Hid (∀ W, Below w5.heap.size w5 W → Calls Tryd.prog 23 #[.agg #[.int .i64 ((y.1 : Int) + 1), .slice (some ⟨gu, 0, none⟩) xl cu], .agg #[.int .i64 (costO ot), .slice At zt.length ct]] W fun e w' => e = .returned (.bool (btr (some x) ot)) ∧ Below W.heap.size W w') := fun W hW => by
                              have hOW := HO5.out.on hW
                              obtain ⟨A9, c9, e9, q9, _, hI9⟩ := own_ints_at hOW (v := .slice (some ⟨gu, 0, none⟩) x.2.length cu) (l := x.2) (List.mem_append_right _ List.mem_cons_self) HSm.out
                              simp only [Value.slice.injEq] at e9
                              obtain ⟨hA9, _, hc9⟩ := e9
                              subst hA9
                              subst hc9
                              obtain ⟨A8, c8, z8, e8, hl8⟩ := lab_value hOW (words_more HPS.out.words (fun e he => List.mem_cons_of_mem _ he)) HLt.out
                              rw [← e8] at hl8
                              have hl9 : LabAt W (.agg #[.int .i64 ((y.1 : Int) + 1), .slice (some ⟨gu, 0, none⟩) xl cu]) (some x) := ⟨some ⟨gu, 0, none⟩, cu, x.2, by rw [← HX12.out.1, hxl], hI9, q9, fun q hq => by obtain rfl := Option.some.inj hq; rfl⟩
                              exact (better_any _ _ (some x) ot W hl9 hl8 (fun q hq => by obtain rfl := Option.some.inj hq; have := HX12.out.2.1; have h2 := HYb.out.1.1; rw [this, List.length_append]; simp; omega) (fun q hq => HYb.out.2 q (HRow.out.2.trans hq))).mono fun e w' ⟨h1, h2⟩ => ⟨h1.out, h2⟩
                            rw [hxl]
                            have HXl := Lib.hid hxl
                            clear hxl
                            have HK : Hid (∀ W, Below w5.heap.size w5 W → W.cell? ⟨w4.heap.size, 0, none⟩ = some (.int .i64 ((y.1 : Int) + 1)) ∧ W.cell? ⟨w4.heap.size, 1, none⟩ = some (.slice (some ⟨gu, 0, none⟩) xl cu) ∧ W.cell? ⟨g2, t * 2, none⟩ = some (.int .i64 (costO ot)) ∧ W.cell? ⟨g2, t * 2 + 1, none⟩ = some (.slice At zt.length ct)) := fun W hW => ⟨(HXc.out W hW).1, (HXc.out W hW).2, (HCt.out W hW).1.1, (HCt.out W hW).2.1⟩
                            have HD5 : Hid (Below w5.heap.size w5 w5.drew) := (Below.refl _ _).drew
                            have HW5 := Lib.hid hw5
                            have hrl9 : (c3 : Int) < (r.length : Int) := by omega
                            have et : (t : Int) < (n : Int) := by omega
                            rw [hw5] at b2 hrc hrcell
                            clear hw5 hB5 hO5 hO4 x0 x1 hD hri hr1 hr2 hr3
                            generalize r.length = rl at *
                            generalize zt.length = zl2 at *
                            go_wp2_with fail
                            rw [← HW5.out]
                            go_region_held3 (fun W => W.cell? ⟨w4.heap.size, 0, none⟩ = some (.int .i64 ((y.1 : Int) + 1)) ∧ W.cell? ⟨w4.heap.size, 1, none⟩ = some (.slice (some ⟨gu, 0, none⟩) xl cu) ∧ W.cell? ⟨g2, t * 2, none⟩ = some (.int .i64 (costO ot)) ∧ W.cell? ⟨g2, t * 2 + 1, none⟩ = some (.slice At zl2 ct))
                              (first | exact HK.out _ HB6.out | exact HK.out _ HD5.out)
                              (first | (go_at_call 23; refine (HBt.out _ HD5.out).mono ?_; rintro e w6 ⟨rfl, hb⟩; have HB6 := Lib.hid (HD5.out.trans (hb.mono HD5.out.size)); clear hb))
                            all_goals
                              obtain ⟨⟨t0, ft0⟩, t1, ft1⟩ := HCt.out _ HB6.out
                              obtain ⟨y0, y1⟩ := HXc.out _ HB6.out
                              rcases hbt : btr (some x) ot with _ | _
                              · have HNew : Hid (∃ (l2 : List Lv) (fs2 : List Ent), PS w w6 d (z.take i ++ [zx]) (41 * i + 41) n g2 n [] (eLab (.slice (some ⟨g, 0, none⟩) n cap) l :: fs) (rowF (delRow n l)) l2 fs2 ∧ DoneP d (rowF l) zx l2 k (c3 + 1)) := by
                                  refine ⟨l2, _, ⟨HO5.out.on HB6.out, HMore.out, HPS.out.len, words_more HPS.out.words (fun e he => List.mem_cons_of_mem _ he), HPS.out.sound, HPS.out.cap, HPS.out.low⟩, doneP_step HDn.out HRow.out.1 ?_⟩
                                  rw [HT.out, HX.out, lay_miss (by rw [HRow.out.2]; exact hbt)]
                                clear HBt HK HD5 HCt HXc HO5 HMore HDn HPS HB6 t0 ft0 t1 ft1 y0 y1 hbt
                                go_wp2
                                go_roundw
                                case rel => exact ⟨c3 + 1, by omega, by go_num, HNew⟩
                                case measure => simp [intOf]; omega
                              · have HNew : Hid (∃ (l2 : List Lv) (fs2 : List Ent), PS w ((w6.setCell ⟨g2, t * 2, none⟩ (.int .i64 ((y.1 : Int) + 1))).setCell ⟨g2, t * 2 + 1, none⟩ (.slice (some ⟨gu, 0, none⟩) xl cu)) d (z.take i ++ [zx]) (41 * i + 41) n g2 n [] (eLab (.slice (some ⟨g, 0, none⟩) n cap) l :: fs) (rowF (delRow n l)) l2 fs2 ∧ DoneP d (rowF l) zx l2 k (c3 + 1)) := by
                                  have htl : t < l2.length := by rw [HPS.out.len]; exact hr4
                                  have hbt2 : btr (some x) (rowF l2 t) = true := by rw [HRow.out.2]; exact hbt
                                  obtain ⟨k1, k2, k3⟩ := HSnd.out
                                  rw [HX.out] at k1 k2 k3
                                  rw [HT.out] at k2
                                  have hlay := rowF_lay htl (.slice (some ⟨gu, 0, none⟩) xl cu) hbt2
                                  have ho := own_lab_set (HO5.out.on HB6.out) HPS.out.len t (some x, .slice (some ⟨gu, 0, none⟩) xl cu)
                                  rw [show costO (some x, Value.slice (some ⟨gu, 0, none⟩) xl cu).1 = ((y.1 : Int) + 1) from HX12.out.1] at ho
                                  refine ⟨l2.set t (some x, .slice (some ⟨gu, 0, none⟩) xl cu), _, ⟨ho, HMore.out, by rw [List.length_set]; exact HPS.out.len, words_set HPS.out.words (fun e he => List.mem_cons_of_mem _ he) t (by rw [← HXl.out]; exact List.mem_cons_self) HSm.out, ?_, ?_, ?_⟩, ?_⟩
                                  · rw [hlay]; exact lay_sound HPS.out.sound k1 k2 k3
                                  · exact capd_set HPS.out.cap htl _ hbt2 (by rw [HX12.out.2.2]; have := HYb.out.1.2; omega)
                                  · rw [hlay]; exact lower_trans (lay_lower _ _ _) HPS.out.low
                                  · exact doneP_step HDn.out HRow.out.1 (by rw [HT.out, HX.out]; exact hlay)
                                clear HBt HK HD5 HCt HXc HO5 HMore HDn HPS HB6 hbt
                                go_wp2
                                go_roundw
                                case rel => exact ⟨c3 + 1, by omega, by go_num, HNew⟩
                                case measure => simp [intOf]; omega
                    · have HN3 := Lib.hid (HNx.out (.inl (by rw [HL.out]; omega)))
                      clear HS9 hps hdn hrow hlab q0 q1 hlk2 HNx
                      generalize zw.length = zwl at *
                      go_wp2
                      go_roundw
                      case rel => exact ⟨k + 1, by omega, by go_num, HN3⟩
                      case measure => simp [intOf]; omega
                · obtain rfl : n = k := by omega
                  obtain ⟨l2, fs2, hps, hdn⟩ := HS8.out
                  have hfull := full_then HMR.out.2.2.1 HMR.out.2.2.2.2.2 hps.low hdn
                  have hPut := put_any _ d (z.take i ++ [zx]) (41 * i + 41) n g2 n (rowF l2) w wr [] fs2 fs2 l2 HV.out HG.out HN.out (by rw [List.length_append, HIl.out]; simp; omega) (by omega) hfull ⟨hps.own, fun e he => he, hps.len, hps.words, hps.sound, hps.cap, lower_refl _⟩
                  rw [HN.out, HM.out] at hPut
                  have HPut := Lib.hid hPut
                  have hb0 := HBc.out wr _ _ hps.own (hps.more _ (List.mem_cons_of_mem _ HMR.out.1)) 0 _ rfl
                  have hb1 := HBc.out wr _ _ hps.own (hps.more _ (List.mem_cons_of_mem _ HMR.out.1)) 1 _ rfl
                  have hb2 := HBc.out wr _ _ hps.own (hps.more _ (List.mem_cons_of_mem _ HMR.out.1)) 2 _ rfl
                  have hb3 := HBc.out wr _ _ hps.own (hps.more _ (List.mem_cons_of_mem _ HMR.out.1)) 3 _ rfl
                  have HMo : Hid (∀ e ∈ (eLab (.slice (some ⟨g, 0, none⟩) n cap) l :: fs), e ∈ fs2) := hps.more
                  clear HS8 hps hdn hfull hPut
                  go_wp2_with fail
                  refine HPut.out.mono ?_
                  rintro e w9 he
                  obtain ⟨rfl, l4, fs4, ho4, hm4, hl4, hw4, hc4, hb4⟩ := he.out
                  have HNew : Hid (∃ (g' cap' : Nat) (l : List Lv) (fs : List Ent), Value.slice (some ⟨g2, 0, none⟩) n n = .slice (some ⟨g', 0, none⟩) n cap' ∧ MR w w9 d z bx n g' cap' (i + 1) l fs) :=
                    ⟨g2, n, l4, fs4, rfl, ho4, hm4 _ (HMo.out _ (List.mem_cons_of_mem _ HMR.out.1)), hm4 _ (HMo.out _ (List.mem_cons_of_mem _ HMR.out.2.1)), hl4, hw4, fun s x hx => by have h1 := hc4 s x hx; have h2 := cnt0_le l4; omega, by rw [HTk.out]; exact hb4⟩
                  clear he ho4 hm4 hl4 hw4 hc4 hb4 HPut hb0 hb1 hb2 hb3 HMo
                  go_wp2
                  go_roundw
                  case rel => exact ⟨i + 1, by omega, by go_num, HNew⟩
                  case measure => simp [intOf]; omega
        · obtain rfl : zl = i := by omega
          have hzt : z.take zl = z := List.take_of_length_le (by rw [HZl.out]; omega)
          have hbest : ∀ s, rowF l s = at_ d z s := fun s => by have := hMR.best s; rwa [hzt] at this
          obtain ⟨gb, hgb⟩ : ∃ gb, wr.heap.size = gb := ⟨_, rfl⟩
          have HMR := Lib.hid (And.intro hMR.box (And.intro hMR.nil0 (And.intro hMR.len (And.intro hMR.words (And.intro hMR.cost hbest)))))
          have HS6 : Hid (∃ u, Own w (wr.alloc (.cells #[.int .i64 (-1), .slice none 0 0] 51)) [(⟨51, 2, .slice (some ⟨gb, 0, none⟩) 1 1, 1, [.int .i64 (costO (selTo d z 0)), u]⟩ : Ent)] (eLab (.slice (some ⟨g, 0, none⟩) n cap) l :: fs) ∧ Words fs [(selTo d z 0, u)] ∧ ∀ x, selTo d z 0 = some x → x.1 ≤ 41 * zl + 40) := by
            refine ⟨.slice none 0 0, ?_, fun p hp => ?_, fun x hx => ?_⟩
            · have h1 := (hMR.own.lit 51 2 1 #[.int .i64 (-1), .slice none 0 0] rfl (by simp [maxLen])).two.fin
              rw [hgb] at h1
              rw [selTo_zero]
              exact h1
            · simp only [List.mem_cons, List.not_mem_nil, or_false] at hp
              subst hp
              exact ⟨[], hMR.nil0, by simp, fun x hx => by rw [selTo_zero] at hx; cases hx⟩
            · rw [selTo_zero] at hx; cases hx
          clear HS5 hMR hzt hbest
          go_wp2
          (try rw [hgb])
          clear hgb
          go_loopw [18] (fun sv wr => ∃ k : Nat, k ≤ n ∧ sv = .int .i64 k ∧ Hid (∃ u, Own w wr [(⟨51, 2, .slice (some ⟨gb, 0, none⟩) 1 1, 1, [.int .i64 (costO (selTo d z k)), u]⟩ : Ent)] (eLab (.slice (some ⟨g, 0, none⟩) n cap) l :: fs) ∧ Words fs [(selTo d z k, u)] ∧ ∀ x, selTo d z k = some x → x.1 ≤ 41 * zl + 40)) (fun sv _ => n - (intOf sv).toNat)
          case atStart => exact ⟨0, by omega, rfl, HS6⟩
          case round =>
            clear HS6
            obtain ⟨k, hk, rfl, HS7⟩ := hrel
            obtain ⟨u, hO, hWu, hcu⟩ := HS7.out
            obtain ⟨zu, hzu1, hzu2, hzu3⟩ := hWu _ List.mem_cons_self
            obtain ⟨Au, cu, hue, hcule, _, hIu⟩ := own_ints_at hO (v := u) (l := zu) (List.mem_append_right _ (List.mem_cons_of_mem _ hzu1)) hzu2
            subst hue
            obtain ⟨b0, fb0⟩ := hO.cell (t := 51) (sz := 2) (n := 1) (cap := 1) (g := gb) (xs := [.int .i64 (costO (selTo d z k)), .slice Au zu.length cu]) (j := 0) (List.mem_append_left _ List.mem_cons_self) rfl
            obtain ⟨b1, fb1⟩ := hO.cell (t := 51) (sz := 2) (n := 1) (cap := 1) (g := gb) (xs := [.int .i64 (costO (selTo d z k)), .slice Au zu.length cu]) (j := 1) (List.mem_append_left _ List.mem_cons_self) rfl
            by_cases hkn : k < n
            · have e2 : (k : Int) < (n : Int) := by omega
              have k3 := HBc.out wr _ _ hO (List.mem_cons_of_mem _ HMR.out.1) 3 _ rfl
              have hfin := HG.out.fin_at (q := k) (by rw [HN.out]; exact hkn)
              obtain ⟨adf, hFe, _, hfcell, hfm⟩ := (HD.out.on hO.below).fins.at_ hfin
              subst hFe
              rw [HM.out] at hfm
              have hlk : l[k]? = some (l[k]'(by rw [HMR.out.2.2.1]; exact hkn)) := List.getElem?_eq_getElem _
              obtain ⟨⟨r0, _⟩, r1, _⟩ := own_lab_cell hO (List.mem_append_right _ List.mem_cons_self) HMR.out.2.2.1 hlk
              have hrow := rowF_get hlk
              rw [HMR.out.2.2.2.2.2] at hrow
              obtain ⟨zw, hzw1, hzw2, hzw3⟩ := HMR.out.2.2.2.1 _ (List.mem_of_getElem? hlk)
              have hcost := fun y (hy : at_ d z k = some y) => HMR.out.2.2.2.2.1 k y ((HMR.out.2.2.2.2.2 k).trans hy)
              generalize l[k]'(by rw [HMR.out.2.2.1]; exact hkn) = pk at *
              obtain ⟨ok, uk⟩ := pk
              obtain rfl : at_ d z k = ok := hrow
              obtain ⟨Aw, cw, hpv, _, _, _⟩ := own_ints_at hO (v := uk) (l := zw) (List.mem_append_right _ (List.mem_cons_of_mem _ hzw1)) hzw2
              obtain rfl : uk = .slice Aw zw.length cw := hpv
              have HO := Lib.hid hO
              rcases hf : finA d k with _ | _
              · have hsel : selTo d z (k + 1) = selTo d z k := by rw [selTo_succ, hf]; rfl
                have HNew : Hid (∃ u, Own w wr.drew [(⟨51, 2, .slice (some ⟨gb, 0, none⟩) 1 1, 1, [.int .i64 (costO (selTo d z (k + 1))), u]⟩ : Ent)] (eLab (.slice (some ⟨g, 0, none⟩) n cap) l :: fs) ∧ Words fs [(selTo d z (k + 1), u)] ∧ ∀ x, selTo d z (k + 1) = some x → x.1 ≤ 41 * zl + 40) := by
                  rw [hsel]
                  exact ⟨_, HO.out.on (Below.refl _ _).drew, hWu, hcu⟩
                rw [hf] at hfcell
                clear HS7 hO hWu hcu hIu hlk r0 r1 hcost HO b0 b1 fb0 fb1 hfin hsel
                generalize zw.length = zwl at *
                go_wp2_with fail
                go_region
                all_goals
                  go_wp2
                  go_roundw
                  case rel => exact ⟨k + 1, by omega, by go_num, HNew⟩
                  case measure => simp [intOf]; omega
              · rw [hf] at hfcell
                have kp : ∀ (W : World), Below wr.heap.size wr W → ∀ {a : Addr} {u : Value}, wr.cell? a = some u → W.cell? a = some u := fun W hW a u hu => (hW.cell (World.block_lt_of_cell? _ _ hu)).trans hu
                have HK : Hid (∀ W, Below wr.heap.size wr W → W.cell? ⟨w.heap.size, 3, none⟩ = some (.slice (some adf) m cf) ∧ W.cell? (adf.add k) = some (.bool true) ∧ W.cell? ⟨g, k * 2, none⟩ = some (.int .i64 (costO (at_ d z k))) ∧ W.cell? ⟨g, k * 2 + 1, none⟩ = some (.slice Aw zw.length cw) ∧ W.cell? ⟨gb, 0, none⟩ = some (.int .i64 (costO (selTo d z k))) ∧ W.cell? ⟨gb, 1, none⟩ = some (.slice Au zu.length cu)) := fun W hW => ⟨kp W hW k3, kp W hW hfcell, kp W hW r0, kp W hW r1, kp W hW b0, kp W hW b1⟩
                have HBt : Hid (∀ W, Below wr.heap.size wr W → Calls Tryd.prog 23 #[.agg #[.int .i64 (costO (at_ d z k)), .slice Aw zw.length cw], .agg #[.int .i64 (costO (selTo d z k)), .slice Au zu.length cu]] W fun e w' => e = .returned (.bool (btr (at_ d z k) (selTo d z k))) ∧ Below W.heap.size W w') := fun W hW => by
                  obtain ⟨A8, c8, z8, e8, hl8⟩ := lab_value (HO.out.on hW) (words_more HMR.out.2.2.2.1 (fun e he => List.mem_cons_of_mem _ he)) hlk
                  rw [← e8] at hl8
                  have hl9 : LabAt W (.agg #[.int .i64 (costO (selTo d z k)), .slice Au zu.length cu]) (selTo d z k) := ⟨Au, cu, zu, rfl, hIu.on hW, hcule, hzu3⟩
                  exact (better_any _ _ (at_ d z k) (selTo d z k) W hl8 hl9 (fun y hy => by
                    have h1 := len_of_cost (at_sound d z k y hy).2.2
                    have h2 := hcost y hy
                    have h3 := HZl.out
                    omega) (fun y hy => by
                    have h0 := (bestOf_iff.1 hy).cost
                    have h1 := len_of_cost (p := z) (x := y) (by omega)
                    have h2 := hcu y hy
                    have h3 := HZl.out
                    omega)).mono fun e w' ⟨h1, h2⟩ => ⟨h1.out, h2⟩
                have HDr : Hid (Below wr.heap.size wr wr.drew) := (Below.refl _ _).drew
                have hsel := selTo_succ d z k
                rw [hf, Bool.true_and] at hsel
                have HSel := Lib.hid hsel
                have HCost := Lib.hid (And.intro hcost hcu)
                have HWW := Lib.hid (And.intro hWu (show Words fs [(at_ d z k, .slice Aw zw.length cw)] from fun p hp => by
                  simp only [List.mem_cons, List.not_mem_nil, or_false] at hp
                  subst hp
                  exact ⟨zw, hzw1, hzw2, hzw3⟩))
                clear HS7 hO hWu hcu hIu hlk hcost hfin hsel kp hzw3 hzu3
                generalize zw.length = zwl at *
                generalize zu.length = zul at *
                go_wp2_with fail
                go_region_held3 (fun W => W.cell? ⟨w.heap.size, 3, none⟩ = some (.slice (some adf) m cf) ∧ W.cell? (adf.add k) = some (.bool true) ∧ W.cell? ⟨g, k * 2, none⟩ = some (.int .i64 (costO (at_ d z k))) ∧ W.cell? ⟨g, k * 2 + 1, none⟩ = some (.slice Aw zwl cw) ∧ W.cell? ⟨gb, 0, none⟩ = some (.int .i64 (costO (selTo d z k))) ∧ W.cell? ⟨gb, 1, none⟩ = some (.slice Au zul cu))
                  (first | exact HK.out _ HB6.out | exact HK.out _ HDr.out)
                  (first | (go_at_call 23; refine (HBt.out _ HDr.out).mono ?_; rintro e w6 ⟨rfl, hb⟩; have HB6 := Lib.hid (HDr.out.trans (hb.mono HDr.out.size)); clear hb))
                all_goals
                  have HO6 := Lib.hid (HO.out.on HB6.out)
                  obtain ⟨c0', fc0⟩ := HO6.out.cell (t := 51) (sz := 2) (n := 1) (cap := 1) (g := gb) (xs := [.int .i64 (costO (selTo d z k)), .slice Au zul cu]) (j := 0) (List.mem_append_left _ List.mem_cons_self) rfl
                  obtain ⟨c1', fc1⟩ := HO6.out.cell (t := 51) (sz := 2) (n := 1) (cap := 1) (g := gb) (xs := [.int .i64 (costO (selTo d z k)), .slice Au zul cu]) (j := 1) (List.mem_append_left _ List.mem_cons_self) rfl
                  obtain ⟨_, _, r60, r61, _, _⟩ := HK.out _ HB6.out
                  rcases hbt : btr (at_ d z k) (selTo d z k) with _ | _
                  · have HNew : Hid (∃ u, Own w w6 [(⟨51, 2, .slice (some ⟨gb, 0, none⟩) 1 1, 1, [.int .i64 (costO (selTo d z (k + 1))), u]⟩ : Ent)] (eLab (.slice (some ⟨g, 0, none⟩) n cap) l :: fs) ∧ Words fs [(selTo d z (k + 1), u)] ∧ ∀ x, selTo d z (k + 1) = some x → x.1 ≤ 41 * zl + 40) := by
                      rw [HSel.out, hbt, if_neg (by decide)]
                      exact ⟨_, HO6.out, HWW.out.1, HCost.out.2⟩
                    clear HBt HK HDr HO HO6 HWW HCost HSel HB6 b0 b1 fb0 fb1 r0 r1 hfcell k3
                    go_wp2
                    go_roundw
                    case rel => exact ⟨k + 1, by omega, by go_num, HNew⟩
                    case measure => simp [intOf]; omega
                  · have HNew : Hid (∃ u, Own w ((w6.setCell ⟨gb, 0, none⟩ (.int .i64 (costO (at_ d z k)))).setCell ⟨gb, 1, none⟩ (.slice Aw zwl cw)) [(⟨51, 2, .slice (some ⟨gb, 0, none⟩) 1 1, 1, [.int .i64 (costO (selTo d z (k + 1))), u]⟩ : Ent)] (eLab (.slice (some ⟨g, 0, none⟩) n cap) l :: fs) ∧ Words fs [(selTo d z (k + 1), u)] ∧ ∀ x, selTo d z (k + 1) = some x → x.1 ≤ 41 * zl + 40) := by
                      rw [HSel.out, hbt, if_pos rfl]
                      exact ⟨_, ((HO6.out.set 0 (.int .i64 (costO (at_ d z k)))).set 1 (.slice Aw zwl cw)), HWW.out.2, HCost.out.1⟩
                    clear HBt HK HDr HO HO6 HWW HCost HSel HB6 b0 b1 fb0 fb1 r0 r1 hfcell k3
                    go_wp2
                    go_roundw
                    case rel => exact ⟨k + 1, by omega, by go_num, HNew⟩
                    case measure => simp [intOf]; omega
            · obtain rfl : n = k := by omega
              have hall := selTo_all HG.out z
              rw [HN.out] at hall
              rcases hse : selTo d z n with _ | x
              · have HE : Hid (mendW d z = none ∧ Below w.heap.size w wr) := ⟨by rw [← hall, hse], hO.below⟩
                rw [hse, show costO none = -1 from rfl] at b0
                clear HS7 hO hWu hcu hIu b1 fb0 fb1 hall hse
                go_wp2
                go_ret3
                exact .inr ⟨HE.out.1, rfl, HE.out.2⟩
              · have hx0 : (0 : Int) ≤ (x.1 : Int) := by omega
                have HE : Hid (mendW d z = some x ∧ Own w wr [] [eInts (.slice Au zu.length cu) x.2]) := by
                  refine ⟨by rw [← hall, hse], hO.only.weak fun e he => ?_⟩
                  simp only [List.mem_cons, List.not_mem_nil, or_false] at he
                  subst he
                  rw [hzu3 x hse]
                  exact List.mem_cons_of_mem _ hzu1
                rw [hse, show costO (some x) = (x.1 : Int) from rfl] at b0
                clear HS7 hO hWu hcu hIu fb0 fb1 hall hse hzu3
                generalize zu.length = zul at *
                go_wp2_with fail
                go_region
                all_goals
                  go_wp2
                  go_ret3
                  exact .inl ⟨x, _, HE.out.1, rfl, HE.out.2.on (Below.refl _ _).drew⟩
end Go.Proofs.YtfiknbdpjnpkdaaDoor.Me
