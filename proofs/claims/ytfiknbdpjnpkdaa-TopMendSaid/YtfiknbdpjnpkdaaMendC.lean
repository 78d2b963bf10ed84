/- The walks of package mend: rows of costs. The walks of package mend: the row of one letter more, the table of all costs. The walk of package mend's cheapest: the table of all costs. -/
import Derived.Test.YtfiknbdpjnpkdaaMendN
import Derived.Test.YtfiknbdpjnpkdaaDfaA
import Derived.Test.YtfiknbdpjnpkdaaDfaW
import Derived.Test.YtfiknbdpjnpkdaaRegL
import Derived.StillTailTactics

namespace Go.Proofs.Ytfiknbdpjnpkdaa.Me
open Go.RowKit Go.IntWalk Go.Proofs.Ytfiknbdpjnpkdaa.Wd Go.Proofs.Ytfiknbdpjnpkdaa.Wo Go.Proofs.Ytfiknbdpjnpkdaa.Df Go.Proofs.Ytfiknbdpjnpkdaa.Rc Go.Proofs.Ytfiknbdpjnpkdaa.Ne

/-- The value of a row of n. -/
abbrev wv (g n : Nat) : Value := .slice (some ⟨g, 0, none⟩) n n
/-- The first p places anew. -/
def mixC (f g : Cs) (p : Nat) : Cs := fun t => if t < p then f t else g t
theorem mixC_zero (n : Nat) (f g : Cs) : cF n (mixC f g 0) = cF n g := cF_congr fun t _ => by unfold mixC; rw [if_neg (by omega)]
theorem mixC_all (n : Nat) (f g : Cs) : cF n (mixC f g n) = cF n f := cF_congr fun t ht => by unfold mixC; rw [if_pos ht]
theorem mixC_at (f g : Cs) (p : Nat) : mixC f g p p = g p := by unfold mixC; rw [if_neg (by omega)]
theorem mixC_next (n : Nat) (f g : Cs) (p : Nat) {x : Nat} (h : f p = x) : (cF n (mixC f g p)).set p (x : Int) = cF n (mixC f g (p + 1)) := by
  rw [cF_set]
  refine cF_congr fun t _ => ?_
  unfold updC mixC
  by_cases e : t = p
  · subst e; rw [if_pos rfl, if_pos (by omega), h]
  · rw [if_neg e]
    by_cases e2 : t < p
    · rw [if_pos e2, if_pos (by omega)]
    · rw [if_neg e2, if_neg (by omega)]
theorem mixC_same (n : Nat) (f g : Cs) (p : Nat) (h : f p = g p) : cF n (mixC f g p) = cF n (mixC f g (p + 1)) := by
  refine cF_congr fun t _ => ?_
  unfold mixC
  by_cases e : t = p
  · subst e; rw [if_neg (by omega), if_pos (by omega), h]
  · by_cases e2 : t < p
    · rw [if_pos e2, if_pos (by omega)]
    · rw [if_neg e2, if_neg (by omega)]
theorem cF_rep (n : Nat) : List.replicate n (0 : Int) = cF n (fun _ => 0) := by
  unfold cF; rw [List.map_const', List.length_range]; rfl
/-! ### making -/
set_option maxRecDepth 100000 in
theorem making_any (x a : Int) (w : World) : Calls Try.prog 46 #[.int .i64 x, .int .i64 a] w fun e w' => e = .returned (.int .i64 ((mk x a : Nat) : Int)) ∧ w' = w := by
  by_cases h : a = x
  · have h1 : (a == x) = true := int_eq h
    have HM : Hid (mk x a = 1) := by unfold Hid mk neq; rw [if_pos h.symm]
    clear h
    go_enter Try.func46, Try.ntmps46
    go_wp2
    go_ret
    exact ⟨by rw [HM.out]; rfl, rfl⟩
  · have h1 : (a == x) = false := int_ne h
    have HM : Hid (mk x a = 1001) := by unfold Hid mk neq; rw [if_neg (fun e => h e.symm)]
    clear h
    go_enter Try.func46, Try.ntmps46
    go_wp2
    go_ret
    exact ⟨by rw [HM.out]; rfl, rfl⟩
/-! ### ended -/
set_option maxRecDepth 100000 in
set_option maxHeartbeats 2000000 in
theorem ended_any (v : Value) (d : Aut) (n : Nat) (w : World) (h : DfaAt w w.heap.size v d) (gd : Df.Good d) (hn : d.next.length = n) :
    Calls Try.prog 43 #[v] w fun e w' => Hid (∃ g, e = .returned (wv g n) ∧ Own w w' [eInts (wv g n) (cF n (endC d))] []) := by
  obtain ⟨L, s, A, c, F, cf, rfl, h⟩ := h
  obtain ⟨w1, hw1, hB1, hX, hd1⟩ := box_dfa w h
  have HG := Lib.hid gd
  have h40 := gd.n40
  have HN := Lib.hid hn
  rw [gd.fin, hn] at hX hw1
  rw [gd.fin, hn]
  have HB := Lib.hid hB1
  have HW := Lib.hid hw1
  have HD : Hid (∀ W, Below w1.heap.size w1 W → DfaIs W W.heap.size L s A c F cf d) := fun W hW => hd1.on hW
  have hc2 := hX.c2
  have hc3 := hX.c3
  have HX := Lib.hid hX
  have hnn : n ≤ 40 := by rw [← hn]; exact h40
  clear h hw1 hB1 hX hd1 gd h40 hn
  go_enter Try.func43, Try.ntmps43
  go_wp2_with (at_make; rw [← HW.out]; refine mk_ints rfl _ _ rfl n rfl rfl (by omega) ?_)
  intro w2 ho
  have HO : Hid (Own w1 w2 [eInts (wv w1.heap.size n) (cF n (mixC (endC d) (fun _ => 0) 0))] []) := by rw [mixC_zero, ← cF_rep]; exact Own.of_nums ho
  have hc3 := (HX.out.on ho.2.1).c3
  clear ho HW hc2 HX
  have HDo : Hid (∀ W es fs, Own w1 W es fs → DfaIs W W.heap.size L s A c F cf d) := fun W es fs h => HD.out W h.below
  clear HD
  generalize hg : w1.heap.size = g at *
  have HGg := Lib.hid hg
  clear hg
  go_wp2
  clear hc3
  go_loopw [13] (fun i wr => ∃ (k : Nat), k ≤ n ∧ i = .int .i64 k ∧ Hid (Own w1 wr [eInts (wv g n) (cF n (mixC (endC d) (fun _ => 0) k))] [])) (fun i _ => n - (intOf i).toNat)
  case atStart => exact ⟨0, by omega, rfl, HO⟩
  case round =>
    clear HO
    obtain ⟨k, hk, rfl, HO⟩ := hrel
    by_cases hlt : k < n
    · obtain ⟨adf, rfl, hfb, hfc, hfl⟩ := (HDo.out _ _ _ HO.out).fins.at_ (HG.out.fin_at (q := k) (by rw [HN.out]; exact hlt))
      obtain ⟨k1, k2⟩ := own_ints_cell HO.out (List.mem_append_left _ List.mem_cons_self) (cF_length _ _) (cF_get _ hlt)
      have h1 := own_ints_set HO.out (cF_length _ _) k ((1000000 : Nat) : Int)
      have e1 : (k : Int) < (n : Int) := by omega
      rcases hf : finA d k with _ | _
      · have hz : endC d k = 1000000 := by unfold endC; rw [hf, if_neg (by decide)]
        rw [mixC_next _ _ _ _ hz] at h1
        rw [hf] at hfc
        have HE := Lib.hid h1
        clear HO h1 hz hfl hf hfb
        go_wp2
        go_roundw
        case rel => exact ⟨k + 1, by omega, by go_num, HE⟩
        case measure => simp [intOf]; omega
      · have hz : endC d k = 0 := by unfold endC; rw [hf, if_pos rfl]
        have HE : Hid (Own w1 wr [eInts (wv g n) (cF n (mixC (endC d) (fun _ => 0) (k + 1)))] []) := by rw [← mixC_same n (endC d) (fun _ => 0) k hz]; exact HO.out
        rw [hf] at hfc
        clear HO h1 hz hfl hf hfb
        go_wp2
        go_roundw
        case rel => exact ⟨k + 1, by omega, by go_num, HE⟩
        case measure => simp [intOf]; omega
    · obtain rfl : k = n := by omega
      have HE : Hid (Own w wr [eInts (wv g k) (cF k (endC d))] []) := by
        have h := HO.out.base HB.out
        rw [mixC_all] at h; exact h
      clear HO
      go_wp2
      go_ret
      exact ⟨_, rfl, HE.out⟩
/-! ### insert -/
def natOf : Option Value → Nat
  | some (.int _ x) => x.toNat
  | _ => 0
/-- The sum of a row's numbers, as memory says. -/
def sumM (w : World) (g : Nat) : Nat → Nat
  | 0 => 0
  | n + 1 => sumM w g n + natOf (w.cell? ⟨g, n, none⟩)
theorem sumM_eq {w0 w : World} {g n : Nat} {R : Cs} {es fs : List Ent} (h : Own w0 w (eInts (wv g n) (cF n R) :: es) fs) : ∀ m, m ≤ n → sumM w g m = sumC m R
  | 0, _ => rfl
  | m + 1, hm => by
    unfold sumM sumC
    rw [sumM_eq h m (by omega)]
    obtain ⟨k1, _⟩ := own_ints_cell h (List.mem_append_left _ List.mem_cons_self) (cF_length _ _) (cF_get R (show m < n by omega))
    rw [k1]
    simp [natOf]
/-- The row while letters are put in; b: has it changed since R1; what is ahead of letter c of state s has been looked at. -/
structure PI (w0 wr : World) (d : Aut) (p : List Int) (n g : Nat) (es fs : List Ent) (R1 R : Cs) (b : Bool) (s c : Nat) : Prop where
  own : Own w0 wr (eInts (wv g n) (cF n R) :: es) fs
  sound : SoundC d p R
  low : lowC n R R1
  no : b = false → (∀ t, t < n → R t = R1 t) ∧ ∀ s' c' : Nat, (s' < s ∨ s' = s ∧ c' < c) → s' < n → (c' : Int) < d.L → R1 s' ≤ 1001 + R1 (Df.step d s' c')
  yes : b = true → sumC n R < sumC n R1
section
variable {w0 wr : World} {d : Aut} {p : List Int} {n g : Nat} {es fs : List Ent} {R1 R : Cs} {b : Bool} {s c : Nat}
theorem PI.next (h : PI w0 wr d p n g es fs R1 R b s c) (hc : d.L ≤ (c : Int)) : PI w0 wr d p n g es fs R1 R b (s + 1) 0 :=
  ⟨h.own, h.sound, h.low, fun hb => ⟨(h.no hb).1, fun s' c' hs hn hl => (h.no hb).2 s' c' (by omega) hn hl⟩, h.yes⟩
theorem PI.miss (h : PI w0 wr d p n g es fs R1 R b s c) (hs : s < n) (ht : Df.step d s c < n) (hm : ¬ 1001 + R (Df.step d s c) < R s) : PI w0 wr d p n g es fs R1 R b s (c + 1) :=
  ⟨h.own, h.sound, h.low, fun hb => ⟨(h.no hb).1, fun s' c' hsc hn hl => by
    by_cases e : s' = s ∧ c' = c
    · obtain ⟨rfl, rfl⟩ := e
      have h1 := (h.no hb).1 s' hs
      have h2 := (h.no hb).1 _ ht
      omega
    · exact (h.no hb).2 s' c' (by omega) hn hl⟩, h.yes⟩
theorem PI.hit (h : PI w0 wr d p n g es fs R1 R b s c) (gd : Df.Good d) (hn : d.next.length = n) (hs : s < n) (hc : (c : Int) < d.L) (hm : 1001 + R (Df.step d s c) < R s) {w2 : World} (ho : Own w0 w2 (eInts (wv g n) (cF n (updC R s (1001 + R (Df.step d s c)))) :: es) fs) :
    PI w0 w2 d p n g es fs R1 (updC R s (1001 + R (Df.step d s c))) true s (c + 1) :=
  ⟨ho, updC_sound h.sound (by rw [hn]; exact hs) hc gd hm, updC_low h.low hm, (fun hb => by cases hb), fun _ => by
    have h1 := sumC_upd (n := n) (s := s) (m := 1001 + R (Df.step d s c)) (R := R) hs
    rcases b with _ | _
    · have := sumC_congr (h.no rfl).1
      omega
    · have := h.yes rfl
      omega⟩
theorem PI.shut (h : PI w0 wr d p n g es fs R1 R false n 0) (gd : Df.Good d) (hn : d.next.length = n) : ShutC d R := fun s a hs ha => by
  obtain ⟨h1, h2⟩ := h.no rfl
  rw [hn] at hs
  have h3 := h2 s a (.inl hs) hs ha
  rw [h1 s hs, h1 _ (by rw [← hn]; exact gd.step_lt (by rw [hn]; exact hs) ha)]
  exact h3
end
def isB : Value → Bool
  | .bool b => b
  | _ => false
set_option linter.unusedSimpArgs false in
set_option maxRecDepth 100000 in
set_option maxHeartbeats 4000000 in
theorem insert_any (v : Value) (d : Aut) (p : List Int) (n g : Nat) (R0 : Cs) (w0 w : World) (es fs : List Ent) (hd : DfaAt w0 w0.heap.size v d) (gd : Df.Good d) (hn : d.next.length = n) (hf : FullC d p R0) (hs : SoundC d p R0) (hO : Own w0 w (eInts (wv g n) (cF n R0) :: es) fs) :
    Calls Try.prog 44 #[v, wv g n] w fun e w' => Hid (e = .returned (.tuple #[]) ∧ Own w0 w' (eInts (wv g n) (cF n fun s => cst d s p) :: es) fs) := by
  obtain ⟨L, s, A, c, F, cf, rfl, h⟩ := hd
  obtain ⟨w1, hw1⟩ : ∃ w1, w1 = w.alloc (.cells #[.int .i64 L, .int .i64 s, .slice A d.next.length c, .slice F d.fin.length cf] 25) := ⟨_, rfl⟩
  have hO1 := (hO.lit 25 4 1 #[.int .i64 L, .int .i64 s, .slice A d.next.length c, .slice F d.fin.length cf] rfl (by simp [maxLen])).fin
  rw [← hw1] at hO1
  have HD := Lib.hid h
  have HG := Lib.hid gd
  have HF := Lib.hid hf
  have HW := Lib.hid hw1
  have HL := Lib.hid h.eL
  have hn40 : n ≤ 40 := by rw [← hn]; exact gd.n40
  rw [hn] at hO1 HW
  rw [hn]
  have HN := Lib.hid hn
  obtain ⟨m, hm⟩ : ∃ m, d.fin.length = m := ⟨_, rfl⟩
  rw [hm] at hO1 HW
  rw [hm]
  obtain ⟨fsb, hfsb⟩ : ∃ fsb, fsb = eDfa w.heap.size [.int .i64 L, .int .i64 s, .slice A n c, .slice F m cf] :: fs := ⟨_, rfl⟩
  have hO2 : Own w0 w1 (eInts (wv g n) (cF n R0) :: es) fsb := by rw [hfsb]; exact hO1
  have HFsb := Lib.hid hfsb
  have HS0 : Hid (∃ R, Own w0 w1 (eInts (wv g n) (cF n R) :: es) fsb ∧ SoundC d p R ∧ lowC n R R0 ∧ (true = false → ShutC d R)) := ⟨R0, hO2, hs, fun t _ => Nat.le_refl _, fun h => by cases h⟩
  clear h gd hf hw1 hn hO1 hO2 hs hm hfsb hO
  go_enter Try.func44, Try.ntmps44
  go_wp2
  rw [← HW.out]
  go_loopw [4] (fun ag wr => ∃ b : Bool, ag = .bool b ∧ Hid (∃ R, Own w0 wr (eInts (wv g n) (cF n R) :: es) fsb ∧ SoundC d p R ∧ lowC n R R0 ∧ (b = false → ShutC d R))) (fun ag wr => if isB ag = true then sumM wr g n + 1 else 0)
  case atStart => exact ⟨true, rfl, HS0⟩
  case round =>
    clear HS0 HW
    obtain ⟨b, rfl, HS⟩ := hrel
    rcases b with _ | _
    · have HE : Hid (Own w0 wr (eInts (wv g n) (cF n fun s => cst d s p) :: es) fs) := by
        obtain ⟨R, h1, h2, h3, h4⟩ := HS.out
        have h5 := closedC HG.out h2 HF.out (by rw [HN.out]; exact h3) (h4 rfl)
        rw [HN.out] at h5
        rw [cF_congr h5] at h1
        exact h1.weak (fun e he => by rw [HFsb.out]; exact List.mem_cons_of_mem _ he)
      clear HS
      go_wp2
      go_end0
      exact ⟨rfl, HE.out⟩
    · obtain ⟨R1, hq1, hq2, hq3, _⟩ := HS.out
      have HQ3 := Lib.hid hq3
      have HSum : Hid (sumM wr g n = sumC n R1) := sumM_eq hq1 n (Nat.le_refl _)
      have HS1 : Hid (∃ R, PI w0 wr d p n g es fsb R1 R false 0 0) := ⟨R1, hq1, hq2, fun t _ => Nat.le_refl _, fun _ => ⟨fun t _ => rfl, fun s' c' h => by omega⟩, fun h => by cases h⟩
      have k2 := (hq1.dcell (g := w.heap.size) (List.mem_append_right _ (by rw [HFsb.out]; exact List.mem_cons_self)) (j := 2) rfl).1
      clear HS hq1 hq2 hq3
      go_wp2
      clear k2
      go_loopw [4, 14] (fun ag sv w2 => ∃ (b2 : Bool) (s2 : Nat), s2 ≤ n ∧ ag = .bool b2 ∧ sv = .int .i64 s2 ∧ Hid (∃ R, PI w0 w2 d p n g es fsb R1 R b2 s2 0)) (fun _ sv _ => n - (intOf sv).toNat)
      case atStart => exact ⟨false, 0, by omega, rfl, rfl, HS1⟩
      case round =>
        clear HS1
        obtain ⟨b2, s2, hs2, rfl, rfl, HS2⟩ := hrel
        by_cases hlt : s2 < n
        · have e1 : (s2 : Int) < (n : Int) := by omega
          have hlt' : s2 < d.next.length := by rw [HN.out]; exact hlt
          obtain ⟨ada, Ar, cr, rfl, hrb, hrc, hrl, hrl2, hri⟩ := HD.out.rows s2 _ (List.getElem?_eq_getElem hlt')
          have hbel : Below w0.heap.size w0 wr := by obtain ⟨R, hps⟩ := HS2.out; exact hps.own.below
          have hrc := (hbel.cell (p := ada.add s2) (by rw [Wd.block_add]; exact hrb)).trans hrc
          have hll : ((d.next[s2]).length : Int) = d.L := HG.out.row _ (List.getElem_mem hlt')
          have HAt : Hid (∀ a : Nat, (a : Int) < d.L → (d.next[s2])[a]? = some ((Df.step d s2 a : Nat) : Int) ∧ Df.step d s2 a < n) := fun a ha => by
            obtain ⟨r, h1, _, _, h2, h3⟩ := HG.out.at_ hlt' ha
            rw [List.getElem?_eq_getElem hlt'] at h1
            obtain rfl := Option.some.inj h1
            rw [HN.out] at h3
            exact ⟨h2, h3⟩
          have HI := Lib.hid hri
          generalize d.next[s2] = r at *
          obtain ⟨l, hl⟩ : ∃ l, r.length = l := ⟨_, rfl⟩
          have HLl : Hid ((l : Int) = d.L) := by rw [← hl]; exact hll
          have hl6 : l ≤ 6 := by have h1 := HLl.out; have h2 := HG.out.l6; omega
          rw [hl] at hrc hrl
          clear hri hll hl hlt' hbel
          go_wp2
          go_loopw [4, 21] (fun ag av w3 => ∃ (b3 : Bool) (c3 : Nat), c3 ≤ l ∧ ag = .bool b3 ∧ av = .int .i64 c3 ∧ Hid (∃ R, PI w0 w3 d p n g es fsb R1 R b3 s2 c3)) (fun _ av _ => l - (intOf av).toNat)
          case atStart => exact ⟨b2, 0, by omega, rfl, rfl, HS2⟩
          case round =>
            clear HS2 hrc
            obtain ⟨b3, c3, hc3, rfl, rfl, HS3⟩ := hrel
            obtain ⟨R, hps⟩ := HS3.out
            by_cases hcl : c3 < l
            · have hcL : (c3 : Int) < d.L := by rw [← HLl.out]; omega
              obtain ⟨ha1, ha2⟩ := HAt.out c3 hcL
              obtain ⟨adr, rfl, _, hrcell, hrlt⟩ := (HI.out.on hps.own.below).get ha1
              obtain ⟨k1, _⟩ := own_ints_cell hps.own (List.mem_append_left _ List.mem_cons_self) (cF_length _ _) (cF_get R ha2)
              obtain ⟨k3, k4⟩ := own_ints_cell hps.own (List.mem_append_left _ List.mem_cons_self) (cF_length _ _) (cF_get R hlt)
              have hb1 := (hps.sound _ (by rw [HN.out]; exact ha2)).2
              have HPS := Lib.hid hps
              have e2 : (c3 : Int) < (l : Int) := by omega
              obtain ⟨t, ht⟩ : ∃ t, Df.step d s2 c3 = t := ⟨_, rfl⟩
              have HT := Lib.hid ht
              rw [ht] at k1 hb1 hrcell ha2
              obtain ⟨x, hx⟩ : ∃ x, R t = x := ⟨_, rfl⟩
              obtain ⟨y, hy⟩ : ∃ y, R s2 = y := ⟨_, rfl⟩
              have HXY := Lib.hid (And.intro hx hy)
              rw [hx] at k1 hb1
              rw [hy] at k3
              have e3 : (t : Int) < (n : Int) := by omega
              by_cases hlx : 1001 + x < y
              · have e4 : (1001 : Int) + (x : Int) < (y : Int) := by omega
                have HE : Hid (∃ R, PI w0 (wr.setCell ⟨g, s2, none⟩ (.int .i64 (1001 + (x : Int)))) d p n g es fsb R1 R true s2 (c3 + 1)) := by
                  have h1 := own_ints_set HPS.out.own (cF_length _ _) s2 ((1001 + x : Nat) : Int)
                  rw [cF_set, show ((1001 + x : Nat) : Int) = 1001 + (x : Int) by omega] at h1
                  rw [← HXY.out.1, ← HT.out] at h1
                  refine ⟨_, HPS.out.hit HG.out HN.out hlt hcL (by rw [HT.out, HXY.out.1, HXY.out.2]; exact hlx) ?_⟩
                  rw [HT.out, HXY.out.1] at h1 ⊢
                  exact h1
                clear HS3 hps HPS ht hx hy HXY HT ha1 hrlt hlx hcL
                go_wp2
                go_roundw
                case rel => exact ⟨true, c3 + 1, by omega, rfl, by go_num, HE⟩
                case measure => simp [intOf]; omega
              · have e4 : ¬ (1001 : Int) + (x : Int) < (y : Int) := by omega
                have HE : Hid (∃ R, PI w0 wr d p n g es fsb R1 R b3 s2 (c3 + 1)) := ⟨R, HPS.out.miss hlt (by rw [HT.out]; exact ha2) (by rw [HT.out, HXY.out.1, HXY.out.2]; exact hlx)⟩
                clear HS3 hps HPS ht hx hy HXY HT ha1 hrlt hlx hcL
                go_wp2
                go_roundw
                case rel => exact ⟨b3, c3 + 1, by omega, rfl, by go_num, HE⟩
                case measure => simp [intOf]; omega
            · have HE : Hid (∃ R, PI w0 wr d p n g es fsb R1 R b3 (s2 + 1) 0) := ⟨R, hps.next (by rw [← HLl.out]; omega)⟩
              have e2 : ¬ (c3 : Int) < (l : Int) := by omega
              clear HS3 hps
              go_wp2
              go_roundw
              case rel => exact ⟨b3, s2 + 1, by omega, rfl, by go_num, HE⟩
              case measure => simp [intOf]; omega
        · obtain rfl : s2 = n := by omega
          have e1 : ¬ (s2 : Int) < (s2 : Int) := by omega
          obtain ⟨R, hps⟩ := HS2.out
          rcases b2 with _ | _
          · have HE : Hid (∃ R, Own w0 wr (eInts (wv g s2) (cF s2 R) :: es) fsb ∧ SoundC d p R ∧ lowC s2 R R0 ∧ (false = false → ShutC d R)) := ⟨R, hps.own, hps.sound, fun t ht => Nat.le_trans (hps.low t ht) (HQ3.out t ht), fun _ => hps.shut HG.out HN.out⟩
            clear HS2 hps
            go_wp2
            go_roundw
            case rel => exact ⟨false, rfl, HE⟩
            case measure => simp [isB]
          · have HE : Hid (∃ R, Own w0 wr (eInts (wv g s2) (cF s2 R) :: es) fsb ∧ SoundC d p R ∧ lowC s2 R R0 ∧ (true = false → ShutC d R)) := ⟨R, hps.own, hps.sound, fun t ht => Nat.le_trans (hps.low t ht) (HQ3.out t ht), fun h => by cases h⟩
            have HLess : Hid (sumM wr g s2 < sumC s2 R1) := by
              unfold Hid
              rw [sumM_eq hps.own s2 (Nat.le_refl _)]
              exact hps.yes rfl
            clear HS2 hps
            go_wp2
            go_roundw
            case rel => exact ⟨true, rfl, HE⟩
            case measure => have h1 := HLess.out; have h2 := HSum.out; simp [isB]; omega
end Go.Proofs.Ytfiknbdpjnpkdaa.Me

namespace Go.Proofs.Ytfiknbdpjnpkdaa.Me
open Go.RowKit Go.IntWalk Go.Proofs.Ytfiknbdpjnpkdaa.Wd Go.Proofs.Ytfiknbdpjnpkdaa.Wo Go.Proofs.Ytfiknbdpjnpkdaa.Df Go.Proofs.Ytfiknbdpjnpkdaa.Rc Go.Proofs.Ytfiknbdpjnpkdaa.Ne

/-! ### edited -/
/-- Go's min of two. -/
theorem min_two (x y v : Int) (hv : v = min x y) (W : World) : (Builtin.min_ #[3, 3] 3 #[.int .i64 x, .int .i64 y]).run Try.prog W = .ok (.int .i64 v) W := by
  have e : v = if y < x then y else x := by
    rw [hv]; split
    all_goals omega
  rw [e]
  simp [Builtin.min_, Builtin.min2]
/-- What is known of a state's cost when the first c letters have been tried. -/
noncomputable def edC (d : Aut) (x : Int) (p : List Int) (s : Nat) : Nat → Nat
  | 0 => min 1000000 (1000 + cst d s p)
  | c + 1 => min (edC d x p s c) (mk x (c : Int) + cst d (Df.step d s c) p)
theorem edC_le (d : Aut) (x : Int) (p : List Int) (s : Nat) : ∀ c, edC d x p s c ≤ 1000000 ∧ edC d x p s c ≤ 1000 + cst d s p
  | 0 => by unfold edC; omega
  | c + 1 => by have := edC_le d x p s c; unfold edC; omega
theorem edC_put (d : Aut) (x : Int) (p : List Int) (s : Nat) : ∀ c a : Nat, a < c → edC d x p s c ≤ mk x (a : Int) + cst d (Df.step d s a) p
  | 0, a, h => by omega
  | c + 1, a, h => by
    unfold edC
    by_cases e : a = c
    · subst e; omega
    · have := edC_put d x p s c a (by omega); omega
theorem edC_ge {d : Aut} {x : Int} {p : List Int} {s : Nat} : ∀ c : Nat, (c : Int) ≤ d.L → cst d s (x :: p) ≤ edC d x p s c
  | 0, _ => by
    have h1 := cst_never d s (x :: p)
    have h2 := cst_del (d := d) (s := s) (w := p) x
    unfold edC; omega
  | c + 1, h => by
    have h1 := edC_ge (d := d) (x := x) (p := p) (s := s) c (by omega)
    have h2 := cst_put (d := d) (s := s) (w := p) x (a := c) (by omega)
    unfold edC; omega
theorem edC_edited {d : Aut} (x : Int) (p : List Int) {l : Nat} (hl : (l : Int) = d.L) : Edited d x p (fun s => edC d x p s l) :=
  ⟨fun s _ => ⟨edC_ge l (by omega), (edC_le d x p s l).1⟩, fun s _ => (edC_le d x p s l).2, fun s a _ ha => edC_put d x p s l a (by omega)⟩
set_option linter.unusedSimpArgs false in
set_option maxRecDepth 100000 in
set_option maxHeartbeats 4000000 in
theorem edited_any (v : Value) (d : Aut) (n : Nat) (x : Int) (p : List Int) (B : Option Addr) (cb : Nat) (w : World) (h : DfaAt w w.heap.size v d) (gd : Df.Good d) (hn : d.next.length = n) (hB : IntsAt w w.heap.size B (cF n fun s => cst d s p)) :
    Calls Try.prog 45 #[v, .int .i64 x, .slice B n cb] w fun e w' => Hid (∃ g R, e = .returned (wv g n) ∧ Edited d x p R ∧ Own w w' [eInts (wv g n) (cF n R)] []) := by
  obtain ⟨L, s, A, c, F, cf, rfl, h⟩ := h
  obtain ⟨w1, hw1, hB1, hX, hd1⟩ := box_dfa w h
  have HG := Lib.hid gd
  have h40 := gd.n40
  have HN := Lib.hid hn
  rw [hn] at hX hw1
  rw [hn]
  have HB := Lib.hid hB1
  have HW := Lib.hid hw1
  have HD := Lib.hid hd1
  have hBi := hB.on hB1
  have HBi : Hid (∀ W es fs, Own w1 W es fs → IntsAt W W.heap.size B (cF n fun s => cst d s p)) := fun W es fs h => hBi.on h.below
  have hc2 := hX.c2
  have HX := Lib.hid hX
  have hnn : n ≤ 40 := by rw [← hn]; exact h40
  have HM := Lib.hid fun (a : Int) (W : World) => making_any x a W
  obtain ⟨l, hl⟩ : ∃ l : Nat, (l : Int) = d.L := ⟨d.L.toNat, by have := gd.l1; omega⟩
  have hl6 : l ≤ 6 := by have := gd.l6; omega
  have HLl := Lib.hid hl
  have HEd := Lib.hid (edC_edited x p hl)
  have HLe := Lib.hid fun s c => (edC_le d x p s c).1
  clear h hw1 hB1 hX hd1 gd h40 hn hB hBi hl
  generalize d.fin.length = m at *
  go_enter Try.func45, Try.ntmps45
  go_wp2_with (at_make; rw [← HW.out]; refine mk_ints rfl _ _ rfl n rfl rfl (by omega) ?_)
  intro w2 ho
  have HO : Hid (Own w1 w2 [eInts (wv w1.heap.size n) (cF n (mixC (fun s => edC d x p s l) (fun _ => 0) 0))] []) := by rw [mixC_zero, ← cF_rep]; exact Own.of_nums ho
  have hc2 := (HX.out.on ho.2.1).c2
  clear ho HW HX
  obtain ⟨g, hg⟩ : ∃ g, w1.heap.size = g := ⟨_, rfl⟩
  rw [hg] at HO ⊢
  clear hg
  go_wp2
  clear hc2
  go_loopw [19] (fun i wr => ∃ (k : Nat), k ≤ n ∧ i = .int .i64 k ∧ Hid (Own w1 wr [eInts (wv g n) (cF n (mixC (fun s => edC d x p s l) (fun _ => 0) k))] [])) (fun i _ => n - (intOf i).toNat)
  case atStart => exact ⟨0, by omega, rfl, HO⟩
  case round =>
    clear HO
    obtain ⟨k, hk, rfl, HO⟩ := hrel
    by_cases hlt : k < n
    · have e1 : (k : Int) < (n : Int) := by omega
      have hlt' : k < d.next.length := by rw [HN.out]; exact hlt
      obtain ⟨ada, Ar, cr, rfl, hrb, hrc, hrl, hrl2, hri⟩ := HD.out.rows k _ (List.getElem?_eq_getElem hlt')
      have hrc := (HO.out.below.cell (p := ada.add k) (by rw [Wd.block_add]; exact hrb)).trans hrc
      have hll : ((d.next[k]).length : Int) = d.L := HG.out.row _ (List.getElem_mem hlt')
      have HAt : Hid (∀ a : Nat, (a : Int) < d.L → (d.next[k])[a]? = some ((Df.step d k a : Nat) : Int) ∧ Df.step d k a < n) := fun a ha => by
        obtain ⟨r, h1, _, _, h2, h3⟩ := HG.out.at_ hlt' ha
        rw [List.getElem?_eq_getElem hlt'] at h1
        obtain rfl := Option.some.inj h1
        rw [HN.out] at h3
        exact ⟨h2, h3⟩
      have hbl := HO.out.below
      obtain ⟨adb, rfl, _, hbc, _⟩ := (HBi.out _ _ _ HO.out).get (cF_get _ hlt)
      obtain ⟨k1, k2⟩ := own_ints_cell HO.out (List.mem_append_left _ List.mem_cons_self) (cF_length _ _) (cF_get _ hlt)
      have hrll : (d.next[k]).length = l := by have := HLl.out; omega
      rw [hrll] at hrc hrl
      have hcs := cst_never d k p
      have hmin := min_two 1000000 (1000 + ((cst d k p : Nat) : Int)) ((edC d x p k 0 : Nat) : Int) (by unfold edC; omega)
      have hw1 : IntKind.i64.wrap (1000 + ((cst d k p : Nat) : Int)) = 1000 + ((cst d k p : Nat) : Int) := IntWalk.i64_in _ ⟨by omega, by omega⟩
      obtain ⟨y0, hy0⟩ : ∃ y0, edC d x p k 0 = y0 := ⟨_, rfl⟩
      have HO5 : Hid (Own w1 (wr.setCell ⟨g, k, none⟩ (.int .i64 (y0 : Int))) [eInts (wv g n) ((cF n (mixC (fun s => edC d x p s l) (fun _ => 0) k)).set k ((edC d x p k 0 : Nat) : Int))] []) := by rw [hy0]; exact own_ints_set HO.out (cF_length _ _) k _
      rw [hy0] at hmin
      have HI := Lib.hid hri
      clear HO hll hbl hri hrll hy0
      generalize d.next[k] = r at *
      generalize cst d k p = y at *
      clear hlt'
      go_wp2
      go_loopw [35] (fun i w3 => ∃ (q : Nat), q ≤ l ∧ i = .int .i64 q ∧ Hid (Own w1 w3 [eInts (wv g n) ((cF n (mixC (fun s => edC d x p s l) (fun _ => 0) k)).set k ((edC d x p k q : Nat) : Int))] [])) (fun i _ => l - (intOf i).toNat)
      case atStart => exact ⟨0, by omega, rfl, HO5⟩
      case round =>
        clear HO5 hrc hbc k1 k2 hmin hw1
        obtain ⟨q, hq, rfl, HO⟩ := hrel
        by_cases hql : q < l
        · have hqL : (q : Int) < d.L := by rw [← HLl.out]; omega
          obtain ⟨ha1, ha2⟩ := HAt.out q hqL
          obtain ⟨adr, rfl, _, hrcell, hrlt⟩ := (HI.out.on HO.out.below).get ha1
          obtain ⟨adb2, eb, _, hbc, _⟩ := (HBi.out _ _ _ HO.out).get (cF_get _ ha2)
          obtain rfl := Option.some.inj eb
          have hlen : ((cF n (mixC (fun s => edC d x p s l) (fun _ => 0) k)).set k ((edC d x p k q : Nat) : Int)).length = n := by rw [List.length_set, cF_length]
          obtain ⟨k1, k2⟩ := own_ints_cell HO.out (List.mem_append_left _ List.mem_cons_self) hlen (j := k) (x := ((edC d x p k q : Nat) : Int)) (by rw [List.getElem?_set_self (by rw [cF_length]; exact hlt)])
          have hE1 := HLe.out k q
          have hE2 := cst_never d (Df.step d k q) p
          have hmk : mk x (q : Int) ≤ 1001 := by unfold mk neq; split <;> omega
          have hmin := min_two ((edC d x p k q : Nat) : Int) (((mk x (q : Int) : Nat) : Int) + ((cst d (Df.step d k q) p : Nat) : Int)) ((edC d x p k (q + 1) : Nat) : Int) (by show _ = _; rw [edC]; omega)
          have HE : Hid (Own w1 (wr.setCell ⟨g, k, none⟩ (.int .i64 ((edC d x p k (q + 1) : Nat) : Int))) [eInts (wv g n) ((cF n (mixC (fun s => edC d x p s l) (fun _ => 0) k)).set k ((edC d x p k (q + 1) : Nat) : Int))] []) := by
            have h1 := own_ints_set HO.out hlen k ((edC d x p k (q + 1) : Nat) : Int)
            rwa [List.set_set] at h1
          have hMk := Lib.hid fun W => HM.out (q : Int) W
          have e2 : (q : Int) < (l : Int) := by omega
          have e3 : ((Df.step d k q : Nat) : Int) < (n : Int) := by omega
          clear HO ha1 hlen hrlt hqL
          generalize Df.step d k q = t at *
          generalize cst d t p = z at *
          generalize mk x (q : Int) = mz at *
          obtain ⟨y1, hy1⟩ : ∃ y1, edC d x p k (q + 1) = y1 := ⟨_, rfl⟩
          have HY1 := Lib.hid hy1
          rw [hy1] at hmin
          clear hy1
          generalize edC d x p k q = y2 at *
          have hw1 : IntKind.i64.wrap ((mz : Int) + (z : Int)) = (mz : Int) + (z : Int) := IntWalk.i64_in _ ⟨by omega, by omega⟩
          go_wp2_with fail
          refine wp_region_still_tail 16 (by kernel_rfl) (by kernel_rfl) ?_
          simp only [List.take_succ_cons, List.take_zero, List.drop_succ_cons, List.drop_zero]
          iterate 8 still_step
          still_call (hMk.out _)
          iterate 7 still_step
          refine wpStill_nil ?_
          change wpList _ _ _ _ _ wr.drew
          go_wp2
          go_roundw
          case rel => exact ⟨q + 1, by omega, by go_num, by rw [← HY1.out]; exact Lib.hid (Own.on HE.out (Below.refl _ _).drew)⟩
          case measure => simp [intOf]; omega
        · obtain rfl : q = l := by omega
          have HE : Hid (Own w1 wr [eInts (wv g n) (cF n (mixC (fun s => edC d x p s q) (fun _ => 0) (k + 1)))] []) := by
            have h := HO.out
            rwa [mixC_next n (fun s => edC d x p s q) (fun _ => 0) k rfl] at h
          have e2 : ¬ (q : Int) < (q : Int) := by omega
          clear HO
          go_wp2
          go_roundw
          case rel => exact ⟨k + 1, by omega, by go_num, HE⟩
          case measure => simp [intOf]; omega
    · obtain rfl : k = n := by omega
      have e2 : ¬ (k : Int) < (k : Int) := by omega
      have HE : Hid (Own w wr [eInts (wv g k) (cF k (fun s => edC d x p s l))] []) := by
        have h := HO.out.base HB.out
        rw [mixC_all] at h; exact h
      clear HO
      go_wp2
      go_ret
      exact ⟨g, rfl, _, HEd.out, HE.out⟩
end Go.Proofs.Ytfiknbdpjnpkdaa.Me

namespace Go.Proofs.Ytfiknbdpjnpkdaa.Me
open Go.RowKit Go.IntWalk Go.Proofs.Ytfiknbdpjnpkdaa.Wd Go.Proofs.Ytfiknbdpjnpkdaa.Wo Go.Proofs.Ytfiknbdpjnpkdaa.Df Go.Proofs.Ytfiknbdpjnpkdaa.Rc Go.Proofs.Ytfiknbdpjnpkdaa.Ne

/-- 'make([][]int, n)'. -/
theorem mk_irows {w : World} {ops : Array Oper} {rest : List Oper} {o : Oper} {a : Act} {Q : Exit → Act → World → Prop} (hgd : o.guard = none) (l c : Operand)
    (ho : o.op = Op.makeSlice 22 l c) (n : Nat) (hl : a.eval l = .int .i64 (n : Int)) (hc : a.eval c = .int .i64 (n : Int)) (hn : n ≤ 1099511627776)
    (h : ∀ w', Own w w' [eRows (.slice (some ⟨w.heap.size, 0, none⟩) n n) (List.replicate n (.slice none 0 0))] [] → wpList Try.prog ops Q rest (a.put o.dst (.slice (some ⟨w.heap.size, 0, none⟩) n n)) w') : wpList Try.prog ops Q (o :: rest) a w := by
  obtain ⟨i0, hi, hz0, hz1, hz2⟩ := info_parts infoRow
  refine wpList_make_full w hgd l c 22 ho w.heap.size 26 i0 (.slice none 0 0) 1 Try.underlying22 hi hz0 hz1 .i64 .i64 _ _ n hl hc rfl rfl (by rw [hz2]; omega) (by unfold maxLen; omega) (Nat.le_refl _) ?_
  intro w' hown hg
  refine h w' ⟨(Below.refl _ _).grown hg (Nat.le_refl _) (fun k hk => by cases hk), fun e he => ?_, fun e he => by simp at he, by simp, fun e _ f hf => by simp at hf⟩
  have e' : (madeCells (Value.slice none 0 0).cells (n * 1)).toList = List.replicate n (.slice none 0 0) := by
    have : (Value.slice none 0 0).cells = #[.slice none 0 0] := rfl
    rw [this, Nat.mul_one, toList_madeCells_one]
  simp at he; subst he
  rw [e'] at hown
  unfold eRows
  rw [List.length_replicate]
  exact hown
theorem own_irows_set {w0 w : World} {g n cap : Nat} {l : List Value} {es fs : List Ent} (h : Own w0 w (eRows (.slice (some ⟨g, 0, none⟩) n cap) l :: es) fs) (hl : l.length = n) (j : Nat) (x : Value) :
    Own w0 (w.setCell ⟨g, j, none⟩ x) (eRows (.slice (some ⟨g, 0, none⟩) n cap) (l.set j x) :: es) fs := by
  subst hl
  have h2 := Own.set (t := 26) (sz := 1) (n := l.length) (cap := cap) (xs := l) h j x
  unfold eRows
  rw [List.length_set]
  exact h2
theorem own_irows_cell {w0 w : World} {g n cap : Nat} {l : List Value} {es fs : List Ent} (h : Own w0 w es fs) (he : eRows (.slice (some ⟨g, 0, none⟩) n cap) l ∈ es ++ fs) (hl : l.length = n) {j : Nat} {x : Value} (hj : l[j]? = some x) :
    w.cell? ⟨g, j, none⟩ = some x ∧ w.frozen? ⟨g, j, none⟩ = false := by
  subst hl
  exact h.cell (t := 26) (sz := 1) (n := l.length) (cap := cap) (xs := l) he hj
/-- The rows of costs, from the first place of a word on. -/
noncomputable def rowsOf (d : Aut) (n : Nat) : List Int → List (List Int)
  | [] => [cF n fun s => cst d s []]
  | x :: p => (cF n fun s => cst d s (x :: p)) :: rowsOf d n p
theorem rowsOf_length (d : Aut) (n : Nat) : ∀ z : List Int, (rowsOf d n z).length = z.length + 1
  | [] => rfl
  | x :: p => by unfold rowsOf; rw [List.length_cons, rowsOf_length d n p, List.length_cons]
theorem rowsOf_head (d : Aut) (n : Nat) (z : List Int) : (rowsOf d n z)[0]? = some (cF n fun s => cst d s z) := by cases z <;> rfl
theorem rowsOf_at (d : Aut) (n : Nat) : ∀ (z : List Int) (i : Nat), i ≤ z.length → (rowsOf d n z)[i]? = some (cF n fun s => cst d s (z.drop i))
  | z, 0, _ => by rw [rowsOf_head, List.drop_zero]
  | [], i + 1, h => by simp at h
  | x :: p, i + 1, h => by unfold rowsOf; rw [List.getElem?_cons_succ, rowsOf_at d n p i (by simpa using h), List.drop_succ_cons]
theorem rowsOf_drop (d : Aut) (n : Nat) {z : List Int} {i : Nat} (h : i < z.length) : rowsOf d n (z.drop i) = (cF n fun s => cst d s (z.drop i)) :: rowsOf d n (z.drop (i + 1)) := by
  rw [drop_at h]; rfl
theorem cF_small {n : Nat} {R : Cs} (h : ∀ s, s < n → R s ≤ 1000000) : ∀ x ∈ cF n R, Small x := fun x hx => by
  unfold cF at hx
  obtain ⟨s, hs, rfl⟩ := List.mem_map.1 hx
  have := h s (List.mem_range.1 hs)
  exact ⟨by omega, by omega⟩
/-- The outer row while the last rows are there. -/
def lateV (p : Nat) (rs : List (Value × List Int)) : List Value := List.replicate p (.slice none 0 0) ++ rs.map (·.1)
theorem lateV_set (p : Nat) (rs : List (Value × List Int)) (v : Value) (l : List Int) : (lateV (p + 1) rs).set p v = lateV p ((v, l) :: rs) := by
  unfold lateV
  rw [List.set_append_left _ _ (by simp), List.replicate_succ', List.set_append_right _ _ (by simp)]
  simp
theorem lateV_get (p : Nat) (v : Value) (l : List Int) (rs : List (Value × List Int)) : (lateV p ((v, l) :: rs))[p]? = some v := by
  unfold lateV
  rw [List.getElem?_append_right (by simp)]
  simp
theorem lateV_length (p : Nat) (rs : List (Value × List Int)) : (lateV p rs).length = p + rs.length := by simp [lateV]
set_option linter.unusedSimpArgs false in
set_option maxRecDepth 100000 in
set_option maxHeartbeats 4000000 in
theorem cheapest_any (v : Value) (d : Aut) (n : Nat) (Z : Option Addr) (cz : Nat) (z : List Int) (w : World) (h : DfaAt w w.heap.size v d) (gd : Df.Good d) (hn : d.next.length = n) (hZ : IntsAt w w.heap.size Z z) (hz : z.length ≤ 80) :
    Calls Try.prog 32 #[v, .slice Z z.length cz] w fun e w' => Hid (∃ tv rs, e = .returned tv ∧ rs.map (·.2) = rowsOf d n z ∧ Own w w' [] (eRows tv (rs.map (·.1)) :: eEach rs)) := by
  have hV := h
  obtain ⟨L, s, A, c, F, cf, rfl, h⟩ := h
  obtain ⟨w1, hw1, hB1, hX, hd1⟩ := box_dfa w h
  have HG := Lib.hid gd
  have h40 := gd.n40
  have HN := Lib.hid hn
  have hV := hV.on hB1
  rw [gd.fin, hn] at hX hw1 hV
  rw [gd.fin, hn]
  have HV := Lib.hid hV
  have HB := Lib.hid hB1
  have HW := Lib.hid hw1
  have HX := Lib.hid hX
  have hZ1 := hZ.on hB1
  have HZ := Lib.hid hZ1
  have hnn : n ≤ 40 := by rw [← hn]; exact h40
  have hc0 := hX.c0
  have hc1 := hX.c1
  have hc2 := hX.c2
  have hc3 := hX.c3
  have HEnd := Lib.hid fun (W : World) (hW : DfaAt W W.heap.size (.agg #[.int .i64 L, .int .i64 s, .slice A n c, .slice F n cf]) d) => ended_any _ d n W hW gd hn
  have HIns := Lib.hid fun (p : List Int) (g : Nat) (R0 : Cs) (W : World) (es fs : List Ent) hf hs hO => insert_any _ d p n g R0 w1 W es fs hV gd hn hf hs hO
  have HEdt := Lib.hid fun (x : Int) (p : List Int) (B : Option Addr) (cb : Nat) (W : World) (hW : DfaAt W W.heap.size (.agg #[.int .i64 L, .int .i64 s, .slice A n c, .slice F n cf]) d) hB => edited_any _ d n x p B cb W hW gd hn hB
  clear h hw1 hB1 hX hd1 gd h40 hn hZ hZ1 hV
  obtain ⟨m, hm⟩ : ∃ m, z.length = m := ⟨_, rfl⟩
  rw [hm] at hz
  rw [hm]
  have HMl := Lib.hid hm
  clear hm
  go_enter Try.func32, Try.ntmps32
  go_wp2_with (at_make; rw [← HW.out]; refine mk_irows rfl _ _ rfl (m + 1) rfl rfl (by omega) ?_)
  intro w2 ho
  have HO := Lib.hid ho
  have HV2 := Lib.hid (HV.out.on ho.below)
  have HX2 := Lib.hid (HX.out.on ho.below)
  obtain ⟨g, hg⟩ : ∃ g, w1.heap.size = g := ⟨_, rfl⟩
  rw [hg] at HO ⊢
  have hgw : w.heap.size < g := by rw [← hg]; exact HX.out.lt
  clear hg ho HW hc0 hc1 hc2 hc3
  have hc0 := HX2.out.c0
  have hc1 := HX2.out.c1
  have hc2 := HX2.out.c2
  have hc3 := HX2.out.c3
  go_wp2_with fail
  refine (HEnd.out _ HV2.out).mono ?_
  rintro e w3 he
  obtain ⟨g3, rfl, ho⟩ := he.out
  have hj := HO.out.join ho
  have hj2 : Own w1 w3 (eRows (wv g (m + 1)) (List.replicate (m + 1) (.slice none 0 0)) :: [eInts (wv g3 n) (cF n (endC d))]) [] := hj.two
  obtain ⟨q1, q2⟩ := own_irows_cell hj2 (List.mem_append_left _ List.mem_cons_self) (by simp) (j := m) (x := .slice none 0 0) (by simp)
  have hst := own_irows_set hj2 (by simp) m (wv g3 n)
  rw [show List.replicate (m + 1) (Value.slice none 0 0) = lateV (m + 1) [] by simp [lateV], lateV_set m [] (wv g3 n) (cF n fun s => cst d s [])] at hst
  obtain ⟨w4, hw4⟩ : ∃ w4, w4 = w3.setCell ⟨g, m, none⟩ (wv g3 n) := ⟨_, rfl⟩
  rw [← hw4] at hst
  have HX4 := Lib.hid (HX.out.on hst.below)
  have HO4 := Lib.hid hst.two
  obtain ⟨q3, _⟩ := own_irows_cell hst (List.mem_append_left _ List.mem_cons_self) (by rw [lateV_length]; simp) (lateV_get m (wv g3 n) (cF n fun s => cst d s []) [])
  have HW4 := Lib.hid hw4
  have e1 : (m : Int) < (m : Int) + 1 := by omega
  clear he ho hj hj2 hst hw4 HEnd HO HV2 HX2 hc0 hc1 hc2 hc3
  have hc0 := HX4.out.c0
  have hc1 := HX4.out.c1
  have hc2 := HX4.out.c2
  have hc3 := HX4.out.c3
  go_wp2_with fail
  rw [← HW4.out]
  refine wp_region_still_tail 6 (by kernel_rfl) (by kernel_rfl) ?_
  simp only [List.take_succ_cons, List.take_zero, List.drop_succ_cons, List.drop_zero]
  iterate 6 still_step
  refine wpStill_nil ?_
  change wpList _ _ _ _ _ w4.drew
  go_wp2_with fail
  refine (HIns.out [] g3 (endC d) _ _ _ (endC_full d) (endC_sound d) (HO4.out.on (Below.refl _ _).drew)).mono ?_
  rintro e w5 he
  obtain ⟨rfl, ho5⟩ := he.out
  have HS : Hid (∃ rs, rs.map (·.2) = rowsOf d n (z.drop m) ∧ Own w1 w5 [eRows (wv g (m + 1)) (lateV m rs)] (eEach rs)) := ⟨[(wv g3 n, cF n fun s => cst d s [])], by rw [List.drop_of_length_le (by rw [HMl.out]; omega)]; rfl, ho5.fin⟩
  clear he ho5 HO4 HX4 HW4 hc0 hc1 hc2 hc3 q1 q2 q3
  go_wp2
  go_loopw [6] (fun i wr => ∃ (p : Nat) (x : Int), p ≤ m ∧ x = (p : Int) - 1 ∧ i = .int .i64 x ∧ Hid (∃ rs, rs.map (·.2) = rowsOf d n (z.drop p) ∧ Own w1 wr [eRows (wv g (m + 1)) (lateV p rs)] (eEach rs))) (fun i _ => (intOf i + 1).toNat)
  case atStart => exact ⟨m, (m : Int) - 1, by omega, rfl, rfl, HS⟩
  case round =>
    clear HS
    obtain ⟨p, x, hp, hx, rfl, HS⟩ := hrel
    rcases p with _ | q
    · have hx0 : x < 0 := by omega
      have HE : Hid (∃ tv rs, (.slice (some ⟨g, 0, none⟩) (m + 1) (m + 1) : Value) = tv ∧ rs.map (·.2) = rowsOf d n z ∧ Own w wr [] (eRows tv (rs.map (·.1)) :: eEach rs)) := by
        obtain ⟨rs, hrs, ho⟩ := HS.out
        refine ⟨_, rs, rfl, by rw [hrs, List.drop_zero], ?_⟩
        have h := (ho.base HB.out).fin
        rwa [show lateV 0 rs = rs.map (·.1) by simp [lateV]] at h
      clear HS hx
      go_wp2
      go_ret
      obtain ⟨tv, rs, rfl, h2, h3⟩ := HE.out
      exact ⟨_, rs, rfl, h2, h3⟩
    · obtain rfl : x = (q : Int) := by omega
      clear hx
      obtain ⟨rs, hrs, ho⟩ := HS.out
      have hqz : q < z.length := by rw [HMl.out]; omega
      obtain ⟨⟨v0, r0⟩, rs', rfl⟩ : ∃ p0 rs', rs = p0 :: rs' := by
        rcases rs with _ | ⟨p0, rs'⟩
        · have := rowsOf_head d n (z.drop (q + 1)); rw [← hrs] at this; simp at this
        · exact ⟨p0, rs', rfl⟩
      obtain rfl : r0 = cF n fun s => cst d s (z.drop (q + 1)) := by
        have := rowsOf_head d n (z.drop (q + 1)); rw [← hrs] at this; simpa using this
      have hsm : ∀ y ∈ cF n fun s => cst d s (z.drop (q + 1)), Small y := cF_small fun s _ => cst_never d s _
      obtain ⟨A0, c0, hv0, _, _, hI0⟩ := own_ints_at ho (v := v0) (List.mem_append_right _ (List.mem_map.2 ⟨(v0, _), List.mem_cons_self, rfl⟩)) hsm
      rw [cF_length] at hv0
      subst hv0
      have hlen : (lateV (q + 1) ((.slice A0 n c0, cF n fun s => cst d s (z.drop (q + 1))) :: rs')).length = m + 1 := by
        have h1 := congrArg List.length hrs
        rw [List.length_map, rowsOf_length, List.length_drop] at h1
        have h2 := HMl.out
        rw [lateV_length]; omega
      obtain ⟨q1, _⟩ := own_irows_cell ho (List.mem_append_left _ List.mem_cons_self) hlen (lateV_get (q + 1) _ _ rs')
      obtain ⟨adz, rfl, _, hzc, _⟩ := (HZ.out.on ho.below).get (List.getElem?_eq_getElem hqz)
      have hX := HX.out.on ho.below
      have hc0 := hX.c0
      have hc1 := hX.c1
      have hc2 := hX.c2
      have hc3 := hX.c3
      have HV6 := Lib.hid ((HV.out.on ho.below).on (Below.refl _ _).drew)
      have HI6 := Lib.hid (hI0.on (Below.refl _ _).drew)
      have HO6 := Lib.hid (ho.on (Below.refl _ _).drew)
      have HRs := Lib.hid hrs
      have HLn := Lib.hid hlen
      have hw1 : IntKind.i64.wrap ((q : Int) + 1) = (q : Int) + 1 := IntWalk.i64_in _ ⟨by omega, by omega⟩
      have e2 : (q : Int) < (m : Int) := by omega
      have e3 : (q : Int) < (m : Int) + 1 := by omega
      have e4 : (q : Int) + 1 < (m : Int) + 1 := by omega
      have e5 : (0 : Int) ≤ (q : Int) + 1 := by omega
      have HSl : Hid (Small z[q]) := (HZ.out.2 _ (List.getElem_mem hqz))
      clear HS hrs ho hsm hI0 hlen hX
      generalize hxq : z[q] = xq at *
      have HXq := Lib.hid hxq
      clear hxq
      go_wp2_with fail
      go_region_with ((go_at_call 45; refine (HEdt.out xq (z.drop (q + 1)) A0 c0 _ HV6.out HI6.out).mono ?_; rintro e w7 he; obtain ⟨g7, R, rfl, hed, ho7⟩ := he.out; have HEd := Lib.hid hed; have HO7 := Lib.hid (HO6.out.join ho7).two; obtain ⟨_, q2⟩ := own_irows_cell HO7.out (List.mem_append_left _ List.mem_cons_self) HLn.out (j := q) (x := .slice none 0 0) (by unfold lateV; rw [List.getElem?_append_left (by simp)]; simp); clear he hed ho7))
      all_goals
        have hst := own_irows_set HO7.out HLn.out q (wv g7 n)
        rw [lateV_set q ((.slice A0 n c0, cF n fun s => cst d s (z.drop (q + 1))) :: rs') (wv g7 n) (cF n R)] at hst
        obtain ⟨w8, hw8⟩ : ∃ w8, w8 = w7.setCell ⟨g, q, none⟩ (wv g7 n) := ⟨_, rfl⟩
        have HW8 := Lib.hid hw8
        rw [← hw8] at hst
        obtain ⟨q3, _⟩ := own_irows_cell hst (List.mem_append_left _ List.mem_cons_self) (by have := HLn.out; rw [lateV_length] at this ⊢; simp only [List.length_cons] at *; omega) (lateV_get q (wv g7 n) (cF n R) _)
        have hX := HX.out.on hst.below
        have HO8 := Lib.hid hst.two
        clear hw8 hst hc0 hc1 hc2 hc3 q1 q2 HO7 HO6 HI6 HV6 hzc
        have hc0 := hX.c0
        have hc1 := hX.c1
        have hc2 := hX.c2
        have hc3 := hX.c3
        go_wp2_with fail
        rw [← HW8.out]
        refine wp_region_still_tail 5 (by kernel_rfl) (by kernel_rfl) ?_
        simp only [List.take_succ_cons, List.take_zero, List.drop_succ_cons, List.drop_zero]
        iterate 5 still_step
        refine wpStill_nil ?_
        change wpList _ _ _ _ _ w8.drew
        have hdz : xq :: z.drop (q + 1) = z.drop q := by rw [← HXq.out]; exact (drop_at hqz).symm
        go_wp2_with fail
        refine (HIns.out (z.drop q) g7 R _ _ _ (by rw [← hdz]; exact edited_full HEd.out) (by rw [← hdz]; exact HEd.out.sound) (HO8.out.on (Below.refl _ _).drew)).mono ?_
        rintro e w9 he
        obtain ⟨rfl, ho9⟩ := he.out
        have HE : Hid (∃ rs, rs.map (·.2) = rowsOf d n (z.drop q) ∧ Own w1 w9 [eRows (wv g (m + 1)) (lateV q rs)] (eEach rs)) := by
          refine ⟨(wv g7 n, cF n fun s => cst d s (z.drop q)) :: (.slice A0 n c0, cF n fun s => cst d s (z.drop (q + 1))) :: rs', ?_, ho9.fin⟩
          rw [List.map_cons, HRs.out, rowsOf_drop d n hqz]
        clear he ho9 HO8 hX hc0 hc1 hc2 hc3 q3 HW8 hdz HEd
        go_wp2
        go_roundw
        case rel => exact ⟨q, (q : Int) - 1, by omega, rfl, by go_num, HE⟩
        case measure => simp [intOf]
end Go.Proofs.Ytfiknbdpjnpkdaa.Me
