/- The walks of package mend: rows of costs. -/
import Derived.Test.YtfiknbdpjnpkdaaDoorMendN
import Derived.Test.YtfiknbdpjnpkdaaDoorDfaA
import Derived.Test.YtfiknbdpjnpkdaaDoorDfaW
import Derived.Test.YtfiknbdpjnpkdaaDoorRegL
namespace Go.Proofs.YtfiknbdpjnpkdaaDoor.Me
open Go.RowKit Go.IntWalk Go.Proofs.YtfiknbdpjnpkdaaDoor.Wd Go.Proofs.YtfiknbdpjnpkdaaDoor.Wo Go.Proofs.YtfiknbdpjnpkdaaDoor.Df Go.Proofs.YtfiknbdpjnpkdaaDoor.Rc Go.Proofs.YtfiknbdpjnpkdaaDoor.Ne

/-- The value of a row of n. -/
abbrev wv (g n : Nat) : Value := .slice (some ⟨g, 0, none⟩) n n
/-- The first p places anew. -/
def mixC (f g : Cs) (p : Nat) : Cs := fun t => if t < p then f t else g t
theorem mixC_zero (n : Nat) (f g : Cs) : cF n (mixC f g 0) = cF n g := cF_congr fun t _ => by unfold mixC; rw [if_neg (by omega)]
theorem mixC_all (n : Nat) (f g : Cs) : cF n (mixC f g n) = cF n f := cF_congr fun t ht => by unfold mixC; rw [if_pos ht]
theorem mixC_at (f g : Cs) (p : Nat) : mixC f g p p = g p := by unfold mixC; rw [if_neg (by omega)]
theorem mixC_next (n : Nat) (f g : Cs) (p : Nat) {x : Nat} (h : f p = x) : (cF n (mixC f g p)).set p (x : Int) = cF n (mixC f g (p + 1)) := by
  rw [cF_set]
  refine cF_congr fun t _ => ?_
  unfold updC mixC
  by_cases e : t = p
  · subst e; rw [if_pos rfl, if_pos (by omega), h]
  · rw [if_neg e]
    by_cases e2 : t < p
    · rw [if_pos e2, if_pos (by omega)]
    · rw [if_neg e2, if_neg (by omega)]
theorem mixC_same (n : Nat) (f g : Cs) (p : Nat) (h : f p = g p) : cF n (mixC f g p) = cF n (mixC f g (p + 1)) := by
  refine cF_congr fun t _ => ?_
  unfold mixC
  by_cases e : t = p
  · subst e; rw [if_neg (by omega), if_pos (by omega), h]
  · by_cases e2 : t < p
    · rw [if_pos e2, if_pos (by omega)]
    · rw [if_neg e2, if_neg (by omega)]
theorem cF_rep (n : Nat) : List.replicate n (0 : Int) = cF n (fun _ => 0) := by
  unfold cF; rw [List.map_const', List.length_range]; rfl
/-! ### making -/
set_option maxRecDepth 100000 in
theorem making_any (x a : Int) (w : World) : Calls Tryd.prog 57 #[.int .i64 x, .int .i64 a] w fun e w' => e = .returned (.int .i64 ((mk x a : Nat) : Int)) ∧ w' = w := by
  by_cases h : a = x
  · have h1 : (a == x) = true := int_eq h
    have HM : Hid (mk x a = 1) := by unfold Hid mk neq; rw [if_pos h.symm]
    clear h
    go_enter Tryd.func57, Tryd.ntmps57
    go_wp2
    go_ret
    exact ⟨by rw [HM.out]; rfl, rfl⟩
  · have h1 : (a == x) = false := int_ne h
    have HM : Hid (mk x a = 1001) := by unfold Hid mk neq; rw [if_neg (fun e => h e.symm)]
    clear h
    go_enter Tryd.func57, Tryd.ntmps57
    go_wp2
    go_ret
    exact ⟨by rw [HM.out]; rfl, rfl⟩
/-! ### ended -/
set_option maxRecDepth 100000 in
set_option maxHeartbeats 2000000 in
theorem ended_any (v : Value) (d : Aut) (n : Nat) (w : World) (h : DfaAt w w.heap.size v d) (gd : Df.Good d) (hn : d.next.length = n) :
    Calls Tryd.prog 50 #[v] w fun e w' => Hid (∃ g, e = .returned (wv g n) ∧ Own w w' [eInts (wv g n) (cF n (endC d))] []) := by
  obtain ⟨L, s, A, c, F, cf, rfl, h⟩ := h
  obtain ⟨w1, hw1, hB1, hX, hd1⟩ := box_dfa w h
  have HG := Lib.hid gd
  have h40 := gd.n40
  have HN := Lib.hid hn
  rw [gd.fin, hn] at hX hw1
  rw [gd.fin, hn]
  have HB := Lib.hid hB1
  have HW := Lib.hid hw1
  have HD : Hid (∀ W, Below w1.heap.size w1 W → DfaIs W W.heap.size L s A c F cf d) := fun W hW => hd1.on hW
  have hc2 := hX.c2
  have hc3 := hX.c3
  have HX := Lib.hid hX
  have hnn : n ≤ 40 := by rw [← hn]; exact h40
  clear h hw1 hB1 hX hd1 gd h40 hn
  go_enter Tryd.func50, Tryd.ntmps50
  go_wp2_with (at_make; rw [← HW.out]; refine mk_ints rfl _ _ rfl n rfl rfl (by omega) ?_)
  intro w2 ho
  have HO : Hid (Own w1 w2 [eInts (wv w1.heap.size n) (cF n (mixC (endC d) (fun _ => 0) 0))] []) := by rw [mixC_zero, ← cF_rep]; exact Own.of_nums ho
  have hc3 := (HX.out.on ho.2.1).c3
  clear ho HW hc2 HX
  have HDo : Hid (∀ W es fs, Own w1 W es fs → DfaIs W W.heap.size L s A c F cf d) := fun W es fs h => HD.out W h.below
  clear HD
  generalize hg : w1.heap.size = g at *
  have HGg := Lib.hid hg
  clear hg
  go_wp2
  clear hc3
  go_loopw [13] (fun i wr => ∃ (k : Nat), k ≤ n ∧ i = .int .i64 k ∧ Hid (Own w1 wr [eInts (wv g n) (cF n (mixC (endC d) (fun _ => 0) k))] [])) (fun i _ => n - (intOf i).toNat)
  case atStart => exact ⟨0, by omega, rfl, HO⟩
  case round =>
    clear HO
    obtain ⟨k, hk, rfl, HO⟩ := hrel
    by_cases hlt : k < n
    · obtain ⟨adf, rfl, hfb, hfc, hfl⟩ := (HDo.out _ _ _ HO.out).fins.at_ (HG.out.fin_at (q := k) (by rw [HN.out]; exact hlt))
      obtain ⟨k1, k2⟩ := own_ints_cell HO.out (List.mem_append_left _ List.mem_cons_self) (cF_length _ _) (cF_get _ hlt)
      have h1 := own_ints_set HO.out (cF_length _ _) k ((1000000 : Nat) : Int)
      have e1 : (k : Int) < (n : Int) := by omega
      rcases hf : finA d k with _ | _
      · have hz : endC d k = 1000000 := by unfold endC; rw [hf, if_neg (by decide)]
        rw [mixC_next _ _ _ _ hz] at h1
        rw [hf] at hfc
        have HE := Lib.hid h1
        clear HO h1 hz hfl hf hfb
        go_wp2
        go_roundw
        case rel => exact ⟨k + 1, by omega, by go_num, HE⟩
        case measure => simp [intOf]; omega
      · have hz : endC d k = 0 := by unfold endC; rw [hf, if_pos rfl]
        have HE : Hid (Own w1 wr [eInts (wv g n) (cF n (mixC (endC d) (fun _ => 0) (k + 1)))] []) := by rw [← mixC_same n (endC d) (fun _ => 0) k hz]; exact HO.out
        rw [hf] at hfc
        clear HO h1 hz hfl hf hfb
        go_wp2
        go_roundw
        case rel => exact ⟨k + 1, by omega, by go_num, HE⟩
        case measure => simp [intOf]; omega
    · obtain rfl : k = n := by omega
      have HE : Hid (Own w wr [eInts (wv g k) (cF k (endC d))] []) := by
        have h := HO.out.base HB.out
        rw [mixC_all] at h; exact h
      clear HO
      go_wp2
      go_ret
      exact ⟨_, rfl, HE.out⟩
/-! ### insert -/
def natOf : Option Value → Nat
  | some (.int _ x) => x.toNat
  | _ => 0
/-- The sum of a row's numbers, as memory says. -/
def sumM (w : World) (g : Nat) : Nat → Nat
  | 0 => 0
  | n + 1 => sumM w g n + natOf (w.cell? ⟨g, n, none⟩)
theorem sumM_eq {w0 w : World} {g n : Nat} {R : Cs} {es fs : List Ent} (h : Own w0 w (eInts (wv g n) (cF n R) :: es) fs) : ∀ m, m ≤ n → sumM w g m = sumC m R
  | 0, _ => rfl
  | m + 1, hm => by
    unfold sumM sumC
    rw [sumM_eq h m (by omega)]
    obtain ⟨k1, _⟩ := own_ints_cell h (List.mem_append_left _ List.mem_cons_self) (cF_length _ _) (cF_get R (show m < n by omega))
    rw [k1]
    simp [natOf]
/-- The row while letters are put in; b: has it changed since R1; what is ahead of letter c of state s has been looked at. -/
structure PI (w0 wr : World) (d : Aut) (p : List Int) (n g : Nat) (es fs : List Ent) (R1 R : Cs) (b : Bool) (s c : Nat) : Prop where
  own : Own w0 wr (eInts (wv g n) (cF n R) :: es) fs
  sound : SoundC d p R
  low : lowC n R R1
  no : b = false → (∀ t, t < n → R t = R1 t) ∧ ∀ s' c' : Nat, (s' < s ∨ s' = s ∧ c' < c) → s' < n → (c' : Int) < d.L → R1 s' ≤ 1001 + R1 (Df.step d s' c')
  yes : b = true → sumC n R < sumC n R1
section
variable {w0 wr : World} {d : Aut} {p : List Int} {n g : Nat} {es fs : List Ent} {R1 R : Cs} {b : Bool} {s c : Nat}
theorem PI.next (h : PI w0 wr d p n g es fs R1 R b s c) (hc : d.L ≤ (c : Int)) : PI w0 wr d p n g es fs R1 R b (s + 1) 0 :=
  ⟨h.own, h.sound, h.low, fun hb => ⟨(h.no hb).1, fun s' c' hs hn hl => (h.no hb).2 s' c' (by omega) hn hl⟩, h.yes⟩
theorem PI.miss (h : PI w0 wr d p n g es fs R1 R b s c) (hs : s < n) (ht : Df.step d s c < n) (hm : ¬ 1001 + R (Df.step d s c) < R s) : PI w0 wr d p n g es fs R1 R b s (c + 1) :=
  ⟨h.own, h.sound, h.low, fun hb => ⟨(h.no hb).1, fun s' c' hsc hn hl => by
    by_cases e : s' = s ∧ c' = c
    · obtain ⟨rfl, rfl⟩ := e
      have h1 := (h.no hb).1 s' hs
      have h2 := (h.no hb).1 _ ht
      omega
    · exact (h.no hb).2 s' c' (by omega) hn hl⟩, h.yes⟩
theorem PI.hit (h : PI w0 wr d p n g es fs R1 R b s c) (gd : Df.Good d) (hn : d.next.length = n) (hs : s < n) (hc : (c : Int) < d.L) (hm : 1001 + R (Df.step d s c) < R s) {w2 : World} (ho : Own w0 w2 (eInts (wv g n) (cF n (updC R s (1001 + R (Df.step d s c)))) :: es) fs) :
    PI w0 w2 d p n g es fs R1 (updC R s (1001 + R (Df.step d s c))) true s (c + 1) :=
  ⟨ho, updC_sound h.sound (by rw [hn]; exact hs) hc gd hm, updC_low h.low hm, (fun hb => by cases hb), fun _ => by
    have h1 := sumC_upd (n := n) (s := s) (m := 1001 + R (Df.step d s c)) (R := R) hs
    rcases b with _ | _
    · have := sumC_congr (h.no rfl).1
      omega
    · have := h.yes rfl
      omega⟩
theorem PI.shut (h : PI w0 wr d p n g es fs R1 R false n 0) (gd : Df.Good d) (hn : d.next.length = n) : ShutC d R := fun s a hs ha => by
  obtain ⟨h1, h2⟩ := h.no rfl
  rw [hn] at hs
  have h3 := h2 s a (.inl hs) hs ha
  rw [h1 s hs, h1 _ (by rw [← hn]; exact gd.step_lt (by rw [hn]; exact hs) ha)]
  exact h3
end
def isB : Value → Bool
  | .bool b => b
  | _ => false
set_option linter.unusedSimpArgs false in
set_option maxRecDepth 100000 in
set_option maxHeartbeats 4000000 in
theorem insert_any (v : Value) (d : Aut) (p : List Int) (n g : Nat) (R0 : Cs) (w0 w : World) (es fs : List Ent) (hd : DfaAt w0 w0.heap.size v d) (gd : Df.Good d) (hn : d.next.length = n) (hf : FullC d p R0) (hs : SoundC d p R0) (hO : Own w0 w (eInts (wv g n) (cF n R0) :: es) fs) :
    Calls Tryd.prog 51 #[v, wv g n] w fun e w' => Hid (e = .returned (.tuple #[]) ∧ Own w0 w' (eInts (wv g n) (cF n fun s => cst d s p) :: es) fs) := by
  obtain ⟨L, s, A, c, F, cf, rfl, h⟩ := hd
  obtain ⟨w1, hw1⟩ : ∃ w1, w1 = w.alloc (.cells #[.int .i64 L, .int .i64 s, .slice A d.next.length c, .slice F d.fin.length cf] 25) := ⟨_, rfl⟩
  have hO1 := (hO.lit 25 4 1 #[.int .i64 L, .int .i64 s, .slice A d.next.length c, .slice F d.fin.length cf] rfl (by simp [maxLen])).fin
  rw [← hw1] at hO1
  have HD := Lib.hid h
  have HG := Lib.hid gd
  have HF := Lib.hid hf
  have HW := Lib.hid hw1
  have HL := Lib.hid h.eL
  have hn40 : n ≤ 40 := by rw [← hn]; exact gd.n40
  rw [hn] at hO1 HW
  rw [hn]
  have HN := Lib.hid hn
  obtain ⟨m, hm⟩ : ∃ m, d.fin.length = m := ⟨_, rfl⟩
  rw [hm] at hO1 HW
  rw [hm]
  obtain ⟨fsb, hfsb⟩ : ∃ fsb, fsb = eDfa w.heap.size [.int .i64 L, .int .i64 s, .slice A n c, .slice F m cf] :: fs := ⟨_, rfl⟩
  have hO2 : Own w0 w1 (eInts (wv g n) (cF n R0) :: es) fsb := by rw [hfsb]; exact hO1
  have HFsb := Lib.hid hfsb
  have HS0 : Hid (∃ R, Own w0 w1 (eInts (wv g n) (cF n R) :: es) fsb ∧ SoundC d p R ∧ lowC n R R0 ∧ (true = false → ShutC d R)) := ⟨R0, hO2, hs, fun t _ => Nat.le_refl _, fun h => by cases h⟩
  clear h gd hf hw1 hn hO1 hO2 hs hm hfsb hO
  go_enter Tryd.func51, Tryd.ntmps51
  go_wp2
  rw [← HW.out]
  go_loopw [4] (fun ag wr => ∃ b : Bool, ag = .bool b ∧ Hid (∃ R, Own w0 wr (eInts (wv g n) (cF n R) :: es) fsb ∧ SoundC d p R ∧ lowC n R R0 ∧ (b = false → ShutC d R))) (fun ag wr => if isB ag = true then sumM wr g n + 1 else 0)
  case atStart => exact ⟨true, rfl, HS0⟩
  case round =>
    clear HS0 HW
    obtain ⟨b, rfl, HS⟩ := hrel
    rcases b with _ | _
    · have HE : Hid (Own w0 wr (eInts (wv g n) (cF n fun s => cst d s p) :: es) fs) := by
        obtain ⟨R, h1, h2, h3, h4⟩ := HS.out
        have h5 := closedC HG.out h2 HF.out (by rw [HN.out]; exact h3) (h4 rfl)
        rw [HN.out] at h5
        rw [cF_congr h5] at h1
        exact h1.weak (fun e he => by rw [HFsb.out]; exact List.mem_cons_of_mem _ he)
      clear HS
      go_wp2
      go_end0
      exact ⟨rfl, HE.out⟩
    · obtain ⟨R1, hq1, hq2, hq3, _⟩ := HS.out
      have HQ3 := Lib.hid hq3
      have HSum : Hid (sumM wr g n = sumC n R1) := sumM_eq hq1 n (Nat.le_refl _)
      have HS1 : Hid (∃ R, PI w0 wr d p n g es fsb R1 R false 0 0) := ⟨R1, hq1, hq2, fun t _ => Nat.le_refl _, fun _ => ⟨fun t _ => rfl, fun s' c' h => by omega⟩, fun h => by cases h⟩
      have k2 := (hq1.dcell (g := w.heap.size) (List.mem_append_right _ (by rw [HFsb.out]; exact List.mem_cons_self)) (j := 2) rfl).1
      clear HS hq1 hq2 hq3
      go_wp2
      clear k2
      go_loopw [4, 14] (fun ag sv w2 => ∃ (b2 : Bool) (s2 : Nat), s2 ≤ n ∧ ag = .bool b2 ∧ sv = .int .i64 s2 ∧ Hid (∃ R, PI w0 w2 d p n g es fsb R1 R b2 s2 0)) (fun _ sv _ => n - (intOf sv).toNat)
      case atStart => exact ⟨false, 0, by omega, rfl, rfl, HS1⟩
      case round =>
        clear HS1
        obtain ⟨b2, s2, hs2, rfl, rfl, HS2⟩ := hrel
        by_cases hlt : s2 < n
        · have e1 : (s2 : Int) < (n : Int) := by omega
          have hlt' : s2 < d.next.length := by rw [HN.out]; exact hlt
          obtain ⟨ada, Ar, cr, rfl, hrb, hrc, hrl, hrl2, hri⟩ := HD.out.rows s2 _ (List.getElem?_eq_getElem hlt')
          have hbel : Below w0.heap.size w0 wr := by obtain ⟨R, hps⟩ := HS2.out; exact hps.own.below
          have hrc := (hbel.cell (p := ada.add s2) (by rw [Wd.block_add]; exact hrb)).trans hrc
          have hll : ((d.next[s2]).length : Int) = d.L := HG.out.row _ (List.getElem_mem hlt')
          have HAt : Hid (∀ a : Nat, (a : Int) < d.L → (d.next[s2])[a]? = some ((Df.step d s2 a : Nat) : Int) ∧ Df.step d s2 a < n) := fun a ha => by
            obtain ⟨r, h1, _, _, h2, h3⟩ := HG.out.at_ hlt' ha
            rw [List.getElem?_eq_getElem hlt'] at h1
            obtain rfl := Option.some.inj h1
            rw [HN.out] at h3
            exact ⟨h2, h3⟩
          have HI := Lib.hid hri
          generalize d.next[s2] = r at *
          obtain ⟨l, hl⟩ : ∃ l, r.length = l := ⟨_, rfl⟩
          have HLl : Hid ((l : Int) = d.L) := by rw [← hl]; exact hll
          have hl6 : l ≤ 6 := by have h1 := HLl.out; have h2 := HG.out.l6; omega
          rw [hl] at hrc hrl
          clear hri hll hl hlt' hbel
          go_wp2
          go_loopw [4, 21] (fun ag av w3 => ∃ (b3 : Bool) (c3 : Nat), c3 ≤ l ∧ ag = .bool b3 ∧ av = .int .i64 c3 ∧ Hid (∃ R, PI w0 w3 d p n g es fsb R1 R b3 s2 c3)) (fun _ av _ => l - (intOf av).toNat)
          case atStart => exact ⟨b2, 0, by omega, rfl, rfl, HS2⟩
          case round =>
            clear HS2 hrc
            obtain ⟨b3, c3, hc3, rfl, rfl, HS3⟩ := hrel
            obtain ⟨R, hps⟩ := HS3.out
            by_cases hcl : c3 < l
            · have hcL : (c3 : Int) < d.L := by rw [← HLl.out]; omega
              obtain ⟨ha1, ha2⟩ := HAt.out c3 hcL
              obtain ⟨adr, rfl, _, hrcell, hrlt⟩ := (HI.out.on hps.own.below).get ha1
              obtain ⟨k1, _⟩ := own_ints_cell hps.own (List.mem_append_left _ List.mem_cons_self) (cF_length _ _) (cF_get R ha2)
              obtain ⟨k3, k4⟩ := own_ints_cell hps.own (List.mem_append_left _ List.mem_cons_self) (cF_length _ _) (cF_get R hlt)
              have hb1 := (hps.sound _ (by rw [HN.out]; exact ha2)).2
              have HPS := Lib.hid hps
              have e2 : (c3 : Int) < (l : Int) := by omega
              obtain ⟨t, ht⟩ : ∃ t, Df.step d s2 c3 = t := ⟨_, rfl⟩
              have HT := Lib.hid ht
              rw [ht] at k1 hb1 hrcell ha2
              obtain ⟨x, hx⟩ : ∃ x, R t = x := ⟨_, rfl⟩
              obtain ⟨y, hy⟩ : ∃ y, R s2 = y := ⟨_, rfl⟩
              have HXY := Lib.hid (And.intro hx hy)
              rw [hx] at k1 hb1
              rw [hy] at k3
              have e3 : (t : Int) < (n : Int) := by omega
              by_cases hlx : 1001 + x < y
              · have e4 : (1001 : Int) + (x : Int) < (y : Int) := by omega
                have HE : Hid (∃ R, PI w0 (wr.setCell ⟨g, s2, none⟩ (.int .i64 (1001 + (x : Int)))) d p n g es fsb R1 R true s2 (c3 + 1)) := by
                  have h1 := own_ints_set HPS.out.own (cF_length _ _) s2 ((1001 + x : Nat) : Int)
                  rw [cF_set, show ((1001 + x : Nat) : Int) = 1001 + (x : Int) by omega] at h1
                  rw [← HXY.out.1, ← HT.out] at h1
                  refine ⟨_, HPS.out.hit HG.out HN.out hlt hcL (by rw [HT.out, HXY.out.1, HXY.out.2]; exact hlx) ?_⟩
                  rw [HT.out, HXY.out.1] at h1 ⊢
                  exact h1
                clear HS3 hps HPS ht hx hy HXY HT ha1 hrlt hlx hcL
                go_wp2
                go_roundw
                case rel => exact ⟨true, c3 + 1, by omega, rfl, by go_num, HE⟩
                case measure => simp [intOf]; omega
              · have e4 : ¬ (1001 : Int) + (x : Int) < (y : Int) := by omega
                have HE : Hid (∃ R, PI w0 wr d p n g es fsb R1 R b3 s2 (c3 + 1)) := ⟨R, HPS.out.miss hlt (by rw [HT.out]; exact ha2) (by rw [HT.out, HXY.out.1, HXY.out.2]; exact hlx)⟩
                clear HS3 hps HPS ht hx hy HXY HT ha1 hrlt hlx hcL
                go_wp2
                go_roundw
                case rel => exact ⟨b3, c3 + 1, by omega, rfl, by go_num, HE⟩
                case measure => simp [intOf]; omega
            · have HE : Hid (∃ R, PI w0 wr d p n g es fsb R1 R b3 (s2 + 1) 0) := ⟨R, hps.next (by rw [← HLl.out]; omega)⟩
              have e2 : ¬ (c3 : Int) < (l : Int) := by omega
              clear HS3 hps
              go_wp2
              go_roundw
              case rel => exact ⟨b3, s2 + 1, by omega, rfl, by go_num, HE⟩
              case measure => simp [intOf]; omega
        · obtain rfl : s2 = n := by omega
          have e1 : ¬ (s2 : Int) < (s2 : Int) := by omega
          obtain ⟨R, hps⟩ := HS2.out
          rcases b2 with _ | _
          · have HE : Hid (∃ R, Own w0 wr (eInts (wv g s2) (cF s2 R) :: es) fsb ∧ SoundC d p R ∧ lowC s2 R R0 ∧ (false = false → ShutC d R)) := ⟨R, hps.own, hps.sound, fun t ht => Nat.le_trans (hps.low t ht) (HQ3.out t ht), fun _ => hps.shut HG.out HN.out⟩
            clear HS2 hps
            go_wp2
            go_roundw
            case rel => exact ⟨false, rfl, HE⟩
            case measure => simp [isB]
          · have HE : Hid (∃ R, Own w0 wr (eInts (wv g s2) (cF s2 R) :: es) fsb ∧ SoundC d p R ∧ lowC s2 R R0 ∧ (true = false → ShutC d R)) := ⟨R, hps.own, hps.sound, fun t ht => Nat.le_trans (hps.low t ht) (HQ3.out t ht), fun h => by cases h⟩
            have HLess : Hid (sumM wr g s2 < sumC s2 R1) := by
              unfold Hid
              rw [sumM_eq hps.own s2 (Nat.le_refl _)]
              exact hps.yes rfl
            clear HS2 hps
            go_wp2
            go_roundw
            case rel => exact ⟨true, rfl, HE⟩
            case measure => have h1 := HLess.out; have h2 := HSum.out; simp [isB]; omega
end Go.Proofs.YtfiknbdpjnpkdaaDoor.Me
