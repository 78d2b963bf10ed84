/- The walks of the document's answer for package verdict: stilewardref2's Verdict, Settling and Watch. -/
import Derived.Test.YtblkaegnnokedaaDoorRefLive
import Derived.Test.YtblkaegnnokedaaDoorVerM
import Derived.Test.YtblkaegnnokedaaDoorDfaV
namespace Go.Proofs.YtblkaegnnokedaaDoor.Ve
open Go.RowKit Go.IntWalk Go.Proofs.YtblkaegnnokedaaDoor.Wd Go.Proofs.YtblkaegnnokedaaDoor.Wo Go.Proofs.YtblkaegnnokedaaDoor.Df Go.Proofs.YtblkaegnnokedaaDoor.Rc Go.Proofs.YtblkaegnnokedaaDoor.Sm Go.Proofs.YtblkaegnnokedaaDoor.Sa

/-- Is one of the first t states that s leads to not final? -/
def deadTo (d : Aut) (s t : Nat) : Bool := (List.range t).any fun x => isReached d s x && !finA d x
theorem deadTo_succ (d : Aut) (s t : Nat) : deadTo d s (t + 1) = (deadTo d s t || (isReached d s t && !finA d t)) := by unfold deadTo; rw [List.range_succ, List.any_append]; simp
theorem deadTo_full {d : Aut} (g : Df.Good d) {s : Nat} (hs : s < d.next.length) : deadTo d s d.next.length = isAlive (notA d) s := by
  rw [← liveTo_full (notA_good g) (by exact hs)]
  have e : ∀ n, n ≤ d.next.length → deadTo d s n = liveTo (notA d) s n := by
    intro n
    induction n with
    | zero => intro _; rfl
    | succ n ih =>
      intro h
      rw [deadTo_succ, liveTo_succ, ih (by omega), notA_fin g (show n < d.next.length by omega)]
      rfl
  exact e _ (Nat.le_refl _)
set_option linter.unusedSimpArgs false in
set_option maxRecDepth 100000 in
set_option maxHeartbeats 4000000 in
theorem rverdict_any (v : Value) (d : Aut) (s : Nat) (w : World) (h : DfaAt w w.heap.size v d) (hg : Df.Good d) (hs : s < d.next.length) :
    Calls Tryd.prog 13 #[v, .int .i64 (s : Int)] w fun e w' => Hid (e = .returned (.int .i64 ((verd d s : Nat) : Int))) ∧ Below w.heap.size w w' := by
  have HV := h
  obtain ⟨L, s0, A, c, F, cf, rfl, h⟩ := h
  obtain ⟨w1, hw1, hB1, hX, hd1⟩ := box_dfa w h
  have HB := Lib.hid hB1
  have HX := Lib.hid hX
  have HW := Lib.hid hw1
  have HD := Lib.hid hd1
  have HG := Lib.hid hg
  have HLd := Lib.hid (leads_any _ d w1 (HV.on hB1) hg)
  have hsn : s < d.next.length := hs
  have h40 := hg.n40
  have hfm : d.fin.length = d.next.length := hg.fin
  have hc0 := hX.c0
  have hc1 := hX.c1
  have hc2 := hX.c2
  have hc3 := hX.c3
  have HFs := Lib.hid (hg.fin_at hs)
  have HVd : Hid (verd d s = verN (liveTo d s d.next.length) (deadTo d s d.next.length) (finA d s)) := by unfold Hid verd; rw [liveTo_full hg hs, deadTo_full hg hs]
  clear h hd1 hw1 hX hB1 hg HV hs
  obtain ⟨N, hN⟩ : ∃ N, d.next.length = N := ⟨_, rfl⟩
  rw [hfm] at hc3 HW HX HLd
  rw [hN] at hc2 hc3 HW HX HLd hsn h40 HVd
  rw [hfm, hN]
  have HN := Lib.hid hN
  clear hN hfm
  go_enter Tryd.func13, Tryd.ntmps13
  go_wp2_with fail
  rw [← HW.out]
  clear HW
  refine HLd.out.mono ?_
  rintro e w2 he
  obtain ⟨At, ct, rs, h1, h2, h3, h4, h5⟩ := he.out
  subst h1
  have HT := Lib.hid h4
  have HLen := Lib.hid h2
  have HRows := Lib.hid h3
  have HX := Lib.hid (HX.out.on h5)
  have HD := Lib.hid (HD.out.on h5)
  have HB := Lib.hid (HB.out.trans (h5.mono HB.out.size))
  clear he h2 h3 h4 h5 HLd hc0 hc1 hc2 hc3
  obtain ⟨rk, hrk⟩ : ∃ r, rs[s]? = some r := ⟨_, List.getElem?_eq_getElem (by rw [HLen.out]; exact hsn)⟩
  obtain ⟨_, ⟨adt, e0, hatb, hakc⟩, _, hrkc⟩ := HT.out s rk hrk
  subst e0
  unfold brV at hakc
  have HKc : Hid (∀ q, q < N → w2.cell? ⟨rk.1, q, none⟩ = some (.bool (isReached d s q))) := fun q hq => hrkc q _ (by rw [HRows.out s rk hrk]; exact bF_get _ hq)
  have hc3 := HX.out.c3
  obtain ⟨adf, hF, hadf, hcfs, _⟩ := HD.out.fins.at_ HFs.out
  subst hF
  have HFa : Hid (∀ q, q < N → w2.cell? (adf.add q) = some (.bool (finA d q))) := fun q hq => by
    obtain ⟨ad9, hF, _, hcf9, _⟩ := HD.out.fins.at_ (HG.out.fin_at (q := q) (by rw [HN.out]; exact hq))
    obtain rfl := Option.some.inj hF
    exact hcf9
  have e0 : (s : Int) < (N : Int) := by omega
  clear hrkc hrk hatb hadf HD HX HLen HRows HT HFs
  go_wp2
  go_loop [6, 7, 8] (fun o t i => ∃ (k : Nat), k ≤ N ∧ i = .int .i64 k ∧ o = .bool (liveTo d s k) ∧ t = .bool (deadTo d s k)) (fun _ _ i => N - (intOf i).toNat)
  case atStart => exact ⟨0, by omega, rfl, rfl, rfl⟩
  case round =>
    obtain ⟨j, hj, rfl, rfl, rfl⟩ := hrel
    by_cases hjN : j < N
    · have hjc := HKc.out j hjN
      have hfj := HFa.out j hjN
      have e2 : (j : Int) < (N : Int) := by omega
      have HS1 := Lib.hid (liveTo_succ d s j)
      have HS2 := Lib.hid (deadTo_succ d s j)
      clear hcfs
      generalize isReached d s j = r1 at *
      generalize finA d j = f1 at *
      generalize liveTo d s j = b1 at *
      generalize deadTo d s j = b2 at *
      rcases r1 with _ | _
      · as_aux_lemma =>
          go_wp2
          go_round
          case rel => exact ⟨j + 1, by omega, by go_num, by rw [HS1.out]; simp, by rw [HS2.out]; simp⟩
          case measure => simp [intOf]; omega
      · rcases f1 with _ | _
        all_goals as_aux_lemma =>
          go_wp2
          go_round
          case rel => exact ⟨j + 1, by omega, by go_num, by rw [HS1.out]; simp, by rw [HS2.out]; simp⟩
          case measure => simp [intOf]; omega
    · obtain rfl : j = N := by omega
      clear HKc HFa hakc
      generalize liveTo d s j = b1 at *
      generalize deadTo d s j = b2 at *
      generalize finA d s = f at *
      rcases b1 with _ | _ <;> rcases b2 with _ | _ <;> rcases f with _ | _
      all_goals as_aux_lemma =>
        go_wp2
        go_ret
        exact ⟨by rw [HVd.out]; rfl, HB.out⟩

/-! ### Settling -/
theorem res_sett {fn : Func} {t : Tmp} (h : fn.results = #[.cell t 25]) (tmps : Array Value) {w : World} {g : Nat} {v0 v1 v2 v3 : Value} (hp : tmps.getD t undef = .pointer (some ⟨g, 0, none⟩))
    (c0 : w.cell? ⟨g, 0, none⟩ = some v0) (c1 : w.cell? ⟨g, 1, none⟩ = some v1) (c2 : w.cell? ⟨g, 2, none⟩ = some v2) (c3 : w.cell? ⟨g, 3, none⟩ = some v3) :
    (results fn tmps).run Tryd.prog w = .ok (.agg #[v0, v1, v2, v3]) w := by
  have hp' : tmps[t]?.getD undef = .pointer (some ⟨g, 0, none⟩) := by simpa using hp
  simp [results, h, hp', go_sem, c0, c1, c2, c3]
theorem settTo_succ (d : Aut) (k : Nat) : (List.range (k + 1)).map (settled d) = (List.range k).map (settled d) ++ [isSet (verd d k)] := by rw [List.range_succ, List.map_append]; rfl
/-- What is under way: the flags, the struct, the result's block. -/
def SettB (w2 wr : World) (g gr : Nat) (L s : Int) (nv fv : Value) (bs : List Bool) : Prop :=
  Own w2 wr (eBools fv bs :: eDfa g [.int .i64 L, .int .i64 s, nv, fv] :: eDfa gr zero4 :: []) []
theorem settB_flag {w2 w6 w7 : World} {g gr : Nat} {L s : Int} {nv fv fv' : Value} {bs : List Bool} (h : Own w2 w6 (eBools fv' bs :: eDfa g [.int .i64 L, .int .i64 s, nv, fv] :: eDfa gr zero4 :: []) []) (hw : w7 = w6.setCell ⟨g, 3, none⟩ fv') : SettB w2 w7 g gr L s nv fv' bs := by
  subst hw
  exact Own.two ((Own.two h).dset 3 fv')
set_option linter.unusedSimpArgs false in
set_option maxRecDepth 100000 in
set_option maxHeartbeats 4000000 in
theorem rsettling_any (v : Value) (d : Aut) (w : World) (h : DfaAt w w.heap.size v d) (hg : Df.Good d) :
    Calls Tryd.prog 15 #[v] w fun e w' => Hid (∃ x, e = .returned x ∧ DfaAt w' w'.heap.size x (settA d)) ∧ Below w.heap.size w w' := by
  have HV := h
  obtain ⟨L, s, A, c, F, cf, rfl, h⟩ := h
  obtain ⟨w1, hw1, hB1, hX, hd1⟩ := box_dfa w h
  have HV := Lib.hid (HV.on hB1)
  have HB := Lib.hid hB1
  have HX := Lib.hid hX
  have HD := Lib.hid hd1
  have HG := Lib.hid hg
  have h40 := hg.n40
  have hfm : d.fin.length = d.next.length := hg.fin
  have hs1 : w1.heap.size = w.heap.size + 1 := by rw [hw1]; simp
  have HO0 := (own_start w1).dfa (.int .i64 0) (.int .i64 0) (.slice none 0 0) (.slice none 0 0)
  rw [hs1] at HO0
  obtain ⟨w2, hw2⟩ : ∃ W, W = w1.alloc (.cells #[.int .i64 0, .int .i64 0, .slice none 0 0, .slice none 0 0] 25) := ⟨_, rfl⟩
  rw [← hw2] at HO0
  have hs2 : w2.heap.size = w.heap.size + 2 := by rw [hw2]; simp [hs1]
  have hX2 := hX.on HO0.below
  have HW2 : Hid (w2 = (w.alloc (.cells #[.int .i64 L, .int .i64 s, .slice A d.next.length c, .slice F d.fin.length cf] 25)).alloc (.cells #[.int .i64 0, .int .i64 0, .slice none 0 0, .slice none 0 0] 25)) := by unfold Hid; rw [hw2, hw1]
  have HO1 := ((HO0.dfa (.int .i64 L) (.int .i64 s) (.slice A d.next.length c) (.slice none 0 0)).nil 4 1)
  rw [hs2] at HO1
  obtain ⟨w3, hw3⟩ : ∃ W, W = w2.alloc (.cells #[.int .i64 L, .int .i64 s, .slice A d.next.length c, .slice none 0 0] 25) := ⟨_, rfl⟩
  rw [← hw3] at HO1
  have HW3 := Lib.hid hw3
  have HY : Hid (SettB w1 w3 (w.heap.size + 2) (w.heap.size + 1) L s (.slice A d.next.length c) (.slice none 0 0) ((List.range 0).map (settled d))) := HO1
  have hc0 := hX2.c0
  have hc1 := hX2.c1
  have hc2 := hX2.c2
  have hc3 := hX2.c3
  rw [HW2.out] at hc0 hc1 hc2 hc3
  have HDI := Lib.hid h
  clear h hd1 hX hB1 hg HO0 HO1 hs1 hs2 hX2 hw1 hw2
  rw [hfm] at hc3 HX HW2 HV hc0 hc1 hc2
  obtain ⟨N, hN⟩ : ∃ N, d.next.length = N := ⟨_, rfl⟩
  have HFm := Lib.hid hfm
  rw [hN] at hc2 hc3 HX HW2 hw3 h40 HY HV HW3 hc0 hc1
  rw [hfm, hN]
  have HN := Lib.hid hN
  clear hN hfm
  go_enter Tryd.func15, Tryd.ntmps15
  go_wp2
  rw [← HW2.out, ← HW3.out]
  clear HW2 HW3 hw3 hc0 hc1 hc2 hc3
  go_loopw [4] (fun i wr => ∃ (k : Nat) (fv : Value), k ≤ N ∧ i = .int .i64 k ∧ Hid (SettB w1 wr (w.heap.size + 2) (w.heap.size + 1) L s (.slice A N c) fv ((List.range k).map (settled d)))) (fun i _ => N - (intOf i).toNat)
  case atStart => exact ⟨0, _, by omega, rfl, HY⟩
  case round =>
    clear HY
    obtain ⟨k, fv, hk, rfl, HS⟩ := hrel
    have hbw := Own.below HS.out
    have HXw := Lib.hid (HX.out.on hbw)
    have hc0 := HXw.out.c0
    have hc1 := HXw.out.c1
    have hc2 := HXw.out.c2
    have hc3 := HXw.out.c3
    by_cases hkN : k < N
    · have hkn : k < d.next.length := by rw [HN.out]; exact hkN
      have HVw := Lib.hid (HV.out.on hbw)
      have HCv := Lib.hid (rverdict_any _ d k wr HVw.out HG.out hkn)
      have e1 : (k : Int) < (N : Int) := by omega
      have HSu := Lib.hid (settTo_succ d k)
      have hvk : verd d k = 0 ∨ verd d k = 1 ∨ verd d k = 2 ∨ verd d k = 3 := by have := verd_le d k; omega
      have hln : ((List.range k).map (settled d)).length < 17592186044416 := by rw [List.length_map, List.length_range]; omega
      clear hbw HVw
      generalize verd d k = x at *
      generalize (List.range k).map (settled d) = BS at *
      go_wp2_with fail
      refine HCv.out.mono ?_
      rintro e w5 ⟨he, hb⟩
      have he := he.out
      subst he
      have HS5 : Hid (SettB w1 w5 (w.heap.size + 2) (w.heap.size + 1) L s (.slice A N c) fv BS) := Own.on HS.out hb
      obtain ⟨q3, p3⟩ := Own.dcell (g := w.heap.size + 2) (l := [.int .i64 L, .int .i64 s, .slice A N c, fv]) (j := 3) HS5.out (by simp) rfl
      clear hb HCv HS hc0 hc1 hc2 hc3 HXw
      rcases hvk with rfl | rfl | rfl | rfl
      all_goals as_aux_lemma =>
        simp only [isSet, Nat.reduceBEq, Bool.or_true, Bool.true_or, Bool.or_false, Bool.or_self] at HSu
        go_wp2_with (at_builtin; refine own_bool (by rfl) _ _ (by rfl) (by rfl) HS5.out (by rfl) hln ?_)
        intro g6 cap6 w6 ho6
        obtain ⟨q9, p9⟩ := ho6.dcell (g := w.heap.size + 2) (l := [.int .i64 L, .int .i64 s, .slice A N c, fv]) (j := 3) (by simp) rfl
        have HB7 : Hid (SettB w1 (w6.setCell ⟨w.heap.size + 2, 3, none⟩ (.slice (some ⟨g6, 0, none⟩) (BS.length + 1) cap6)) (w.heap.size + 2) (w.heap.size + 1) L s (.slice A N c) (.slice (some ⟨g6, 0, none⟩) (BS.length + 1) cap6) ((List.range (k + 1)).map (settled d))) := by rw [HSu.out]; exact settB_flag ho6 rfl
        clear ho6 HS5 q3 p3 hln
        go_wp2
        go_roundw
        case rel => exact ⟨k + 1, _, by omega, by go_num, HB7⟩
        case measure => simp [intOf]; omega
    · obtain rfl : k = N := by omega
      obtain ⟨Ax, cx, hv, _⟩ := Own.form HS.out (e := eBools fv ((List.range k).map (settled d))) (by simp)
      simp only [eBools] at hv
      rw [List.length_map, List.length_range] at hv
      subst hv
      have HEnd : Hid (DfaAt ((((wr.setCell ⟨w.heap.size + 1, 0, none⟩ (.int .i64 L)).setCell ⟨w.heap.size + 1, 1, none⟩ (.int .i64 s)).setCell ⟨w.heap.size + 1, 2, none⟩ (.slice A k c)).setCell ⟨w.heap.size + 1, 3, none⟩ (.slice Ax k cx)) ((((wr.setCell ⟨w.heap.size + 1, 0, none⟩ (.int .i64 L)).setCell ⟨w.heap.size + 1, 1, none⟩ (.int .i64 s)).setCell ⟨w.heap.size + 1, 2, none⟩ (.slice A k c)).setCell ⟨w.heap.size + 1, 3, none⟩ (.slice Ax k cx)).heap.size (.agg #[.int .i64 L, .int .i64 s, .slice A k c, (.slice Ax k cx)]) (settA d) ∧
          Own w1 ((((wr.setCell ⟨w.heap.size + 1, 0, none⟩ (.int .i64 L)).setCell ⟨w.heap.size + 1, 1, none⟩ (.int .i64 s)).setCell ⟨w.heap.size + 1, 2, none⟩ (.slice A k c)).setCell ⟨w.heap.size + 1, 3, none⟩ (.slice Ax k cx)) [eDfa (w.heap.size + 1) [.int .i64 L, .int .i64 s, .slice A k c, (.slice Ax k cx)], eBools (.slice Ax k cx) ((List.range k).map (settled d)), eDfa (w.heap.size + 2) [.int .i64 L, .int .i64 s, .slice A k c, (.slice Ax k cx)]] []) := by
        have h2 := ((((Own.three HS.out).dset 0 (.int .i64 L)).dset 1 (.int .i64 s)).dset 2 (.slice A k c)).dset 3 (.slice Ax k cx)
        refine ⟨?_, h2⟩
        obtain ⟨F9, cf9, e9, b1, b2, b3⟩ := own_bools (fv := .slice Ax k cx) (bs := (List.range k).map (settled d)) h2 (by simp)
        have hd := HDI.out.on (HB.out.trans (h2.below.mono HB.out.size))
        refine ⟨L, s, A, c, F9, cf9, ?_, hd.eL, hd.es, hd.hL, hd.hs, hd.hc, hd.hc2, ?_, b2, hd.rows, ?_⟩
        · rw [e9]; simp [settA, HN.out]
        · simpa [settA, HN.out] using b1
        · simpa [settA, HN.out] using b3
      obtain ⟨hg0, _⟩ := Own.dcell (g := w.heap.size + 2) (l := [.int .i64 L, .int .i64 s, .slice A k c, (.slice Ax k cx)]) (j := 0) HS.out (by simp) rfl
      obtain ⟨hg1, _⟩ := Own.dcell (g := w.heap.size + 2) (l := [.int .i64 L, .int .i64 s, .slice A k c, (.slice Ax k cx)]) (j := 1) HS.out (by simp) rfl
      obtain ⟨hg2, _⟩ := Own.dcell (g := w.heap.size + 2) (l := [.int .i64 L, .int .i64 s, .slice A k c, (.slice Ax k cx)]) (j := 2) HS.out (by simp) rfl
      obtain ⟨hg3, _⟩ := Own.dcell (g := w.heap.size + 2) (l := [.int .i64 L, .int .i64 s, .slice A k c, (.slice Ax k cx)]) (j := 3) HS.out (by simp) rfl
      obtain ⟨hr0, hf0⟩ := Own.dcell (g := w.heap.size + 1) (l := zero4) (j := 0) HS.out (by simp) rfl
      obtain ⟨hr1, hf1⟩ := Own.dcell (g := w.heap.size + 1) (l := zero4) (j := 1) HS.out (by simp) rfl
      obtain ⟨hr2, hf2⟩ := Own.dcell (g := w.heap.size + 1) (l := zero4) (j := 2) HS.out (by simp) rfl
      obtain ⟨hr3, hf3⟩ := Own.dcell (g := w.heap.size + 1) (l := zero4) (j := 3) HS.out (by simp) rfl
      clear HS hbw HXw
      go_wp2
      have hc := fun (j : Nat) (u : Value) (hj : [Value.int .i64 L, .int .i64 s, .slice A k c, (.slice Ax k cx)][j]? = some u) => (HEnd.out.2.dcell (g := w.heap.size + 1) (l := [.int .i64 L, .int .i64 s, .slice A k c, (.slice Ax k cx)]) (by simp) hj).1
      refine bodyPost_ret (res_sett rfl _ rfl (hc 0 _ rfl) (hc 1 _ rfl) (hc 2 _ rfl) (hc 3 _ rfl)) rfl ?_
      exact ⟨⟨_, rfl, HEnd.out.1⟩, HB.out.trans (HEnd.out.2.below.mono HB.out.size)⟩
/-! ### Watch -/
theorem watch_no {d : Aut} {k : Nat} (hk : k < d.next.length) (h1 : isReached d d.s.toNat k = true) (h2 : isAlive (settA d) k = false) : watchB d = false := by
  rcases h : watchB d with _ | _
  · rfl
  · unfold watchB at h
    have h3 := List.all_eq_true.1 h k (List.mem_range.2 hk)
    rw [h1, h2] at h3
    cases h3
set_option linter.unusedSimpArgs false in
set_option maxRecDepth 100000 in
set_option maxHeartbeats 4000000 in
theorem rwatch_any (v : Value) (d : Aut) (w : World) (h : DfaAt w w.heap.size v d) (hg : Df.Good d) :
    Calls Tryd.prog 8 #[v] w fun e w' => Hid (e = .returned (.bool (watchB d))) ∧ Below w.heap.size w w' := by
  have HV := h
  obtain ⟨L, s, A, c, F, cf, rfl, h⟩ := h
  obtain ⟨w1, hw1, hB1, hX, hd1⟩ := box_dfa w h
  have HV := Lib.hid (HV.on hB1)
  have HB := Lib.hid hB1
  have HX := Lib.hid hX
  have HW := Lib.hid hw1
  have HG := Lib.hid hg
  have HSt := Lib.hid (fun v W (hA : DfaAt W W.heap.size v d) => rsettling_any v d W hA hg)
  have HLi := Lib.hid (fun v W (hA : DfaAt W W.heap.size v (settA d)) => live_any v (settA d) W hA (sett_good hg))
  have HLd := Lib.hid (fun v W (hA : DfaAt W W.heap.size v d) => leads_any v d W hA hg)
  obtain ⟨p, hp⟩ := Int.eq_ofNat_of_zero_le (show 0 ≤ s by have := hg.st.1; have := h.es; omega)
  subst hp
  have HPs : Hid (d.s.toNat = p) := by have := h.es; unfold Hid; omega
  have hpn : p < d.next.length := by have := hg.s_lt; have := h.es; omega
  have h40 := hg.n40
  have hc0 := hX.c0
  have hc1 := hX.c1
  have hc2 := hX.c2
  have hc3 := hX.c3
  have hsl : (settA d).next.length = d.next.length := rfl
  clear h hd1 hw1 hX hB1 hg
  generalize d.fin.length = m at *
  obtain ⟨N, hN⟩ : ∃ N, d.next.length = N := ⟨_, rfl⟩
  rw [hsl] at HLi
  rw [hN] at hc2 HW HX HV HLi HLd hpn h40
  rw [hN]
  have HN := Lib.hid hN
  clear hN hsl
  go_enter Tryd.func8, Tryd.ntmps8
  go_wp2_with fail
  rw [← HW.out]
  clear HW
  refine (HSt.out _ _ HV.out).mono ?_
  rintro e w2 ⟨he, hb⟩
  obtain ⟨x, rfl, hat⟩ := he.out
  obtain ⟨L9, s9, A9, n9, c9, F9, m9, k9, rfl⟩ := hat.form
  obtain ⟨w3, hw3, hbn, Vn⟩ := var_new w2 hat
  have hb := hb.trans (hbn.mono hb.size)
  have HV := Lib.hid (HV.out.on hb)
  have HX := Lib.hid (HX.out.on hb)
  have HB := Lib.hid (HB.out.trans (hb.mono HB.out.size))
  have HVn := Lib.hid Vn
  have HW3 := Lib.hid hw3
  clear he hat hb hbn Vn hc0 hc1 hc2 hc3 HSt
  obtain ⟨_, q1, q2, q3, q4⟩ := HVn.out.box
  rw [hw3] at q1 q2 q3 q4
  clear hw3
  go_wp2_with fail
  rw [← HW3.out]
  generalize hgg : w2.heap.size = g3 at *
  clear HW3 hgg
  refine (HLi.out _ _ HVn.out.at_).mono ?_
  rintro e w4 he
  obtain ⟨gl, h1, ho⟩ := he.out
  subst h1
  have HL := Lib.hid ho
  have hb := ho.below
  have HV := Lib.hid (HV.out.on hb)
  have HX := Lib.hid (HX.out.on hb)
  have HB := Lib.hid (HB.out.trans (hb.mono HB.out.size))
  clear he ho hb HLi q1 q2 q3 q4 HVn
  have hc0 := HX.out.c0
  have hc1 := HX.out.c1
  have hc2 := HX.out.c2
  have hc3 := HX.out.c3
  go_wp2_with fail
  refine (HLd.out _ _ HV.out).mono ?_
  rintro e w5 he
  obtain ⟨At, ct, rs, h1, h2, h3, h4, h5⟩ := he.out
  subst h1
  have HX := Lib.hid (HX.out.on h5)
  have HL := Lib.hid (HL.out.on h5)
  have HB := Lib.hid (HB.out.trans (h5.mono HB.out.size))
  obtain ⟨rp, hrp⟩ : ∃ r, rs[p]? = some r := ⟨_, List.getElem?_eq_getElem (by rw [h2]; exact hpn)⟩
  obtain ⟨_, ⟨adt, e0, hatb, hatc⟩, hrb, hrc0⟩ := h4 p rp hrp
  subst e0
  unfold brV at hatc
  have HPc : Hid (∀ q, q < N → w5.cell? ⟨rp.1, q, none⟩ = some (.bool (isReached d p q))) := fun q hq => hrc0 q _ (by rw [h3 p rp hrp]; exact bF_get _ hq)
  have hc1 := HX.out.c1
  have e0 : (p : Int) < (N : Int) := by omega
  clear he h2 h3 h4 h5 HLd hc0 hc2 hc3 hrc0 hrp hatb hrb HV
  go_wp2
  go_loop [6] (fun i => ∃ (k : Nat), k ≤ N ∧ i = .int .i64 k ∧ Hid (watchTo d k = true)) (fun i => N - (intOf i).toNat)
  case atStart => exact ⟨0, by omega, rfl, rfl⟩
  case round =>
    obtain ⟨k, hk, rfl, HT⟩ := hrel
    by_cases hkN : k < N
    · have hkn : k < d.next.length := by rw [HN.out]; exact hkN
      have hpc := HPc.out k hkN
      obtain ⟨hlc, _⟩ := own_bools_cell HL.out (List.mem_append_right _ List.mem_cons_self) (bF_length _ _) (bF_get (isAlive (settA d)) hkN)
      have e1 : (k : Int) < (N : Int) := by omega
      have HSu := Lib.hid (watchTo_succ d k)
      rw [HPs.out, HT.out] at HSu
      rcases h1 : isReached d p k with _ | _
      · have HTn : Hid (watchTo d (k + 1) = true) := by unfold Hid; rw [HSu.out, h1]; rfl
        rw [h1] at hpc
        clear h1 HSu HT
        generalize isAlive (settA d) k = al at *
        as_aux_lemma =>
          go_wp2
          go_round
          case rel => exact ⟨k + 1, by omega, by go_num, HTn⟩
          case measure => simp [intOf]; omega
      · rcases h2 : isAlive (settA d) k with _ | _
        · have HNo : Hid (watchB d = false) := watch_no hkn (by rw [HPs.out]; exact h1) h2
          rw [h1] at hpc
          rw [h2] at hlc
          clear h1 h2 HSu HT
          as_aux_lemma =>
            go_wp2
            go_ret
            exact ⟨by rw [HNo.out]; rfl, HB.out⟩
        · have HTn : Hid (watchTo d (k + 1) = true) := by unfold Hid; rw [HSu.out, h1, h2]; rfl
          rw [h1] at hpc
          rw [h2] at hlc
          clear h1 h2 HSu HT
          as_aux_lemma =>
            go_wp2
            go_round
            case rel => exact ⟨k + 1, by omega, by go_num, HTn⟩
            case measure => simp [intOf]; omega
    · obtain rfl : k = N := by omega
      have HYes : Hid (watchB d = true) := by unfold Hid; rw [← watchTo_all, HN.out]; exact HT.out
      clear HT
      go_wp2
      go_ret
      exact ⟨by rw [HYes.out]; rfl, HB.out⟩
end Go.Proofs.YtblkaegnnokedaaDoor.Ve
